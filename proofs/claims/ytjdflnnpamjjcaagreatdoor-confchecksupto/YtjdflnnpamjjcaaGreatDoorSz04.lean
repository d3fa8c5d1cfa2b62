/- Chapter 13 in plain words: what is wrong with a configuration, a fact a return. -/
import Derived.Test.YtjdflnnpamjjcaaGreatDoorSz01
import Derived.Test.YtjdflnnpamjjcaaGreatDoorSz02
import Derived.Test.YtjdflnnpamjjcaaGreatDoorSz03
import Derived.BigQuiet
import Derived.Laws.StructEq
import Derived.Test.YtjdflnnpamjjcaaGreatDoorConfPlain
import Derived.WideShapes
import Derived.Test.YtjdflnnpamjjcaaGreatDoorConfPlain4
import Derived.Test.YtjdflnnpamjjcaaGreatDoorTriePlain
namespace Go.Proofs.YtjdflnnpamjjcaaGreatDoor
open Go.RowKit

/-- Two networks: the same or not, as the walks ask. -/
theorem net_parts (x y : Nat × Int) : x = y ∨ (x ≠ y ∧ (((x.1 : Int) == (y.1 : Int)) = false ∨ (x.1 = y.1 ∧ (x.2 == y.2) = false))) := by
  by_cases h : x.1 = y.1
  · by_cases h2 : x.2 = y.2
    · exact .inl (Prod.ext h h2)
    · exact .inr ⟨fun e => h2 (by rw [e]), .inr ⟨h, by simpa using h2⟩⟩
  · exact .inr ⟨fun e => h (by rw [e]), .inl (by simp; omega)⟩
set_option maxRecDepth 20000 in
set_option maxHeartbeats 3200000 in
theorem nets_Index (a : Option Addr) (n c : Nat) (l : List (Nat × Int)) (x : Nat × Int) (w : World) (hl : NetsAt w w.heap.size a n l) (hn : n ≤ maxLen) :
    Calls Tryz.prog 46 #[.slice a n c, .agg #[.int .u32 (x.1 : Int), .int .i64 x.2]] w fun e w' => (∃ r : Int, e = .returned (.int .i64 r) ∧ ((0 ≤ r ∧ x ∈ l) ∨ (r = -1 ∧ x ∉ l))) ∧ Below w.heap.size w w' := by
  have Hl := Lib.hid hl
  have hl1 := hl.1
  have hm' : n ≤ 9223372036854775807 := by unfold maxLen at hn; omega
  obtain ⟨xa, xb⟩ := x
  have HP := Lib.hid (fun (y : Nat × Int) => net_parts (xa, xb) y)
  simp only at HP ⊢
  clear hl
  obtain ⟨w1, hw1⟩ : ∃ w1, w1 = w.alloc (.cells #[.int .u32 (xa : Int), .int .i64 xb] 47) := ⟨_, rfl⟩
  have HA := Lib.hid (show Below w.heap.size w w1 by rw [hw1]; exact (Below.refl _ _).alloc (Nat.le_refl _) _)
  have HG := Lib.hid (show Blk w1 w.heap.size 47 [.int .u32 (xa : Int), .int .i64 xb] by rw [hw1]; exact Blk.new _ _ _)
  go_enter Tryz.func46, Tryz.ntmps46
  go_wp2_with fail
  rw [← hw1]
  clear hw1
  go_loopw [8] (fun i wr => ∃ j : Nat, j ≤ n ∧ i = .int .i64 j ∧ Hid (∀ i' (hi : i' < l.length), i' < j → (xa, xb) ≠ l[i']) ∧ Hid (Below w1.heap.size w1 wr)) (fun i _ => n - (intOf i).toNat)
  case atStart => exact ⟨0, Nat.zero_le _, rfl, Lib.hid (fun _ _ h => by omega), Lib.hid (Below.refl _ _)⟩
  case round =>
    obtain ⟨j, hj, rfl, Hno, HBr⟩ := hrel
    obtain ⟨wo, hwo⟩ : ∃ wo, wo = wr := ⟨_, rfl⟩
    subst hwo
    have HBo := Lib.hid (HA.out.trans (HBr.out.mono HA.out.size))
    have hg := HG.out.kept HBr.out
    have g0 := hg.cell 0 rfl
    have g1 := hg.cell 1 rfl
    clear hg
    by_cases hlt : j < n
    · have hjl : j < l.length := by omega
      obtain ⟨b1, o1, rfl, _, hc1⟩ := (Hl.out.below HBo.out).2 (by omega)
      obtain ⟨x0, x1⟩ := hc1 j hjl
      have Hin : Hid ((xa, xb) = l[j] → (xa, xb) ∈ l) := Lib.hid (fun e => e.symm ▸ List.getElem_mem hjl)
      have Hx := Lib.hid (fun (he : (xa, xb) ≠ l[j]) => (show ∀ i' (hi : i' < l.length), i' < j + 1 → (xa, xb) ≠ l[i'] from fun i' hi h1 => by
        by_cases h2 : i' < j
        · exact Hno.out i' hi h2
        · obtain rfl : i' = j := by omega
          exact he))
      have hpp := HP.out l[j]
      clear hc1
      generalize l[j] = X at *
      obtain ⟨ya, yb⟩ := X
      simp only at x0 x1 hpp
      have i1 : (j : Int) < (n : Int) := by omega
      rcases hpp with he | ⟨hne, hq⟩
      · have Hmem := Lib.hid (Hin.out he)
        injection he with e1 e2
        subst e1 e2
        clear Hin Hx
        go_wp2_with fail
        go_quiet (fail)
        go_wp2
        go_ret
        exact ⟨⟨_, rfl, .inl ⟨by omega, Hmem.out⟩⟩, below_drewN HBo.out _⟩
      · have Hn := Lib.hid (Hx.out hne)
        clear Hin Hx hne
        rcases hq with q | ⟨rfl, q⟩
        · go_wp2_with fail
          go_quiet (fail)
          go_wp2
          go_roundw
          case rel => exact ⟨j + 1, by omega, by go_num, Hn, Lib.hid (below_drewN HBr.out _)⟩
          case measure => simp [intOf]; omega
        · go_wp2_with fail
          go_quiet (fail)
          go_wp2
          go_roundw
          case rel => exact ⟨j + 1, by omega, by go_num, Hn, Lib.hid (below_drewN HBr.out _)⟩
          case measure => simp [intOf]; omega
    · obtain rfl : j = n := by omega
      have Hnm : Hid ((xa, xb) ∉ l) := Lib.hid (fun hm => by
        obtain ⟨i', hi, he⟩ := List.mem_iff_getElem.1 hm
        exact Hno.out i' hi (by omega) he.symm)
      clear Hl
      go_wp2
      go_ret
      exact ⟨⟨_, rfl, .inr ⟨rfl, Hnm.out⟩⟩, HBo.out⟩
set_option maxHeartbeats 800000 in
theorem nets_Contains (a : Option Addr) (n c : Nat) (l : List (Nat × Int)) (x : Nat × Int) (w : World) (hl : NetsAt w w.heap.size a n l) (hn : n ≤ maxLen) :
    Calls Tryz.prog 29 #[.slice a n c, .agg #[.int .u32 (x.1 : Int), .int .i64 x.2]] w fun e w' => e = .returned (.bool (decide (x ∈ l))) ∧ Below w.heap.size w w' := by
  have HI := Lib.hid (fun W (hW : Below w.heap.size w W) => nets_Index a n c l x W ((hl.below hW).more hW.size) hn)
  obtain ⟨xa, xb⟩ := x
  simp only at HI ⊢
  clear hl hn
  obtain ⟨w1, hw1⟩ : ∃ w1, w1 = w.alloc (.cells #[.int .u32 (xa : Int), .int .i64 xb] 47) := ⟨_, rfl⟩
  have HA := Lib.hid (show Below w.heap.size w w1 by rw [hw1]; exact (Below.refl _ _).alloc (Nat.le_refl _) _)
  have HG := Lib.hid (show Blk w1 w.heap.size 47 [.int .u32 (xa : Int), .int .i64 xb] by rw [hw1]; exact Blk.new _ _ _)
  have g0 := HG.out.cell 0 rfl
  have g1 := HG.out.cell 1 rfl
  go_enter Tryz.func29, Tryz.ntmps29
  go_wp2_with fail
  rw [← hw1]
  clear hw1
  refine (HI.out w1 HA.out).mono ?_
  rintro e w2 ⟨⟨r, rfl, hr⟩, hb2⟩
  have HA2 := Lib.hid (HA.out.trans (hb2.mono HA.out.size))
  clear hb2 HI
  rcases hr with ⟨h0, hm⟩ | ⟨rfl, hm⟩
  · have d : decide ((0 : Int) ≤ r) = true := decide_eq_true h0
    have Hm : Hid (decide ((xa, xb) ∈ l) = true) := Lib.hid (decide_eq_true hm)
    clear hm
    go_wp2
    go_ret
    exact ⟨by rw [Hm.out]; rfl, HA2.out⟩
  · have Hm : Hid (decide ((xa, xb) ∈ l) = false) := Lib.hid (decide_eq_false hm)
    clear hm
    go_wp2
    go_ret
    exact ⟨by rw [Hm.out]; rfl, HA2.out⟩
end Go.Proofs.YtjdflnnpamjjcaaGreatDoor

namespace Go.Proofs.YtjdflnnpamjjcaaGreatDoor
open Go.RowKit

/-- What Find returns. -/
def Cf.found (l : List Cf.P) (key : ByteArray) : Nat := if Cf.at_ l key < l.length then Cf.at_ l key else 0
def Cf.foundErr (l : List Cf.P) (key : ByteArray) : Nat := if Cf.at_ l key < l.length then 0 else 5
set_option maxRecDepth 20000 in
set_option maxHeartbeats 2000000 in
theorem conf_Find (x : Cf.C) (a : Option Addr) (c : Nat) (key : ByteArray) (w : World) (h : PeersAt w w.heap.size a x.ps.length x.ps) (hm : x.ps.length ≤ maxLen) :
    Calls Tryz.prog 6 #[confV x a c, .string key] w fun e w' => e = .returned (.tuple #[.int .i64 (Cf.found x.ps key : Int), .int .i64 (Cf.foundErr x.ps key : Int)]) ∧ Below w.heap.size w w' := by
  obtain ⟨ck, cp, l⟩ := x
  simp only at h hm ⊢
  have H := Lib.hid h
  have HH : Hid (∀ k (h1 : k < l.length), (∀ j (hj : j < l.length), j < k → l[j].k ≠ key) → l[k].k = key → Cf.found l key = k ∧ Cf.foundErr l key = 0) := Lib.hid (fun k h1 h2 h3 => by
    have := Cf.at_here (l := l) (key := key) (k := k) h1 h2 h3
    unfold Cf.found Cf.foundErr
    rw [this, if_pos h1, if_pos h1]
    exact ⟨rfl, rfl⟩)
  have HN : Hid ((∀ j (hj : j < l.length), l[j].k ≠ key) → Cf.found l key = 0 ∧ Cf.foundErr l key = 5) := Lib.hid (fun h1 => by
    have := Cf.at_none (l := l) (key := key) h1
    unfold Cf.found Cf.foundErr
    rw [this, if_neg (by omega), if_neg (by omega)]
    exact ⟨rfl, rfl⟩)
  obtain ⟨R, hR⟩ : ∃ R, R = Cf.found l key := ⟨_, rfl⟩
  obtain ⟨E, hE⟩ : ∃ E, E = Cf.foundErr l key := ⟨_, rfl⟩
  rw [← hR, ← hE] at HH HN ⊢
  clear h hR hE
  obtain ⟨n, hn⟩ : ∃ n, n = l.length := ⟨_, rfl⟩
  unfold confV
  simp only
  rw [← hn] at H hm ⊢
  have hm' : n ≤ 9223372036854775807 := by unfold maxLen at hm; omega
  have Hn := Lib.hid hn
  clear hn
  obtain ⟨w1, hw1⟩ : ∃ w1, w1 = w.alloc (.cells #[.string ck, .int .i64 cp, .slice a n c] 24) := ⟨_, rfl⟩
  have HA := Lib.hid (show Below w.heap.size w w1 by rw [hw1]; exact (Below.refl _ _).alloc (Nat.le_refl _) _)
  have HG := Lib.hid (show Blk w1 w.heap.size 24 [.string ck, .int .i64 cp, .slice a n c] by rw [hw1]; exact Blk.new _ _ _)
  have g2 := HG.out.cell 2 rfl
  go_enter Tryz.func6, Tryz.ntmps6
  go_upto_region 1 with fail
  rw [← hw1]
  clear hw1
  go_wp2
  go_loopw [11] (fun i wr => ∃ k : Nat, k ≤ n ∧ i = .int .i64 (k : Int) ∧ Hid (∀ j (hj : j < l.length), j < k → l[j].k ≠ key) ∧ Hid (Below w1.heap.size w1 wr)) (fun i _ => n - (intOf i).toNat)
  case atStart => exact ⟨0, Nat.zero_le _, rfl, Lib.hid (fun j _ h => by omega), Lib.hid (Below.refl _ _)⟩
  case round =>
    obtain ⟨k, hk, rfl, Ha, HBr⟩ := hrel
    obtain ⟨wo, hwo⟩ : ∃ wo, wo = wr := ⟨_, rfl⟩
    subst hwo
    have hsz := HBr.out.size
    have HBo := Lib.hid (HA.out.trans (HBr.out.mono HA.out.size))
    by_cases hlt : k < n
    · have hll : k < l.length := by have := Hn.out; omega
      obtain ⟨b, off, rfl, hbl, hc⟩ := (H.out.below HBo.out).2 (by omega)
      obtain ⟨c0, c1, c2, c3, xa, cc, c4, hnets⟩ := hc k hll
      have He := Lib.hid (fun he => HH.out k hll Ha.out he)
      have Hx := Lib.hid (fun (he : l[k].k ≠ key) => (show ∀ j (hj : j < l.length), j < k + 1 → l[j].k ≠ key from fun j hj h1 => by
        by_cases hjk : j < k
        · exact Ha.out j hj hjk
        · obtain rfl : j = k := by omega
          exact he))
      clear hc hnets
      generalize l[k] = p at *
      obtain ⟨pk, ps, pe, pv, ns⟩ := p
      simp only at c0 c1 c2 c3 c4 He Hx
      generalize ns.length = m at *
      have i1 : (k : Int) < (n : Int) := by omega
      obtain ⟨w5, hw5⟩ : ∃ w5, w5 = wo.alloc (.cells #[.string pk, .string ps, .string pe, .int .i64 pv, .slice xa m cc] 41) := ⟨_, rfl⟩
      have hA5 : Below wo.heap.size wo w5 := by rw [hw5]; exact (Below.refl _ _).alloc (Nat.le_refl _) _
      have HS5 := Lib.hid (show Blk w5 wo.heap.size 41 [.string pk, .string ps, .string pe, .int .i64 pv, .slice xa m cc] by rw [hw5]; exact Blk.new _ _ _)
      have HB5 := Lib.hid (HBr.out.trans (hA5.mono hsz))
      have HBo5 := Lib.hid (HBo.out.trans (hA5.mono HBo.out.size))
      have s0 := HS5.out.cell 0 rfl
      clear hA5
      go_upto_region 4 with fail
      rw [← hw5]
      clear hw5 c0 c1 c2 c3 c4
      rcases text_eq pk key with rfl | q
      · obtain ⟨hr, he⟩ := He.out rfl
        have Hr := Lib.hid hr
        have HE := Lib.hid he
        clear He Hx hr he
        go_wp2
        go_ret2
        exact ⟨by rw [Hr.out, HE.out]; rfl, HBo5.out⟩
      · have Hy := Lib.hid (Hx.out (fun e => by subst e; simp at q))
        clear He Hx
        go_wp2
        go_roundw
        case rel => exact ⟨k + 1, by omega, by go_num, Hy, HB5⟩
        case measure => simp [intOf]; omega
    · obtain rfl : k = n := by omega
      obtain ⟨hr, he⟩ := HN.out (fun j hj => Ha.out j hj (by have := Hn.out; omega))
      have Hr := Lib.hid hr
      have HE := Lib.hid he
      clear hr he
      go_wp2
      go_ret2
      exact ⟨by rw [Hr.out, HE.out]; rfl, HBo.out⟩
set_option maxRecDepth 20000 in
set_option maxHeartbeats 4000000 in
theorem conf_haveAny (a b : Option Addr) (n c m d : Nat) (l : List Cf.P) (ns : List (Nat × Int)) (w : World) (h : PeersAt w w.heap.size a n l) (hm : n ≤ maxLen) (hN : NetsAt w w.heap.size b m ns) (hmm : m ≤ maxLen) (hs : ∀ p ∈ l, p.ns.length ≤ maxLen) :
    Calls Tryz.prog 16 #[.slice a n c, .slice b m d] w fun e w' => e = .returned (.bool (Cf.has l ns)) ∧ Below w.heap.size w w' := by
  have H := Lib.hid h
  have HNN := Lib.hid hN
  have HSm := Lib.hid hs
  have hl := h.1
  have hlm := hN.1
  have F1 := Lib.hid (fun i j hi hj h => Cf.has_here (ps := l) (ns := ns) (i := i) (j := j) hi hj h)
  have F2 := Lib.hid (fun h => Cf.has_not (ps := l) (ns := ns) h)
  obtain ⟨R, hR⟩ : ∃ R, R = Cf.has l ns := ⟨_, rfl⟩
  rw [← hR] at F1 F2 ⊢
  clear hR h hN hs
  have hm' : n ≤ 9223372036854775807 := by unfold maxLen at hm; omega
  have hmm' : m ≤ 9223372036854775807 := by unfold maxLen at hmm; omega
  clear hm hmm
  go_enter Tryz.func16, Tryz.ntmps16
  go_wp2
  go_loopw [11] (fun i wr => ∃ k : Nat, k ≤ n ∧ i = .int .i64 (k : Int) ∧ Hid (∀ j (hj : j < l.length), j < k → ∀ x ∈ ns, x ∉ l[j].ns) ∧ Hid (Below w.heap.size w wr)) (fun i _ => n - (intOf i).toNat)
  case atStart => exact ⟨0, Nat.zero_le _, rfl, Lib.hid (fun j _ h => by omega), Lib.hid (Below.refl _ _)⟩
  case round =>
    obtain ⟨k, hk, rfl, Ha, HBo⟩ := hrel
    obtain ⟨wo, hwo⟩ : ∃ wo, wo = wr := ⟨_, rfl⟩
    subst hwo
    have hsz := HBo.out.size
    by_cases hlt : k < n
    · have hll : k < l.length := by omega
      obtain ⟨b1, off, rfl, hbl, hc⟩ := (H.out.below HBo.out).2 (by omega)
      obtain ⟨c0, c1, c2, c3, xa, cc, c4, hnets⟩ := hc k hll
      have Hf := Lib.hid (fun j hj h => F1.out k j hll hj h)
      have Hx := Lib.hid (fun (he : ∀ x ∈ ns, x ∉ l[k].ns) => (show ∀ j (hj : j < l.length), j < k + 1 → ∀ x ∈ ns, x ∉ l[j].ns from fun j hj h1 => by
        by_cases hjk : j < k
        · exact Ha.out j hj hjk
        · obtain rfl : j = k := by omega
          exact he))
      have hps := HSm.out _ (List.getElem_mem hll)
      clear hc
      generalize l[k] = p at *
      obtain ⟨pk, ps, pe, pv, qs⟩ := p
      simp only at c0 c1 c2 c3 c4 Hf Hx hps hnets
      have HQ := Lib.hid hnets
      generalize qs.length = u at *
      clear hnets
      have i1 : (k : Int) < (n : Int) := by omega
      obtain ⟨w5, hw5⟩ : ∃ w5, w5 = wo.alloc (.cells #[.string pk, .string ps, .string pe, .int .i64 pv, .slice xa u cc] 41) := ⟨_, rfl⟩
      have hA5 : Below wo.heap.size wo w5 := by rw [hw5]; exact (Below.refl _ _).alloc (Nat.le_refl _) _
      have HS5 := Lib.hid (show Blk w5 wo.heap.size 41 [.string pk, .string ps, .string pe, .int .i64 pv, .slice xa u cc] by rw [hw5]; exact Blk.new _ _ _)
      have HA5 := Lib.hid hA5
      have HB5 := Lib.hid (HBo.out.trans (hA5.mono hsz))
      have hz5 := hA5.size
      clear hA5
      go_upto_region 4 with fail
      rw [← hw5]
      clear hw5 c0 c1 c2 c3 c4
      go_wp2
      go_loopw [17] (fun i wr => ∃ j : Nat, j ≤ m ∧ i = .int .i64 (j : Int) ∧ Hid (∀ i' (hi : i' < ns.length), i' < j → ns[i'] ∉ qs) ∧ Hid (Below w5.heap.size w5 wr)) (fun i _ => m - (intOf i).toNat)
      case atStart => exact ⟨0, Nat.zero_le _, rfl, Lib.hid (fun _ _ h => by omega), Lib.hid (Below.refl _ _)⟩
      case round =>
        obtain ⟨j, hj, rfl, Hno, HBj⟩ := hrel
        obtain ⟨wi, hwi⟩ : ∃ wi, wi = wr := ⟨_, rfl⟩
        subst hwi
        have hsi := HBj.out.size
        have HBi := Lib.hid (HB5.out.trans (HBj.out.mono HB5.out.size))
        have HSi := Lib.hid (HS5.out.kept HBj.out)
        by_cases hlt2 : j < m
        · have hjl : j < ns.length := by omega
          obtain ⟨b2, off2, rfl, hb2l, hc2⟩ := (HNN.out.below HBi.out).2 (by omega)
          obtain ⟨d0, d1⟩ := hc2 j hjl
          have Hin := Lib.hid (fun hm => Hf.out j hjl hm)
          have Hsx := Lib.hid (fun (hm : ns[j] ∉ qs) => (show ∀ i' (hi : i' < ns.length), i' < j + 1 → ns[i'] ∉ qs from fun i' hi h1 => by
            by_cases h2 : i' < j
            · exact Hno.out i' hi h2
            · obtain rfl : i' = j := by omega
              exact hm))
          clear hc2
          generalize ns[j] = x at *
          obtain ⟨w7, hw7⟩ : ∃ w7, w7 = wi.alloc (.cells #[.int .u32 (x.1 : Int), .int .i64 x.2] 47) := ⟨_, rfl⟩
          have hA7 : Below wi.heap.size wi w7 := by rw [hw7]; exact (Below.refl _ _).alloc (Nat.le_refl _) _
          have hM7 := show Blk w7 wi.heap.size 47 [.int .u32 (x.1 : Int), .int .i64 x.2] by rw [hw7]; exact Blk.new _ _ _
          have m0 := hM7.cell 0 rfl
          have m1 := hM7.cell 1 rfl
          have s4 := (HSi.out.kept hA7).cell 4 rfl
          have HB7 := Lib.hid (HBj.out.trans (hA7.mono hsi))
          have HBo7 := Lib.hid (HBi.out.trans (hA7.mono HBi.out.size))
          have HC := Lib.hid (nets_Contains xa u cc qs x w7 (((HQ.out.below (HA5.out.mono hsz)).more (Nat.le_trans hsz hz5)).below (HB7.out.mono (Nat.le_refl _)) |>.more HB7.out.size) hps)
          obtain ⟨xn, xb⟩ := x
          simp only at m0 m1 d0 d1 hw7 HC
          clear hA7 hM7
          go_upto_region 7 with fail
          rw [← hw7]
          clear hw7 d0 d1
          go_wp2_with fail
          refine HC.out.mono ?_
          rintro e w8 ⟨rfl, hb8⟩
          have HB8 := Lib.hid (HB7.out.trans (hb8.mono HB7.out.size))
          have HBo8 := Lib.hid (HBo7.out.trans (hb8.mono HBo7.out.size))
          clear hb8 HC m0 m1 s4
          by_cases hm : ((xn, xb) : Nat × Int) ∈ qs
          · rw [decide_eq_true hm]
            have Hr := Lib.hid (Hin.out hm)
            clear hm
            go_wp2
            go_ret
            exact ⟨by rw [Hr.out]; rfl, HBo8.out⟩
          · rw [decide_eq_false hm]
            have Hs2 := Lib.hid (Hsx.out hm)
            clear hm
            go_wp2
            go_roundw
            case rel => exact ⟨j + 1, by omega, by go_num, Hs2, HB8⟩
            case measure => simp [intOf]; omega
        · obtain rfl : j = m := by omega
          have Hall := Lib.hid (Hx.out (fun y hy => by
            obtain ⟨i', hi', rfl⟩ := List.mem_iff_getElem.1 hy
            exact Hno.out i' hi' (by omega)))
          go_wp2
          go_roundw
          case rel => exact ⟨k + 1, by omega, by go_num, Hall, HBi⟩
          case measure => simp [intOf]; omega
    · obtain rfl : k = n := by omega
      have Hr := Lib.hid (F2.out (fun i hi => Ha.out i hi (by omega)))
      go_wp2
      go_ret
      exact ⟨by rw [Hr.out]; rfl, HBo.out⟩
end Go.Proofs.YtjdflnnpamjjcaaGreatDoor

namespace Go.Proofs.YtjdflnnpamjjcaaGreatDoor.Cf
open Go.Op

theorem less_total : ∀ x y : List UInt8, (bytesLess x y || x == y) = !bytesLess y x
  | [], [] => rfl
  | [], b :: y => rfl
  | a :: x, [] => rfl
  | a :: x, b :: y => by
    have ih := less_total x y
    show ((decide (a < b) || (a == b && bytesLess x y)) || (a == b && x == y)) = !(decide (b < a) || (b == a && bytesLess y x))
    by_cases h : a = b
    · subst h
      have h1 : decide (a < a) = false := decide_eq_false (by intro h; exact absurd h (by simp [UInt8.lt_irrefl]))
      rw [h1]
      simpa using ih
    · have e1 : (a == b) = false := by simpa using h
      have e2 : (b == a) = false := by simpa using fun e => h e.symm
      rw [e1, e2]
      have hn : a.toNat ≠ b.toNat := fun e => h (UInt8.toNat_inj.1 e)
      have hd : decide (a < b) = !decide (b < a) := by
        by_cases hlt : a < b
        · have : ¬ b < a := by rw [UInt8.lt_iff_toNat_lt] at *; omega
          rw [decide_eq_true hlt, decide_eq_false this]; rfl
        · have : b < a := by rw [UInt8.lt_iff_toNat_lt] at *; omega
          rw [decide_eq_false hlt, decide_eq_true this]; rfl
      simpa using hd
theorem less_irrefl : ∀ x : List UInt8, bytesLess x x = false
  | [] => rfl
  | a :: x => by
    show (decide (a < a) || (a == a && bytesLess x x)) = false
    rw [less_irrefl x, decide_eq_false (by simp [UInt8.lt_irrefl])]
    simp
theorem less_trans : ∀ x y z : List UInt8, bytesLess x y = true → bytesLess y z = true → bytesLess x z = true
  | x, [], _, h, _ => by cases x <;> cases h
  | x, b :: y, [], _, h => by cases h
  | [], _ :: _, _ :: _, _, _ => rfl
  | a :: x, b :: y, c :: z, h1, h2 => by
    have k1 : (decide (a < b) || (a == b && bytesLess x y)) = true := h1
    have k2 : (decide (b < c) || (b == c && bytesLess y z)) = true := h2
    clear h1 h2
    show (decide (a < c) || (a == c && bytesLess x z)) = true
    simp only [Bool.or_eq_true, decide_eq_true_eq, Bool.and_eq_true, beq_iff_eq] at *
    rcases k1 with g1 | ⟨rfl, g1⟩
    · rcases k2 with g2 | ⟨rfl, g2⟩
      · left; rw [UInt8.lt_iff_toNat_lt] at *; omega
      · exact .inl g1
    · rcases k2 with g2 | ⟨rfl, g2⟩
      · exact .inl g2
      · exact .inr ⟨rfl, less_trans x y z g1 g2⟩
/-- 'At most' as the code and the reference say it. -/
theorem leq_lt (x y : ByteArray) : (bytesLess x.toList y.toList || x.toList == y.toList) = !lt y x := less_total _ _
end Go.Proofs.YtjdflnnpamjjcaaGreatDoor.Cf

namespace Go.Proofs.YtjdflnnpamjjcaaGreatDoor
open Go.RowKit

theorem conf_key {x : Cf.C} (h : x.k.size ≠ 0) (he : Cf.keyErr x.k ≠ 0) : Cf.err x = Cf.keyErr x.k := by unfold Cf.err; rw [if_pos ⟨h, he⟩]
theorem conf_port {x : Cf.C} (h : x.k.size = 0 ∨ Cf.keyErr x.k = 0) (hp : x.p < 0 ∨ 65535 < x.p) : Cf.err x = 4 := by
  unfold Cf.err; rw [if_neg (fun hn => by rcases h with h | h; exact hn.1 h; exact hn.2 h), if_pos hp]
theorem conf_many {x : Cf.C} (h : x.k.size = 0 ∨ Cf.keyErr x.k = 0) (hp : ¬ (x.p < 0 ∨ 65535 < x.p)) (hn : 6 < x.ps.length) : Cf.err x = 1 := by
  unfold Cf.err; rw [if_neg (fun hn => by rcases h with h | h; exact hn.1 h; exact hn.2 h), if_neg hp, if_pos hn]
theorem conf_peers {x : Cf.C} (h : x.k.size = 0 ∨ Cf.keyErr x.k = 0) (hp : ¬ (x.p < 0 ∨ 65535 < x.p)) (hn : x.ps.length ≤ 6) : Cf.err x = Cf.pFrom x.k x.ps 0 := by
  unfold Cf.err; rw [if_neg (fun hn => by rcases h with h | h; exact hn.1 h; exact hn.2 h), if_neg hp, if_neg (by omega)]
  rfl
theorem key_order (K L : ByteArray) : (Op.bytesLess K.toList L.toList = true ∧ Cf.lt L K = false) ∨ (Op.bytesLess K.toList L.toList = false ∧ (K.toList == L.toList) = true ∧ Cf.lt L K = false) ∨ (Op.bytesLess K.toList L.toList = false ∧ (K.toList == L.toList) = false ∧ Cf.lt L K = true) := by
  have h := Cf.leq_lt K L
  cases h1 : Op.bytesLess K.toList L.toList with
  | true =>
    rw [h1] at h
    left
    refine ⟨rfl, ?_⟩
    cases h2 : Cf.lt L K with
    | false => rfl
    | true => rw [h2] at h; simp at h
  | false =>
    rw [h1] at h
    right
    cases h3 : (K.toList == L.toList) with
    | true =>
      left
      rw [h3] at h
      refine ⟨rfl, rfl, ?_⟩
      cases h2 : Cf.lt L K with
      | false => rfl
      | true => rw [h2] at h; simp at h
    | false =>
      right
      rw [h3] at h
      refine ⟨rfl, rfl, ?_⟩
      cases h2 : Cf.lt L K with
      | true => rfl
      | false => rw [h2] at h; simp at h
/-- The networks of the first peers, all of them right. -/
def MetOk (M : List (Nat × Int)) (k : Nat) : Prop := M.length ≤ 8 * k ∧ ∀ y ∈ M, Tr.good y

end Go.Proofs.YtjdflnnpamjjcaaGreatDoor
