/- The walk of BatchParses. -/
import Derived.Test.YthlagpmacnijfaaGreatDoorSp12
import Derived.Test.YthlagpmacnijfaaGreatDoorSp07
import Derived.Test.YthlagpmacnijfaaGreatDoorSp06
import Derived.Test.YthlagpmacnijfaaGreatDoorBatchMem
import Derived.Test.YthlagpmacnijfaaGreatDoorSp05
import Derived.BigQuiet
import Derived.Test.YthlagpmacnijfaaGreatDoorSp08
import Derived.SizedLaws
namespace Go.Proofs.YthlagpmacnijfaaGreatDoor
open Go.RowKit

theorem parsePost_ok {s : ByteArray} {w w' : World} {g : Nat} {O : List Ln.L} (hO : O = Ln.sOut s) (h0 : (Ln.sBad s).2 = 0) (hall : ∀ p ∈ O, (Bt.ofLine p).2 = 0) (hB : Blk w' g 28 (Bt.setsC (O.map fun p => (Bt.ofLine p).1))) (hb : Below w.heap.size w w') :
    ParsePost s w (.returned (.tuple #[.slice (some ⟨g, 0, none⟩) O.length O.length, .int .i64 0, .int .i64 0])) w' := by
  have hp : Bt.pBad s = (0, 0) := by rw [Bt.pBad_wrong h0, ← hO, Bt.wrong_good O 0 hall]
  have ho : Bt.pOut s = O.map fun p => (Bt.ofLine p).1 := by unfold Bt.pOut; rw [hp, if_pos rfl, ← hO]
  have hl : (Bt.pOut s).length = O.length := by rw [ho, List.length_map]
  refine ⟨⟨some ⟨g, 0, none⟩, O.length, ?_, ?_⟩, hb⟩
  · rw [hp, hl]; rfl
  · have := sets_of_row hB
    rw [← ho] at this
    exact this
set_option maxRecDepth 20000 in
set_option maxHeartbeats 8000000 in
theorem batch_Parse (s : ByteArray) (w : World) (hT : BTabs w) : Calls Tryz.prog 8 #[.string s] w (ParsePost s w) := by
  have HS := Lib.hid (line_Split s w hT.1.2)
  have HT := Lib.hid hT
  unfold SplitPost at HS
  by_cases h0 : (Ln.sBad s).2 = 0
  rotate_left
  · have hb := Bt.pBad_split h0
    have hn : (((Ln.sBad s).2 : Int) != 0) = true := by simpa using h0
    have Hr := Lib.hid (fun w' hB => parsePost_err (w := w) (w' := w') (i := (Ln.sBad s).1) (r := (Ln.sBad s).2) hb h0 hB)
    clear h0 hb hT
    generalize (Ln.sBad s).1 = bi at *
    generalize (Ln.sBad s).2 = br at *
    generalize Ln.sOut s = O at *
    go_enter Tryz.func8, Tryz.ntmps8
    go_wp2_with fail
    refine HS.out.mono ?_
    rintro e w1 ⟨⟨a, c, rfl, -⟩, hb1⟩
    have HR1 := Lib.hid (Hr.out w1 hb1)
    clear hb1 HS Hr
    go_wp2
    go_ret3
    exact HR1.out
  · obtain ⟨hl, h60⟩ := Bt.lines_ok h0
    have Hb := Lib.hid (Bt.pBad_wrong h0)
    obtain ⟨O, hO⟩ : ∃ O, O = Ln.sOut s := ⟨_, rfl⟩
    have HO := Lib.hid hO
    have H0 := Lib.hid h0
    have Hok := Lib.hid (fun w' g hall hB hb => parsePost_ok (w := w) (w' := w') (g := g) hO h0 hall hB hb)
    rw [h0] at HS
    rw [← hO] at hl h60 Hb HS
    have Hl := Lib.hid hl
    clear h0 hO hT hl
    generalize (Ln.sBad s).1 = bi at *
    obtain ⟨n, hn⟩ : ∃ n, n = O.length := ⟨_, rfl⟩
    rw [← hn] at HS h60 Hok
    have Hn := Lib.hid hn
    have hmk := make_sets n (by omega)
    clear hn
    go_enter Tryz.func8, Tryz.ntmps8
    go_wp2_with fail
    refine HS.out.mono ?_
    rintro e w1 ⟨⟨a, c, rfl, hat⟩, hb1⟩
    have HL1 := Lib.hid hat
    have HB1 := Lib.hid hb1
    clear hat hb1 HS
    obtain ⟨w2, hw2⟩ : ∃ w2, w2 = w1.alloc (.cells (Bt.setsC (List.replicate n Bt.zeroS)).toArray 28) := ⟨_, rfl⟩
    have HB2 := Lib.hid (show Below w1.heap.size w1 w2 by rw [hw2]; exact (Below.refl _ _).alloc (Nat.le_refl _) _)
    have HG2 := Lib.hid (show Blk w2 w1.heap.size 28 (Bt.setsC (Bt.sofar [] n)) by rw [hw2]; exact Blk.new _ _ _)
    go_wp2
    rw [← hw2]
    clear hmk hw2
    go_loopw [26] (fun i wr => ∃ k : Nat, k ≤ n ∧ i = .int .i64 (k : Int) ∧ Hid (∀ p ∈ O.take k, (Bt.ofLine p).2 = 0) ∧ Hid (Blk wr w1.heap.size 28 (Bt.setsC (Bt.sofar ((O.take k).map fun p => (Bt.ofLine p).1) n))) ∧ Hid (Below w1.heap.size w1 wr)) (fun i _ => n - (intOf i).toNat)
    case atStart => exact ⟨0, Nat.zero_le _, rfl, Lib.hid (fun x hx => by simp at hx), Lib.hid (by simpa using HG2.out), HB2⟩
    case round =>
      obtain ⟨k, hk, rfl, Ha, Hbk, HBr⟩ := hrel
      obtain ⟨wo, hwo⟩ : ∃ wo, wo = wr := ⟨_, rfl⟩
      subst hwo
      have hsz := HBr.out.size
      by_cases hlt : k < n
      · have hlO : k < O.length := by have := Hn.out; omega
        obtain ⟨b, off, rfl, hbl, hc⟩ := (HL1.out.below HBr.out).2 (by omega)
        obtain ⟨c0, c1⟩ := hc k hlO
        have hpz := (Ln.err_zero (Hl.out _ (List.getElem_mem hlO))).1
        have Ht : Hid (O.take (k + 1) = O.take k ++ [O[k]]) := Lib.hid (List.take_succ_eq_append_getElem hlO)
        have Htl : Hid (((O.take k).map fun p => (Bt.ofLine p).1).length = k) := Lib.hid (by rw [List.length_map, List.length_take]; omega)
        have Hf := Lib.hid (fun hn => Bt.wrong_at O 0 k hlO Ha.out hn)
        have HBo := Lib.hid (HB1.out.trans (HBr.out.mono HB1.out.size))
        clear hc
        generalize O[k] = p at *
        have HRd := Lib.hid (fun W hW => batch_Read p W (by omega) (HT.out.below hW))
        have Hm : Hid ((O.take (k + 1)).map (fun p => (Bt.ofLine p).1) = (O.take k).map (fun p => (Bt.ofLine p).1) ++ [(Bt.ofLine p).1]) := Lib.hid (by rw [Ht.out, List.map_append, List.map_singleton])
        have Hn1 := Lib.hid (fun (he : (Bt.ofLine p).2 = 0) => show ∀ y ∈ O.take (k + 1), (Bt.ofLine y).2 = 0 by
          intro y hy
          rw [Ht.out] at hy
          rcases List.mem_append.1 hy with hy | hy
          · exact Ha.out y hy
          · rw [List.mem_singleton.1 hy]; exact he)
        have Hst := Lib.hid (fun x => Bt.sofar_set ((O.take k).map fun p => (Bt.ofLine p).1) n k x Htl.out hlt)
        have Hsl := Lib.hid (Bt.sofar_length ((O.take k).map fun p => (Bt.ofLine p).1) n (by rw [Htl.out]; omega))
        generalize (O.take k).map (fun p => (Bt.ofLine p).1) = D at *
        generalize (Bt.ofLine p).1 = x at *
        by_cases he : (Bt.ofLine p).2 = 0
        · have Hall := Lib.hid (Hn1.out he)
          rw [he] at HRd
          clear he Hf Hn1 Ha
          obtain ⟨X, Y⟩ := p
          unfold lineV at HRd
          obtain ⟨w3, hw3⟩ : ∃ w3, w3 = wo.alloc (.cells #[.string X, .string Y] 23) := ⟨_, rfl⟩
          have hA3 : Below wo.heap.size wo w3 := by rw [hw3]; exact (Below.refl _ _).alloc (Nat.le_refl _) _
          have hM3 := show Blk w3 wo.heap.size 23 [.string X, .string Y] by rw [hw3]; exact Blk.new _ _ _
          have HB3 := Lib.hid (HBr.out.trans (hA3.mono hsz))
          have HG3 := Lib.hid (Hbk.out.kept hA3)
          have m0 := hM3.cell 0 rfl
          have m1 := hM3.cell 1 rfl
          simp only at c0 c1
          clear hA3 hM3
          go_upto_region 8 with fail
          rw [← hw3]
          clear hw3 c0 c1
          go_wp2_with fail
          refine (HRd.out w3 (HB1.out.trans (HB3.out.mono HB1.out.size))).mono ?_
          rintro e w4 ⟨rfl, hb4⟩
          have HG4 := Lib.hid (HG3.out.kept hb4)
          have HB4 := Lib.hid (HB3.out.trans (hb4.mono HB3.out.size))
          have hkn : k < (Bt.sofar D n).length := by rw [Hsl.out]; exact hlt
          clear hb4 m0 m1
          go_wp2_with (refine wpL_store_elem (o := ⟨none, _, _, _, _, _⟩) rfl (.tmp 38) (.tmp 36) rfl w1.heap.size k _ x rfl rfl HG4.out hkn ?_)
          intro w5 hG5 hg5 hz5
          rw [Hst.out x, ← Hm.out] at hG5
          have HG5 := Lib.hid hG5
          have HB5 := Lib.hid (below_row HB4.out hg5 HB4.out.size (Nat.le_refl _))
          clear hG5 hg5 hz5
          go_wp2
          go_roundw
          case rel => exact ⟨k + 1, by omega, by go_num, Hall, HG5, HB5⟩
          case measure => simp [intOf]; omega
        · have hb : Bt.pBad s = (k + 1, (Bt.ofLine p).2) := by rw [Hb.out, Hf.out he, Nat.zero_add]
          have hne : (((Bt.ofLine p).2 : Int) != 0) = true := by simpa using he
          have Hr := Lib.hid (fun w' hB => parsePost_err (w := w) (w' := w') hb he hB)
          clear he Hf Hn1 Ha hb
          generalize (Bt.ofLine p).2 = r at *
          obtain ⟨X, Y⟩ := p
          unfold lineV at HRd
          obtain ⟨w3, hw3⟩ : ∃ w3, w3 = wo.alloc (.cells #[.string X, .string Y] 23) := ⟨_, rfl⟩
          have hA3 : Below wo.heap.size wo w3 := by rw [hw3]; exact (Below.refl _ _).alloc (Nat.le_refl _) _
          have hM3 := show Blk w3 wo.heap.size 23 [.string X, .string Y] by rw [hw3]; exact Blk.new _ _ _
          have HB3 := Lib.hid (HBr.out.trans (hA3.mono hsz))
          have HG3 := Lib.hid (Hbk.out.kept hA3)
          have m0 := hM3.cell 0 rfl
          have m1 := hM3.cell 1 rfl
          simp only at c0 c1
          clear hA3 hM3
          go_upto_region 8 with fail
          rw [← hw3]
          clear hw3 c0 c1
          go_wp2_with fail
          refine (HRd.out w3 (HB1.out.trans (HB3.out.mono HB1.out.size))).mono ?_
          rintro e w4 ⟨rfl, hb4⟩
          have HG4 := Lib.hid (HG3.out.kept hb4)
          have HB4 := Lib.hid (HB3.out.trans (hb4.mono HB3.out.size))
          have hkn : k < (Bt.sofar D n).length := by rw [Hsl.out]; exact hlt
          clear hb4 m0 m1
          go_wp2_with (refine wpL_store_elem (o := ⟨none, _, _, _, _, _⟩) rfl (.tmp 38) (.tmp 36) rfl w1.heap.size k _ x rfl rfl HG4.out hkn ?_)
          intro w5 hG5 hg5 hz5
          have HB5 := Lib.hid (below_row HB4.out hg5 HB4.out.size (Nat.le_refl _))
          have HB6 := Lib.hid (HB1.out.trans (HB5.out.mono HB1.out.size))
          clear hG5 hg5 hz5
          go_wp2
          go_ret3
          have h := Hr.out _ HB6.out
          rwa [Int.natCast_add] at h
      · obtain rfl : k = n := by omega
        have htk : O.take k = O := List.take_of_length_le (by have := Hn.out; omega)
        rw [htk] at Ha Hbk
        have hG := Hbk.out
        rw [Bt.sofar_full _ _ (by rw [List.length_map]; exact Hn.out.symm)] at hG
        have HF := Lib.hid (Hok.out wo w1.heap.size Ha.out hG (HB1.out.trans (HBr.out.mono HB1.out.size)))
        clear htk hG
        go_wp2
        go_ret3
        exact HF.out
end Go.Proofs.YthlagpmacnijfaaGreatDoor

namespace Go.Proofs.YthlagpmacnijfaaGreatDoor
open Go.RowKit

theorem set_parts (xk yk : Int) (xt yt : ByteArray) (xn yn : Int) (xa ya : Nat) (xb yb : Int) : (xk = yk ∧ xt = yt ∧ xn = yn ∧ xa = ya ∧ xb = yb) ∨ (xk == yk) = false ∨ (xk = yk ∧ (xt.toList == yt.toList) = false) ∨ (xk = yk ∧ xt = yt ∧ (xn == yn) = false) ∨ (xk = yk ∧ xt = yt ∧ xn = yn ∧ ((xa : Int) == (ya : Int)) = false) ∨ (xk = yk ∧ xt = yt ∧ xn = yn ∧ xa = ya ∧ (xb == yb) = false) := by
  by_cases h1 : xk = yk
  · rcases text_eq xt yt with h2 | h2
    · by_cases h3 : xn = yn
      · by_cases h4 : xa = ya
        · by_cases h5 : xb = yb
          · exact .inl ⟨h1, h2, h3, h4, h5⟩
          · exact .inr (.inr (.inr (.inr (.inr ⟨h1, h2, h3, h4, beq_eq_false_iff_ne.2 h5⟩))))
        · exact .inr (.inr (.inr (.inr (.inl ⟨h1, h2, h3, beq_eq_false_iff_ne.2 (by omega)⟩))))
      · exact .inr (.inr (.inr (.inl ⟨h1, h2, beq_eq_false_iff_ne.2 h3⟩)))
    · exact .inr (.inr (.inl ⟨h1, h2⟩))
  · exact .inr (.inl (beq_eq_false_iff_ne.2 h1))
set_option maxRecDepth 20000 in
set_option maxHeartbeats 6400000 in
theorem sets_Equal (a b : Option Addr) (n m c d : Nat) (l k : List Bt.S) (w : World) (hl : SetsAt w w.heap.size a n l) (hk : SetsAt w w.heap.size b m k) (hn : n ≤ 2518437208883) :
    Calls Tryz.prog 22 #[.slice a n c, .slice b m d] w fun e w' => ∃ r : Bool, e = .returned (.bool r) ∧ (r = true ↔ l = k) ∧ Below w.heap.size w w' := by
  have Hl := Lib.hid hl
  have Hk := Lib.hid hk
  have hl1 := hl.1
  have hk1 := hk.1
  clear hl hk
  by_cases hnm : n = m
  · subst hnm
    go_enter Tryz.func22, Tryz.ntmps22
    go_wp2
    go_loopw [13] (fun i wr => ∃ j : Nat, j ≤ n ∧ i = .int .i64 j ∧ Hid (l.take j = k.take j) ∧ Below w.heap.size w wr) (fun i _ => n - (intOf i).toNat)
    case atStart => exact ⟨0, Nat.zero_le _, rfl, Lib.hid rfl, Below.refl _ _⟩
    case round =>
      obtain ⟨j, hj, rfl, Ht, hB⟩ := hrel
      by_cases hlt : j < n
      · obtain ⟨b1, o1, rfl, _, hc1⟩ := (Hl.out.below hB).2 (by omega)
        obtain ⟨b2, o2, rfl, _, hc2⟩ := (Hk.out.below hB).2 (by omega)
        obtain ⟨x0, x1, x2, x3, x4⟩ := hc1 j (by omega)
        obtain ⟨y0, y1, y2, y3, y4⟩ := hc2 j (by omega)
        clear hc1 hc2
        generalize hX : l[j] = X at *
        generalize hY : k[j] = Y at *
        have HX := Lib.hid hX
        have HY := Lib.hid hY
        clear hX hY
        obtain ⟨xk, xt, xn, xa, xb⟩ := X
        obtain ⟨yk, yt, yn, ya, yb⟩ := Y
        have i1 : (j : Int) < (n : Int) := by omega
        have hjl : j < l.length := by omega
        have hjk : j < k.length := by omega
        rcases set_parts xk yk xt yt xn yn xa ya xb yb with ⟨rfl, rfl, rfl, rfl, rfl⟩ | q0 | ⟨rfl, q0⟩ | ⟨rfl, rfl, q0⟩ | ⟨rfl, rfl, rfl, q0⟩ | ⟨rfl, rfl, rfl, rfl, q0⟩
        · go_wp2_with fail
          go_quiet (fail)
          go_wp2
          go_roundw
          case rel => exact ⟨j + 1, by omega, by go_num, Lib.hid (by rw [List.take_succ_eq_append_getElem hjl, List.take_succ_eq_append_getElem hjk, Ht.out, HX.out, HY.out]), below_drewN hB _⟩
          case measure => simp [intOf]; omega
        · have hne : l ≠ k := fun e => by subst e; have h := HX.out.symm.trans HY.out; injection h with h1 h2 h3 h4 h5; simp [h1] at q0
          clear HX HY Ht
          go_wp2_with fail
          go_quiet (fail)
          go_wp2
          go_ret
          exact ⟨_, rfl, ⟨fun h => (by cases h), fun h => absurd h hne⟩, below_drewN hB _⟩
        · have hne : l ≠ k := fun e => by subst e; have h := HX.out.symm.trans HY.out; injection h with h1 h2 h3 h4 h5; simp [h2] at q0
          clear HX HY Ht
          go_wp2_with fail
          go_quiet (fail)
          go_wp2
          go_ret
          exact ⟨_, rfl, ⟨fun h => (by cases h), fun h => absurd h hne⟩, below_drewN hB _⟩
        · have hne : l ≠ k := fun e => by subst e; have h := HX.out.symm.trans HY.out; injection h with h1 h2 h3 h4 h5; simp [h3] at q0
          clear HX HY Ht
          go_wp2_with fail
          go_quiet (fail)
          go_wp2
          go_ret
          exact ⟨_, rfl, ⟨fun h => (by cases h), fun h => absurd h hne⟩, below_drewN hB _⟩
        · have hne : l ≠ k := fun e => by subst e; have h := HX.out.symm.trans HY.out; injection h with h1 h2 h3 h4 h5; simp [h4] at q0
          clear HX HY Ht
          go_wp2_with fail
          go_quiet (fail)
          go_wp2
          go_ret
          exact ⟨_, rfl, ⟨fun h => (by cases h), fun h => absurd h hne⟩, below_drewN hB _⟩
        · have hne : l ≠ k := fun e => by subst e; have h := HX.out.symm.trans HY.out; injection h with h1 h2 h3 h4 h5; simp [h5] at q0
          clear HX HY Ht
          go_wp2_with fail
          go_quiet (fail)
          go_wp2
          go_ret
          exact ⟨_, rfl, ⟨fun h => (by cases h), fun h => absurd h hne⟩, below_drewN hB _⟩
      · obtain rfl : j = n := by omega
        have hlk : l = k := by have h := Ht.out; rwa [List.take_of_length_le (by omega), List.take_of_length_le (by omega)] at h
        clear Ht Hl Hk
        go_wp2
        go_ret
        exact ⟨_, rfl, ⟨fun _ => hlk, fun _ => rfl⟩, hB⟩
  · have hne : ((n : Int) != (m : Int)) = true := by simp; omega
    have hlk : l ≠ k := fun e => hnm (by rw [← hl1, ← hk1, e])
    clear Hl Hk
    go_enter Tryz.func22, Tryz.ntmps22
    go_wp2
    go_ret
    exact ⟨_, rfl, ⟨fun h => (by cases h), fun h => absurd h hlk⟩, Below.refl _ _⟩
end Go.Proofs.YthlagpmacnijfaaGreatDoor

namespace Go.Proofs.YthlagpmacnijfaaGreatDoor
open Go.RowKit

theorem parsed_small (s : ByteArray) : (Bt.pOut s).length ≤ 60 := by
  by_cases h : (Bt.pBad s).2 = 0
  · have h0 : (Ln.sBad s).2 = 0 := by
      by_cases h0 : (Ln.sBad s).2 = 0
      · exact h0
      · rw [Bt.pBad_split h0] at h; exact absurd h h0
    have := (Bt.lines_ok h0).2
    unfold Bt.pOut
    rw [if_pos h, List.length_map]
    exact this
  · rw [Bt.pOut_err h]
    exact Nat.zero_le _
set_option maxHeartbeats 800000 in
theorem law_sameSettings (a b : Option Addr) (n c d : Nat) (l : List Bt.S) (w : World) (hl : SetsAt w w.heap.size a n l) (hk : SetsAt w w.heap.size b n l) (hn : n ≤ 1000) :
    Calls Tryz.prog 10 #[.slice a n c, .slice b n d] w fun e w' => e = .returned (.bool true) ∧ Below w.heap.size w w' := by
  have HE := sets_Equal a b n n c d l l w hl hk (by omega)
  clear hl hk
  go_enter Tryz.func10, Tryz.ntmps10
  go_wp2_with fail
  refine HE.mono ?_
  rintro e w1 ⟨r, rfl, hr, hb⟩
  obtain rfl : r = true := hr.2 (by trivial)
  clear hr
  go_wp2
  go_ret
  exact ⟨rfl, hb⟩
set_option maxRecDepth 20000 in
set_option maxHeartbeats 1600000 in
theorem law_BatchParses (s : ByteArray) (w : World) (_ : s.size ≤ reachBytes) (hT : ATabs w) :
    Calls Tryz.prog 4 #[.string s] w fun e w' => e = .returned (.bool true) ∧ Below w.heap.size w w' := by
  have H1 := Lib.hid (batch_Parse s w hT.code)
  have H2 := Lib.hid (fun W (hW : Below w.heap.size w W) => ref_BatchOf s W (hT.1.below hW))
  have hsm := parsed_small s
  unfold ParsePost at H1 H2
  clear hT
  generalize Bt.pOut s = L at *
  generalize (Bt.pBad s).1 = bi at *
  generalize (Bt.pBad s).2 = br at *
  go_enter Tryz.func4, Tryz.ntmps4
  go_wp2_with fail
  refine H1.out.mono ?_
  rintro e w1 ⟨⟨a1, c1, rfl, hat⟩, hb1⟩
  have HL := Lib.hid hat
  have HB1 := Lib.hid hb1
  clear hat hb1 H1
  go_wp2_with fail
  refine (H2.out w1 HB1.out).mono ?_
  rintro e w2 ⟨⟨a2, c2, rfl, hat2⟩, hb2⟩
  have HE := Lib.hid (law_sameSettings a1 a2 _ c1 c2 L w2 (HL.out.kept hb2) hat2 (by omega))
  have HB2 := Lib.hid (HB1.out.trans (hb2.mono HB1.out.size))
  clear hat2 hb2 H2 HL
  generalize L.length = n at *
  go_wp2_with fail
  refine HE.out.mono ?_
  rintro e w3 ⟨rfl, hb3⟩
  have HB3 := Lib.hid (HB2.out.trans (hb3.mono HB2.out.size))
  clear hb3 HE
  go_wp2
  go_ret
  exact ⟨rfl, HB3.out⟩
end Go.Proofs.YthlagpmacnijfaaGreatDoor
