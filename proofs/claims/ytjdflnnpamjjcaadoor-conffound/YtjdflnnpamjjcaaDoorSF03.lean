/- The contracts of the landed code's Find and haveAny (chapter 13). -/
import Derived.Test.YtjdflnnpamjjcaaDoorRows
import Derived.Test.YtjdflnnpamjjcaaDoorMem
import Derived.Test.YtjdflnnpamjjcaaDoorMemG
import Derived.Deep.AppendLies
import Derived.Deep.WholeRow
import Derived.Laws.CopyOwn
import Derived.Test.YtjdflnnpamjjcaaDoorNetsMem
import Derived.Test.YtjdflnnpamjjcaaDoorSF01
import Derived.BigQuiet
import Derived.Laws.StructEq
import Derived.Test.YtjdflnnpamjjcaaDoorSF02
namespace Go.Proofs.YtjdflnnpamjjcaaDoor
open Go.RowKit

theorem bcells_one (bs : List UInt8) : ∀ v ∈ bcells bs, v.oneCell' = true := by
  intro v hv; simp only [bcells, List.mem_map] at hv; obtain ⟨c, _, rfl⟩ := hv; rfl

/-- A call has answered some bytes of its own and an error. -/
def SlicePost (err : Nat) (out : List UInt8) (w : World) (e : Ending) (w' : World) : Prop :=
  ∃ a n c, e = .returned (.tuple #[.slice a n c, .int .i64 (err : Int)]) ∧
    w'.ownsRow w.heap.size 5 1 (.slice a n c) out.length (bcells out) ∧ Below w.heap.size w w'
theorem slicePost_none {w wr : World} {err : Nat} (hb : Below w.heap.size w wr) : SlicePost err [] w (.returned (.tuple #[.slice none 0 0, .int .i64 (err : Int)])) wr :=
  ⟨none, 0, 0, rfl, World.ownsRow_nil _ _ _ _, hb⟩
theorem slicePost_own {w wr : World} {err n c : Nat} {a : Option Addr} {out : List UInt8} (ho : wr.ownsRow w.heap.size 5 1 (.slice a n c) n (bcells out)) (hb : Below w.heap.size w wr) :
    SlicePost err out w (.returned (.tuple #[.slice a n c, .int .i64 (err : Int)])) wr :=
  ⟨a, n, c, rfl, by have := ho.1; rw [bcells_length] at this; rw [this, Nat.mul_one]; exact ho, hb⟩
theorem info_u8 : ∃ i, Tryd.prog.info? 5 = some i ∧ i.zero = some (.int .u8 0) ∧ i.size = 1 ∧ i.bytes = 1 := info_parts (by kernel_rfl)
/-- The same at []byte of this program. -/
theorem wpL_append8 (w : World) {ops : Array Oper} {rest : List Oper} {o : Oper} {a : Act} {Q : Exit → Act → World → Prop} (hgd : o.guard = none) (s x : Operand)
    (ho : o.op = .call { callee := .builtin .append, args := #[s, x], argTypes := #[60, 60] }) (base : Nat)
    (av : Option Addr) (n c : Nat) (xs : List Value) (hs : a.eval s = .slice av n c) (hown : w.ownsRow base 5 1 (.slice av n c) n xs)
    (ao : Option Addr) (m cx : Nat) (news : List Value) (hx : a.eval x = .slice ao m cx) (hl : news.length = m) (hnil : ao = none → m = 0 ∧ cx = 0) (hnews : ∀ ad, ao = some ad → ∀ j u, news[j]? = some u → w.cell? (ad.add j) = some u)
    (h1 : ∀ u ∈ news, u.oneCell' = true) (hmax : n + m ≤ 140737488355328) (hbase : base ≤ w.heap.size)
    (h : ∀ a' c' w', w'.ownsRow base 5 1 (.slice a' (n + m) c') (n + m) (xs ++ news) → w.grownBy w' (Value.slice av n c).ownBlock → wpList Tryd.prog ops Q rest (a.put o.dst (.slice a' (n + m) c')) w') : wpList Tryd.prog ops Q (o :: rest) a w := by
  obtain ⟨i, hi, hz0, hz1, hz2⟩ := info_u8
  exact wpList_append_any w hgd s x 60 ho base 5 i (.int .u8 0) 1 Tryd.underlying60 hi hz0 hz1 hz2 rfl av n c xs hs hown ao m cx news hx hl hnil hnews h1 (by unfold maxLen; omega) (by omega) hbase h
/-- The same, and where the new row lies. -/
theorem wpL_append8_at (w : World) {ops : Array Oper} {rest : List Oper} {o : Oper} {a : Act} {Q : Exit → Act → World → Prop} (hgd : o.guard = none) (s x : Operand)
    (ho : o.op = .call { callee := .builtin .append, args := #[s, x], argTypes := #[60, 60] }) (base : Nat)
    (av : Option Addr) (n c : Nat) (xs : List Value) (hs : a.eval s = .slice av n c) (hown : w.ownsRow base 5 1 (.slice av n c) n xs)
    (ao : Option Addr) (m cx : Nat) (news : List Value) (hx : a.eval x = .slice ao m cx) (hl : news.length = m) (hnil : ao = none → m = 0 ∧ cx = 0) (hnews : ∀ ad, ao = some ad → ∀ j u, news[j]? = some u → w.cell? (ad.add j) = some u)
    (h1 : ∀ u ∈ news, u.oneCell' = true) (hmax : n + m ≤ 140737488355328) (hbase : base ≤ w.heap.size)
    (h : ∀ a' c' w', w'.ownsRow base 5 1 (.slice a' (n + m) c') (n + m) (xs ++ news) → w.grownBy w' (Value.slice av n c).ownBlock →
      Hid ((Value.slice a' (n + m) c').ownBlock = (Value.slice av n c).ownBlock ∨ (Value.slice a' (n + m) c').ownBlock = some w.heap.size) → wpList Tryd.prog ops Q rest (a.put o.dst (.slice a' (n + m) c')) w') : wpList Tryd.prog ops Q (o :: rest) a w := by
  obtain ⟨i, hi, hz0, hz1, hz2⟩ := info_u8
  obtain ⟨a', c', w', hr, h2, h3, h4⟩ := run_append_any_at (P := Tryd.prog) w 60 o.type base 5 i (.int .u8 0) 1 Tryd.underlying60 hi hz0 hz1 hz2 rfl av n c xs hown ao m cx news hl hnil hnews h1 (by unfold maxLen; omega) (by omega) hbase
  refine wpList_plain hgd fun K hK => ?_
  unfold Oper.wp execOp
  simp only [ho, resolve, invoke, builtin, Sem.run_bind, Sem.run_pure, Result.andThen_ok, List.map_toArray, List.map_cons, List.map_nil, hs, hx, hr]
  exact hK _ _ (h a' c' w' h2 h3 (Lib.hid h4))
theorem BytesAt.news {w : World} {B n : Nat} {a : Option Addr} {bs : List UInt8} (h : BytesAt w B a n bs) : ∀ ad, a = some ad → ∀ j u, (bcells bs)[j]? = some u → w.cell? (ad.add j) = some u := by
  intro ad ha j u hu
  have hj : j < bs.length := by have := (List.getElem?_eq_some_iff.1 hu).1; rwa [bcells_length] at this
  obtain ⟨b, off, e, _, hc⟩ := h.2 (by have := h.1; omega)
  rw [ha] at e
  injection e with e
  subst e
  rw [bcells_get bs j hj] at hu
  rw [Addr.add_lit, hc j hj]
  exact hu
theorem BytesAt.drewN {w : World} {B n : Nat} {a : Option Addr} {bs : List UInt8} (h : BytesAt w B a n bs) (k : Nat) : BytesAt (w.drewN k) B a n bs :=
  ⟨h.1, fun hn => by obtain ⟨b, off, e, hlt, hc⟩ := h.2 hn; exact ⟨b, off, e, hlt, fun i hi => hc i hi⟩⟩
theorem below_drewN {B : Nat} {w w' : World} (h : Below B w w') (k : Nat) : Below B w (w'.drewN k) := by
  induction k with
  | zero => simpa [World.drewN] using h
  | succ k ih => exact ih.drew
/-- The cells of a block that the walk has just made. -/
theorem news_new (w : World) (cs : Array Value) (t : TypeId) : ∀ ad, (some (⟨w.heap.size, 0, none⟩ : Addr)) = some ad → ∀ j u, cs.toList[j]? = some u → (w.alloc (.cells cs t)).cell? (ad.add j) = some u := by
  intro ad ha j u hu
  injection ha with ha
  subst ha
  exact World.news_of_block (heap_alloc_last w _) j u hu
end Go.Proofs.YtjdflnnpamjjcaaDoor

namespace Go.Proofs.YtjdflnnpamjjcaaDoor
open Go.RowKit

/-- Two networks: the same or not, as the walks ask. -/
theorem net_parts (x y : Nat × Int) : x = y ∨ (x ≠ y ∧ (((x.1 : Int) == (y.1 : Int)) = false ∨ (x.1 = y.1 ∧ (x.2 == y.2) = false))) := by
  by_cases h : x.1 = y.1
  · by_cases h2 : x.2 = y.2
    · exact .inl (Prod.ext h h2)
    · exact .inr ⟨fun e => h2 (by rw [e]), .inr ⟨h, by simpa using h2⟩⟩
  · exact .inr ⟨fun e => h (by rw [e]), .inl (by simp; omega)⟩
set_option maxRecDepth 20000 in
set_option maxHeartbeats 3200000 in
theorem nets_Index (a : Option Addr) (n c : Nat) (l : List (Nat × Int)) (x : Nat × Int) (w : World) (hl : NetsAt w w.heap.size a n l) (hn : n ≤ maxLen) :
    Calls Tryd.prog 40 #[.slice a n c, .agg #[.int .u32 (x.1 : Int), .int .i64 x.2]] w fun e w' => (∃ r : Int, e = .returned (.int .i64 r) ∧ ((0 ≤ r ∧ x ∈ l) ∨ (r = -1 ∧ x ∉ l))) ∧ Below w.heap.size w w' := by
  have Hl := Lib.hid hl
  have hl1 := hl.1
  have hm' : n ≤ 9223372036854775807 := by unfold maxLen at hn; omega
  obtain ⟨xa, xb⟩ := x
  have HP := Lib.hid (fun (y : Nat × Int) => net_parts (xa, xb) y)
  simp only at HP ⊢
  clear hl
  obtain ⟨w1, hw1⟩ : ∃ w1, w1 = w.alloc (.cells #[.int .u32 (xa : Int), .int .i64 xb] 44) := ⟨_, rfl⟩
  have HA := Lib.hid (show Below w.heap.size w w1 by rw [hw1]; exact (Below.refl _ _).alloc (Nat.le_refl _) _)
  have HG := Lib.hid (show Blk w1 w.heap.size 44 [.int .u32 (xa : Int), .int .i64 xb] by rw [hw1]; exact Blk.new _ _ _)
  go_enter Tryd.func40, Tryd.ntmps40
  go_wp2_with fail
  rw [← hw1]
  clear hw1
  go_loopw [8] (fun i wr => ∃ j : Nat, j ≤ n ∧ i = .int .i64 j ∧ Hid (∀ i' (hi : i' < l.length), i' < j → (xa, xb) ≠ l[i']) ∧ Hid (Below w1.heap.size w1 wr)) (fun i _ => n - (intOf i).toNat)
  case atStart => exact ⟨0, Nat.zero_le _, rfl, Lib.hid (fun _ _ h => by omega), Lib.hid (Below.refl _ _)⟩
  case round =>
    obtain ⟨j, hj, rfl, Hno, HBr⟩ := hrel
    obtain ⟨wo, hwo⟩ : ∃ wo, wo = wr := ⟨_, rfl⟩
    subst hwo
    have HBo := Lib.hid (HA.out.trans (HBr.out.mono HA.out.size))
    have hg := HG.out.kept HBr.out
    have g0 := hg.cell 0 rfl
    have g1 := hg.cell 1 rfl
    clear hg
    by_cases hlt : j < n
    · have hjl : j < l.length := by omega
      obtain ⟨b1, o1, rfl, _, hc1⟩ := (Hl.out.below HBo.out).2 (by omega)
      obtain ⟨x0, x1⟩ := hc1 j hjl
      have Hin : Hid ((xa, xb) = l[j] → (xa, xb) ∈ l) := Lib.hid (fun e => e.symm ▸ List.getElem_mem hjl)
      have Hx := Lib.hid (fun (he : (xa, xb) ≠ l[j]) => (show ∀ i' (hi : i' < l.length), i' < j + 1 → (xa, xb) ≠ l[i'] from fun i' hi h1 => by
        by_cases h2 : i' < j
        · exact Hno.out i' hi h2
        · obtain rfl : i' = j := by omega
          exact he))
      have hpp := HP.out l[j]
      clear hc1
      generalize l[j] = X at *
      obtain ⟨ya, yb⟩ := X
      simp only at x0 x1 hpp
      have i1 : (j : Int) < (n : Int) := by omega
      rcases hpp with he | ⟨hne, hq⟩
      · have Hmem := Lib.hid (Hin.out he)
        injection he with e1 e2
        subst e1 e2
        clear Hin Hx
        go_wp2_with fail
        go_quiet (fail)
        go_wp2
        go_ret
        exact ⟨⟨_, rfl, .inl ⟨by omega, Hmem.out⟩⟩, below_drewN HBo.out _⟩
      · have Hn := Lib.hid (Hx.out hne)
        clear Hin Hx hne
        rcases hq with q | ⟨rfl, q⟩
        · go_wp2_with fail
          go_quiet (fail)
          go_wp2
          go_roundw
          case rel => exact ⟨j + 1, by omega, by go_num, Hn, Lib.hid (below_drewN HBr.out _)⟩
          case measure => simp [intOf]; omega
        · go_wp2_with fail
          go_quiet (fail)
          go_wp2
          go_roundw
          case rel => exact ⟨j + 1, by omega, by go_num, Hn, Lib.hid (below_drewN HBr.out _)⟩
          case measure => simp [intOf]; omega
    · obtain rfl : j = n := by omega
      have Hnm : Hid ((xa, xb) ∉ l) := Lib.hid (fun hm => by
        obtain ⟨i', hi, he⟩ := List.mem_iff_getElem.1 hm
        exact Hno.out i' hi (by omega) he.symm)
      clear Hl
      go_wp2
      go_ret
      exact ⟨⟨_, rfl, .inr ⟨rfl, Hnm.out⟩⟩, HBo.out⟩
set_option maxHeartbeats 800000 in
theorem nets_Contains (a : Option Addr) (n c : Nat) (l : List (Nat × Int)) (x : Nat × Int) (w : World) (hl : NetsAt w w.heap.size a n l) (hn : n ≤ maxLen) :
    Calls Tryd.prog 23 #[.slice a n c, .agg #[.int .u32 (x.1 : Int), .int .i64 x.2]] w fun e w' => e = .returned (.bool (decide (x ∈ l))) ∧ Below w.heap.size w w' := by
  have HI := Lib.hid (fun W (hW : Below w.heap.size w W) => nets_Index a n c l x W ((hl.below hW).more hW.size) hn)
  obtain ⟨xa, xb⟩ := x
  simp only at HI ⊢
  clear hl hn
  obtain ⟨w1, hw1⟩ : ∃ w1, w1 = w.alloc (.cells #[.int .u32 (xa : Int), .int .i64 xb] 44) := ⟨_, rfl⟩
  have HA := Lib.hid (show Below w.heap.size w w1 by rw [hw1]; exact (Below.refl _ _).alloc (Nat.le_refl _) _)
  have HG := Lib.hid (show Blk w1 w.heap.size 44 [.int .u32 (xa : Int), .int .i64 xb] by rw [hw1]; exact Blk.new _ _ _)
  have g0 := HG.out.cell 0 rfl
  have g1 := HG.out.cell 1 rfl
  go_enter Tryd.func23, Tryd.ntmps23
  go_wp2_with fail
  rw [← hw1]
  clear hw1
  refine (HI.out w1 HA.out).mono ?_
  rintro e w2 ⟨⟨r, rfl, hr⟩, hb2⟩
  have HA2 := Lib.hid (HA.out.trans (hb2.mono HA.out.size))
  clear hb2 HI
  rcases hr with ⟨h0, hm⟩ | ⟨rfl, hm⟩
  · have d : decide ((0 : Int) ≤ r) = true := decide_eq_true h0
    have Hm : Hid (decide ((xa, xb) ∈ l) = true) := Lib.hid (decide_eq_true hm)
    clear hm
    go_wp2
    go_ret
    exact ⟨by rw [Hm.out]; rfl, HA2.out⟩
  · have Hm : Hid (decide ((xa, xb) ∈ l) = false) := Lib.hid (decide_eq_false hm)
    clear hm
    go_wp2
    go_ret
    exact ⟨by rw [Hm.out]; rfl, HA2.out⟩
end Go.Proofs.YtjdflnnpamjjcaaDoor

namespace Go.Proofs.YtjdflnnpamjjcaaDoor
open Go.RowKit

/-- What Find returns. -/
def Cf.found (l : List Cf.P) (key : ByteArray) : Nat := if Cf.at_ l key < l.length then Cf.at_ l key else 0
def Cf.foundErr (l : List Cf.P) (key : ByteArray) : Nat := if Cf.at_ l key < l.length then 0 else 5
set_option maxRecDepth 20000 in
set_option maxHeartbeats 2000000 in
theorem conf_Find (x : Cf.C) (a : Option Addr) (c : Nat) (key : ByteArray) (w : World) (h : PeersAt w w.heap.size a x.ps.length x.ps) (hm : x.ps.length ≤ maxLen) :
    Calls Tryd.prog 8 #[confV x a c, .string key] w fun e w' => e = .returned (.tuple #[.int .i64 (Cf.found x.ps key : Int), .int .i64 (Cf.foundErr x.ps key : Int)]) ∧ Below w.heap.size w w' := by
  obtain ⟨ck, cp, l⟩ := x
  simp only at h hm ⊢
  have H := Lib.hid h
  have HH : Hid (∀ k (h1 : k < l.length), (∀ j (hj : j < l.length), j < k → l[j].k ≠ key) → l[k].k = key → Cf.found l key = k ∧ Cf.foundErr l key = 0) := Lib.hid (fun k h1 h2 h3 => by
    have := Cf.at_here (l := l) (key := key) (k := k) h1 h2 h3
    unfold Cf.found Cf.foundErr
    rw [this, if_pos h1, if_pos h1]
    exact ⟨rfl, rfl⟩)
  have HN : Hid ((∀ j (hj : j < l.length), l[j].k ≠ key) → Cf.found l key = 0 ∧ Cf.foundErr l key = 5) := Lib.hid (fun h1 => by
    have := Cf.at_none (l := l) (key := key) h1
    unfold Cf.found Cf.foundErr
    rw [this, if_neg (by omega), if_neg (by omega)]
    exact ⟨rfl, rfl⟩)
  obtain ⟨R, hR⟩ : ∃ R, R = Cf.found l key := ⟨_, rfl⟩
  obtain ⟨E, hE⟩ : ∃ E, E = Cf.foundErr l key := ⟨_, rfl⟩
  rw [← hR, ← hE] at HH HN ⊢
  clear h hR hE
  obtain ⟨n, hn⟩ : ∃ n, n = l.length := ⟨_, rfl⟩
  unfold confV
  simp only
  rw [← hn] at H hm ⊢
  have hm' : n ≤ 9223372036854775807 := by unfold maxLen at hm; omega
  have Hn := Lib.hid hn
  clear hn
  obtain ⟨w1, hw1⟩ : ∃ w1, w1 = w.alloc (.cells #[.string ck, .int .i64 cp, .slice a n c] 31) := ⟨_, rfl⟩
  have HA := Lib.hid (show Below w.heap.size w w1 by rw [hw1]; exact (Below.refl _ _).alloc (Nat.le_refl _) _)
  have HG := Lib.hid (show Blk w1 w.heap.size 31 [.string ck, .int .i64 cp, .slice a n c] by rw [hw1]; exact Blk.new _ _ _)
  have g2 := HG.out.cell 2 rfl
  go_enter Tryd.func8, Tryd.ntmps8
  go_upto_region 1 with fail
  rw [← hw1]
  clear hw1
  go_wp2
  go_loopw [11] (fun i wr => ∃ k : Nat, k ≤ n ∧ i = .int .i64 (k : Int) ∧ Hid (∀ j (hj : j < l.length), j < k → l[j].k ≠ key) ∧ Hid (Below w1.heap.size w1 wr)) (fun i _ => n - (intOf i).toNat)
  case atStart => exact ⟨0, Nat.zero_le _, rfl, Lib.hid (fun j _ h => by omega), Lib.hid (Below.refl _ _)⟩
  case round =>
    obtain ⟨k, hk, rfl, Ha, HBr⟩ := hrel
    obtain ⟨wo, hwo⟩ : ∃ wo, wo = wr := ⟨_, rfl⟩
    subst hwo
    have hsz := HBr.out.size
    have HBo := Lib.hid (HA.out.trans (HBr.out.mono HA.out.size))
    by_cases hlt : k < n
    · have hll : k < l.length := by have := Hn.out; omega
      obtain ⟨b, off, rfl, hbl, hc⟩ := (H.out.below HBo.out).2 (by omega)
      obtain ⟨c0, c1, c2, c3, xa, cc, c4, hnets⟩ := hc k hll
      have He := Lib.hid (fun he => HH.out k hll Ha.out he)
      have Hx := Lib.hid (fun (he : l[k].k ≠ key) => (show ∀ j (hj : j < l.length), j < k + 1 → l[j].k ≠ key from fun j hj h1 => by
        by_cases hjk : j < k
        · exact Ha.out j hj hjk
        · obtain rfl : j = k := by omega
          exact he))
      clear hc hnets
      generalize l[k] = p at *
      obtain ⟨pk, ps, pe, pv, ns⟩ := p
      simp only at c0 c1 c2 c3 c4 He Hx
      generalize ns.length = m at *
      have i1 : (k : Int) < (n : Int) := by omega
      obtain ⟨w5, hw5⟩ : ∃ w5, w5 = wo.alloc (.cells #[.string pk, .string ps, .string pe, .int .i64 pv, .slice xa m cc] 24) := ⟨_, rfl⟩
      have hA5 : Below wo.heap.size wo w5 := by rw [hw5]; exact (Below.refl _ _).alloc (Nat.le_refl _) _
      have HS5 := Lib.hid (show Blk w5 wo.heap.size 24 [.string pk, .string ps, .string pe, .int .i64 pv, .slice xa m cc] by rw [hw5]; exact Blk.new _ _ _)
      have HB5 := Lib.hid (HBr.out.trans (hA5.mono hsz))
      have HBo5 := Lib.hid (HBo.out.trans (hA5.mono HBo.out.size))
      have s0 := HS5.out.cell 0 rfl
      clear hA5
      go_upto_region 4 with fail
      rw [← hw5]
      clear hw5 c0 c1 c2 c3 c4
      rcases text_eq pk key with rfl | q
      · obtain ⟨hr, he⟩ := He.out rfl
        have Hr := Lib.hid hr
        have HE := Lib.hid he
        clear He Hx hr he
        go_wp2
        go_ret2
        exact ⟨by rw [Hr.out, HE.out]; rfl, HBo5.out⟩
      · have Hy := Lib.hid (Hx.out (fun e => by subst e; simp at q))
        clear He Hx
        go_wp2
        go_roundw
        case rel => exact ⟨k + 1, by omega, by go_num, Hy, HB5⟩
        case measure => simp [intOf]; omega
    · obtain rfl : k = n := by omega
      obtain ⟨hr, he⟩ := HN.out (fun j hj => Ha.out j hj (by have := Hn.out; omega))
      have Hr := Lib.hid hr
      have HE := Lib.hid he
      clear hr he
      go_wp2
      go_ret2
      exact ⟨by rw [Hr.out, HE.out]; rfl, HBo.out⟩
set_option maxRecDepth 20000 in
set_option maxHeartbeats 4000000 in
theorem conf_haveAny (a b : Option Addr) (n c m d : Nat) (l : List Cf.P) (ns : List (Nat × Int)) (w : World) (h : PeersAt w w.heap.size a n l) (hm : n ≤ maxLen) (hN : NetsAt w w.heap.size b m ns) (hmm : m ≤ maxLen) (hs : ∀ p ∈ l, p.ns.length ≤ maxLen) :
    Calls Tryd.prog 28 #[.slice a n c, .slice b m d] w fun e w' => e = .returned (.bool (Cf.has l ns)) ∧ Below w.heap.size w w' := by
  have H := Lib.hid h
  have HNN := Lib.hid hN
  have HSm := Lib.hid hs
  have hl := h.1
  have hlm := hN.1
  have F1 := Lib.hid (fun i j hi hj h => Cf.has_here (ps := l) (ns := ns) (i := i) (j := j) hi hj h)
  have F2 := Lib.hid (fun h => Cf.has_not (ps := l) (ns := ns) h)
  obtain ⟨R, hR⟩ : ∃ R, R = Cf.has l ns := ⟨_, rfl⟩
  rw [← hR] at F1 F2 ⊢
  clear hR h hN hs
  have hm' : n ≤ 9223372036854775807 := by unfold maxLen at hm; omega
  have hmm' : m ≤ 9223372036854775807 := by unfold maxLen at hmm; omega
  clear hm hmm
  go_enter Tryd.func28, Tryd.ntmps28
  go_wp2
  go_loopw [11] (fun i wr => ∃ k : Nat, k ≤ n ∧ i = .int .i64 (k : Int) ∧ Hid (∀ j (hj : j < l.length), j < k → ∀ x ∈ ns, x ∉ l[j].ns) ∧ Hid (Below w.heap.size w wr)) (fun i _ => n - (intOf i).toNat)
  case atStart => exact ⟨0, Nat.zero_le _, rfl, Lib.hid (fun j _ h => by omega), Lib.hid (Below.refl _ _)⟩
  case round =>
    obtain ⟨k, hk, rfl, Ha, HBo⟩ := hrel
    obtain ⟨wo, hwo⟩ : ∃ wo, wo = wr := ⟨_, rfl⟩
    subst hwo
    have hsz := HBo.out.size
    by_cases hlt : k < n
    · have hll : k < l.length := by omega
      obtain ⟨b1, off, rfl, hbl, hc⟩ := (H.out.below HBo.out).2 (by omega)
      obtain ⟨c0, c1, c2, c3, xa, cc, c4, hnets⟩ := hc k hll
      have Hf := Lib.hid (fun j hj h => F1.out k j hll hj h)
      have Hx := Lib.hid (fun (he : ∀ x ∈ ns, x ∉ l[k].ns) => (show ∀ j (hj : j < l.length), j < k + 1 → ∀ x ∈ ns, x ∉ l[j].ns from fun j hj h1 => by
        by_cases hjk : j < k
        · exact Ha.out j hj hjk
        · obtain rfl : j = k := by omega
          exact he))
      have hps := HSm.out _ (List.getElem_mem hll)
      clear hc
      generalize l[k] = p at *
      obtain ⟨pk, ps, pe, pv, qs⟩ := p
      simp only at c0 c1 c2 c3 c4 Hf Hx hps hnets
      have HQ := Lib.hid hnets
      generalize qs.length = u at *
      clear hnets
      have i1 : (k : Int) < (n : Int) := by omega
      obtain ⟨w5, hw5⟩ : ∃ w5, w5 = wo.alloc (.cells #[.string pk, .string ps, .string pe, .int .i64 pv, .slice xa u cc] 24) := ⟨_, rfl⟩
      have hA5 : Below wo.heap.size wo w5 := by rw [hw5]; exact (Below.refl _ _).alloc (Nat.le_refl _) _
      have HS5 := Lib.hid (show Blk w5 wo.heap.size 24 [.string pk, .string ps, .string pe, .int .i64 pv, .slice xa u cc] by rw [hw5]; exact Blk.new _ _ _)
      have HA5 := Lib.hid hA5
      have HB5 := Lib.hid (HBo.out.trans (hA5.mono hsz))
      have hz5 := hA5.size
      clear hA5
      go_upto_region 4 with fail
      rw [← hw5]
      clear hw5 c0 c1 c2 c3 c4
      go_wp2
      go_loopw [17] (fun i wr => ∃ j : Nat, j ≤ m ∧ i = .int .i64 (j : Int) ∧ Hid (∀ i' (hi : i' < ns.length), i' < j → ns[i'] ∉ qs) ∧ Hid (Below w5.heap.size w5 wr)) (fun i _ => m - (intOf i).toNat)
      case atStart => exact ⟨0, Nat.zero_le _, rfl, Lib.hid (fun _ _ h => by omega), Lib.hid (Below.refl _ _)⟩
      case round =>
        obtain ⟨j, hj, rfl, Hno, HBj⟩ := hrel
        obtain ⟨wi, hwi⟩ : ∃ wi, wi = wr := ⟨_, rfl⟩
        subst hwi
        have hsi := HBj.out.size
        have HBi := Lib.hid (HB5.out.trans (HBj.out.mono HB5.out.size))
        have HSi := Lib.hid (HS5.out.kept HBj.out)
        by_cases hlt2 : j < m
        · have hjl : j < ns.length := by omega
          obtain ⟨b2, off2, rfl, hb2l, hc2⟩ := (HNN.out.below HBi.out).2 (by omega)
          obtain ⟨d0, d1⟩ := hc2 j hjl
          have Hin := Lib.hid (fun hm => Hf.out j hjl hm)
          have Hsx := Lib.hid (fun (hm : ns[j] ∉ qs) => (show ∀ i' (hi : i' < ns.length), i' < j + 1 → ns[i'] ∉ qs from fun i' hi h1 => by
            by_cases h2 : i' < j
            · exact Hno.out i' hi h2
            · obtain rfl : i' = j := by omega
              exact hm))
          clear hc2
          generalize ns[j] = x at *
          obtain ⟨w7, hw7⟩ : ∃ w7, w7 = wi.alloc (.cells #[.int .u32 (x.1 : Int), .int .i64 x.2] 44) := ⟨_, rfl⟩
          have hA7 : Below wi.heap.size wi w7 := by rw [hw7]; exact (Below.refl _ _).alloc (Nat.le_refl _) _
          have hM7 := show Blk w7 wi.heap.size 44 [.int .u32 (x.1 : Int), .int .i64 x.2] by rw [hw7]; exact Blk.new _ _ _
          have m0 := hM7.cell 0 rfl
          have m1 := hM7.cell 1 rfl
          have s4 := (HSi.out.kept hA7).cell 4 rfl
          have HB7 := Lib.hid (HBj.out.trans (hA7.mono hsi))
          have HBo7 := Lib.hid (HBi.out.trans (hA7.mono HBi.out.size))
          have HC := Lib.hid (nets_Contains xa u cc qs x w7 (((HQ.out.below (HA5.out.mono hsz)).more (Nat.le_trans hsz hz5)).below (HB7.out.mono (Nat.le_refl _)) |>.more HB7.out.size) hps)
          obtain ⟨xn, xb⟩ := x
          simp only at m0 m1 d0 d1 hw7 HC
          clear hA7 hM7
          go_upto_region 7 with fail
          rw [← hw7]
          clear hw7 d0 d1
          go_wp2_with fail
          refine HC.out.mono ?_
          rintro e w8 ⟨rfl, hb8⟩
          have HB8 := Lib.hid (HB7.out.trans (hb8.mono HB7.out.size))
          have HBo8 := Lib.hid (HBo7.out.trans (hb8.mono HBo7.out.size))
          clear hb8 HC m0 m1 s4
          by_cases hm : ((xn, xb) : Nat × Int) ∈ qs
          · rw [decide_eq_true hm]
            have Hr := Lib.hid (Hin.out hm)
            clear hm
            go_wp2
            go_ret
            exact ⟨by rw [Hr.out]; rfl, HBo8.out⟩
          · rw [decide_eq_false hm]
            have Hs2 := Lib.hid (Hsx.out hm)
            clear hm
            go_wp2
            go_roundw
            case rel => exact ⟨j + 1, by omega, by go_num, Hs2, HB8⟩
            case measure => simp [intOf]; omega
        · obtain rfl : j = m := by omega
          have Hall := Lib.hid (Hx.out (fun y hy => by
            obtain ⟨i', hi', rfl⟩ := List.mem_iff_getElem.1 hy
            exact Hno.out i' hi' (by omega)))
          go_wp2
          go_roundw
          case rel => exact ⟨k + 1, by omega, by go_num, Hall, HBi⟩
          case measure => simp [intOf]; omega
    · obtain rfl : k = n := by omega
      have Hr := Lib.hid (F2.out (fun i hi => Ha.out i hi (by omega)))
      go_wp2
      go_ret
      exact ⟨by rw [Hr.out]; rfl, HBo.out⟩
end Go.Proofs.YtjdflnnpamjjcaaDoor
