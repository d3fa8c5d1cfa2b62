/- Nodes in memory, more: parts of slices of nodes, stores into a row of nodes. -/
import Derived.Test.YtjdflnnpamjjcaaGreatDoorSz01
import Derived.Test.YtjdflnnpamjjcaaGreatDoorSz12
import Derived.Deep.RegionHeld3
namespace Go.Proofs.YtjdflnnpamjjcaaGreatDoor
open Go.RowKit

/-- A network lies in a block. -/
def NetIn (w : World) (g : Nat) (a : Nat) (b : Int) : Prop := w.heap[g]? = some (.cells #[.int .u32 (a : Int), .int .i64 b] 47 (0, 0))
theorem NetIn.lt {w : World} {g a : Nat} {b : Int} (h : NetIn w g a b) : g < w.heap.size := by
  by_cases hc : g < w.heap.size
  · exact hc
  · unfold NetIn at h; rw [Array.getElem?_eq_none (by omega)] at h; cases h
theorem NetIn.below {w w' : World} {g a : Nat} {b : Int} (h : NetIn w g a b) (hb : Below w.heap.size w w') : NetIn w' g a b := (hb.block g h.lt).trans h
theorem NetIn.own {w : World} {g a : Nat} {b : Int} (h : NetIn w g a b) : w.ownsRow 0 47 1 (.slice (some ⟨g, 0, none⟩) 2 2) 2 [.int .u32 (a : Int), .int .i64 b] := own_two h (Nat.zero_le _)
theorem NetIn.set {w : World} {g a : Nat} {b : Int} (h : NetIn w g a b) (a' : Nat) (b' : Int) : NetIn ((w.setCell ⟨g, 0, none⟩ (.int .u32 (a' : Int))).setCell ⟨g, 1, none⟩ (.int .i64 b')) g a' b' := two_block (two_set h.own _ _)
theorem NetIn.other {w : World} {g a k : Nat} {b : Int} (h : NetIn w g a b) (hk : k ≠ g) (x y : Value) : NetIn ((w.setCell ⟨k, 0, none⟩ x).setCell ⟨k, 1, none⟩ y) g a b := by
  unfold NetIn at *
  rw [heap_setCell_other _ _ _ _ (by simpa using hk.symm), heap_setCell_other _ _ _ _ (by simpa using hk.symm)]
  exact h
end Go.Proofs.YtjdflnnpamjjcaaGreatDoor

namespace Go.Proofs.YtjdflnnpamjjcaaGreatDoor
open Go.RowKit

theorem shl_bit (t : TypeId) (a b : Nat) (hb : b ≤ 31) : binOp .shl t (.int .u32 (a : Int)) (.int .i64 (b : Int)) = pure (.int .u32 ((a * 2 ^ b % 4294967296 : Nat) : Int)) := by
  rw [binOp_shl, shift_shl_any .u32 .i64 _ (b : Int) (by omega), show IntKind.u32.bits = 32 from rfl, Int.toNat_natCast, Nat.min_eq_left (by omega)]
  have e : (a : Int) * 2 ^ b = ((a * 2 ^ b : Nat) : Int) := by rw [Int.natCast_mul, Int.natCast_pow]; rfl
  rw [e, IntKind.wrap_u32]
  generalize a * 2 ^ b = y
  have e2 : ((y : Int) % 4294967296) = ((y % 4294967296 : Nat) : Int) := by omega
  rw [e2]
theorem shl_shr (a b : Nat) (hb : b ≤ 31) : a * 2 ^ b % 4294967296 / 2147483648 = Tr.bitAt a b := by
  unfold Tr.bitAt
  have h1 : a * 2 ^ b % 4294967296 / 2147483648 = a * 2 ^ b / 2147483648 % 2 := by omega
  rw [h1]
  congr 1
  rw [show (2147483648 : Nat) = 2 ^ (31 - b) * 2 ^ b by rw [← Nat.pow_add, show 31 - b + b = 31 by omega]]
  exact Nat.mul_div_mul_right _ _ (Nat.two_pow_pos b)
set_option maxHeartbeats 800000 in
theorem trie_nextBit (ta : Nat) (tb : Nat) (xa : Nat) (xb : Int) (w : World) (hb : tb ≤ 31) :
    Calls Tryz.prog 84 #[netV ta (tb : Int), netV xa xb] w fun e w' => e = .returned (.int .u32 (Tr.bitAt xa tb : Int)) ∧ Below w.heap.size w w' := by
  have h1 := fun t => shl_bit t xa tb hb
  have h2 := shl_shr xa tb hb
  have h3 : ∀ t, binOp .shr t (.int .u32 ((xa * 2 ^ tb % 4294967296 : Nat) : Int)) (.int .u64 31) = pure (.int .u32 ((Tr.bitAt xa tb : Nat) : Int)) := by
    intro t
    rw [binOp_shr, shift_shr .u32 .u64 _ (31 : Int) (by omega) (by decide), ← h2]
    simp only [Int.natCast_ediv]
    rfl
  clear h2
  generalize xa * 2 ^ tb % 4294967296 = Y at *
  generalize Tr.bitAt xa tb = Z at *
  unfold netV
  go_enter Tryz.func84, Tryz.ntmps84
  go_wp2
  go_ret
  exact ⟨rfl, ((Below.refl _ _).alloc (Nat.le_refl _) _).alloc (by simp) _⟩

/-- What the closure sees: the top, the variable that bears the nodes, the nodes. -/
structure Sees (W : World) (N g5 g3 : Nat) (t : Tr.Nw) (a : Option Addr) (n c : Nat) (l : List Tr.Node) : Prop where
  top : NetIn W g5 t.1 t.2
  box : W.cell? ⟨g3, 0, none⟩ = some (.slice a n c)
  nodes : NodesAt W N a n l
  g5lt : g5 < N
  g3lt : g3 < N
  le : N ≤ W.heap.size
theorem Sees.below {W W' : World} {N g5 g3 : Nat} {t : Tr.Nw} {a : Option Addr} {n c : Nat} {l : List Tr.Node} (h : Sees W N g5 g3 t a n c l) (hb : Below N W W') : Sees W' N g5 g3 t a n c l :=
  ⟨(hb.block g5 h.g5lt).trans h.top, by rw [hb.cell (p := ⟨g3, 0, none⟩) h.g3lt]; exact h.box, h.nodes.below hb, h.g5lt, h.g3lt, Nat.le_trans h.le hb.size⟩

set_option maxRecDepth 20000 in
set_option maxHeartbeats 1600000 in
theorem trie_bit (k g5 g3 N : Nat) (t : Tr.Nw) (a : Option Addr) (n c : Nat) (l : List Tr.Node) (w : World) (hS : Sees w N g5 g3 t a n c l) (hk : k < n) (hn : n ≤ 3518437208883) (ht0 : 0 ≤ t.2) (ht : t.2 ≤ 31) :
    Calls Tryz.prog 83 #[.int .i64 (k : Int), .pointer (some ⟨g5, 0, none⟩), .pointer (some ⟨g3, 0, none⟩)] w fun e w' => (∃ r : Bool, e = .returned (.bool r) ∧ (r = true ↔ Tr.bitAt (l.getD k ⟨0, 0, ByteArray.empty, 0⟩).a t.2.toNat = 1)) ∧ Below w.heap.size w w' := by
  obtain ⟨hl, hN⟩ := hS.nodes
  obtain ⟨b, off, rfl, hbl, hcs⟩ := hN (by omega)
  obtain ⟨x0, x1, _, _⟩ := hcs k (by omega)
  have c0 := hS.box
  obtain ⟨t0, t1⟩ := two_cells hS.top.own
  have hle := hS.le
  have h5 := hS.g5lt
  have h3 := hS.g3lt
  have hget : l.getD k ⟨0, 0, ByteArray.empty, 0⟩ = l[k]'(by omega) := by rw [List.getD_eq_getElem?_getD, List.getElem?_eq_getElem (by omega)]; rfl
  rw [hget]
  clear hcs hget hS hN
  generalize l[k]'(by omega) = X at *
  obtain ⟨xa, xb, xo, xs⟩ := X
  obtain ⟨ta, tb⟩ := t
  obtain ⟨m, rfl⟩ : ∃ m : Nat, tb = (m : Int) := ⟨tb.toNat, by have : (0 : Int) ≤ tb := ht0; omega⟩
  have hm : m ≤ 31 := by have : (m : Int) ≤ 31 := ht; omega
  have HS : Hid (∀ W, Below w.heap.size w W → (W.cell? ⟨g5, 0, none⟩ = some (.int .u32 (ta : Int)) ∧ W.cell? ⟨g5, 1, none⟩ = some (.int .i64 (m : Int)) ∧ W.cell? ⟨g3, 0, none⟩ = some (.slice (some ⟨b, off, none⟩) n c) ∧ W.cell? ⟨b, off + k * 4, none⟩ = some (.int .u32 (xa : Int)) ∧ W.cell? ⟨b, off + k * 4 + 1, none⟩ = some (.int .i64 xb) ∧ Below w.heap.size w W)) := Lib.hid fun W hW => by
    refine ⟨?_, ?_, ?_, ?_, ?_, hW⟩
    · rw [hW.cell (p := ⟨g5, 0, none⟩) (by show g5 < w.heap.size; omega)]; exact t0
    · rw [hW.cell (p := ⟨g5, 1, none⟩) (by show g5 < w.heap.size; omega)]; exact t1
    · rw [hW.cell (p := ⟨g3, 0, none⟩) (by show g3 < w.heap.size; omega)]; exact c0
    · rw [hW.cell (p := ⟨b, off + k * 4, none⟩) (by show b < w.heap.size; omega)]; exact x0
    · rw [hW.cell (p := ⟨b, off + k * 4 + 1, none⟩) (by show b < w.heap.size; omega)]; exact x1
  have HC : Hid (∀ W, (W.cell? ⟨g5, 0, none⟩ = some (.int .u32 (ta : Int)) ∧ W.cell? ⟨g5, 1, none⟩ = some (.int .i64 (m : Int)) ∧ W.cell? ⟨g3, 0, none⟩ = some (.slice (some ⟨b, off, none⟩) n c) ∧ W.cell? ⟨b, off + k * 4, none⟩ = some (.int .u32 (xa : Int)) ∧ W.cell? ⟨b, off + k * 4 + 1, none⟩ = some (.int .i64 xb) ∧ Below w.heap.size w W) → Calls Tryz.prog 84 #[.agg #[.int .u32 (ta : Int), .int .i64 (m : Int)], .agg #[.int .u32 (xa : Int), .int .i64 xb]] W fun e W' => e = .returned (.int .u32 (Tr.bitAt xa m : Int)) ∧ (W'.cell? ⟨g5, 0, none⟩ = some (.int .u32 (ta : Int)) ∧ W'.cell? ⟨g5, 1, none⟩ = some (.int .i64 (m : Int)) ∧ W'.cell? ⟨g3, 0, none⟩ = some (.slice (some ⟨b, off, none⟩) n c) ∧ W'.cell? ⟨b, off + k * 4, none⟩ = some (.int .u32 (xa : Int)) ∧ W'.cell? ⟨b, off + k * 4 + 1, none⟩ = some (.int .i64 xb) ∧ Below w.heap.size w W')) := Lib.hid fun W hW => (trie_nextBit ta m xa xb W hm).mono fun e W' ⟨he, hb⟩ => ⟨he, HS.out W' (hW.2.2.2.2.2.trans (hb.mono hW.2.2.2.2.2.size))⟩
  have i1 : (k : Int) < (n : Int) := by omega
  have i0 : (0 : Int) ≤ (k : Int) := by omega
  rw [Int.toNat_natCast]
  generalize Tr.bitAt xa m = Z at *
  go_enter Tryz.func83, Tryz.ntmps83
  go_wp2_with fail
  go_region_held3 (fun W => W.cell? ⟨g5, 0, none⟩ = some (.int .u32 (ta : Int)) ∧ W.cell? ⟨g5, 1, none⟩ = some (.int .i64 (m : Int)) ∧ W.cell? ⟨g3, 0, none⟩ = some (.slice (some ⟨b, off, none⟩) n c) ∧ W.cell? ⟨b, off + k * 4, none⟩ = some (.int .u32 (xa : Int)) ∧ W.cell? ⟨b, off + k * 4 + 1, none⟩ = some (.int .i64 xb) ∧ Below w.heap.size w W) (first | assumption | (exact ⟨t0, t1, c0, x0, x1, (Below.refl _ _).drew⟩))
    (first
      | (go_at_call 84; refine (HC.out _ (by first | assumption | exact ⟨t0, t1, c0, x0, x1, (Below.refl _ _).drew⟩)).mono ?_; rintro e w2 ⟨rfl, hS2⟩))
  all_goals
    have hB2 := hS2.2.2.2.2.2
    go_wp2
    go_ret
    exact ⟨⟨_, rfl, by simp; omega⟩, hB2⟩
end Go.Proofs.YtjdflnnpamjjcaaGreatDoor

namespace Go.Proofs.YtjdflnnpamjjcaaGreatDoor
open Go.RowKit

/-- Where the search is. -/
structure Seeks (w : World) (t : Tr.Nw) (l : List Tr.Node) (i j : Nat) (wr : World) : Prop where
  le : i ≤ j
  up : j ≤ l.length
  low : ∀ x (_ : x < i) (h : x < l.length), Tr.bitAt l[x].a t.2.toNat = 0
  high : ∀ x (_ : j ≤ x) (h : x < l.length), Tr.bitAt l[x].a t.2.toNat = 1
  below : Below w.heap.size w wr

set_option maxRecDepth 20000 in
set_option maxHeartbeats 1600000 in
theorem trie_Search (g5 g3 : Nat) (t : Tr.Nw) (a : Option Addr) (n c : Nat) (l : List Tr.Node) (w : World) (hS : Sees w w.heap.size g5 g3 t a n c l) (hn : n ≤ 3518437208883) (hw : Tr.Within t l) (hs : Tr.sorted l) (ht : 0 < n → t.2 ≤ 31) :
    Calls Tryz.prog 82 #[.int .i64 (n : Int), .func (.func 83) #[] #[.pointer (some ⟨g5, 0, none⟩), .pointer (some ⟨g3, 0, none⟩)]] w fun e w' => (∃ k : Nat, e = .returned (.int .i64 (k : Int)) ∧ Tr.Ones t l k) ∧ Below w.heap.size w w' := by
  have HS := Lib.hid hS
  have HW := Lib.hid hw
  have Hs := Lib.hid hs
  have hl := hS.nodes.1
  have Ht := Lib.hid ht
  clear hS hw hs ht
  go_enter Tryz.func82, Tryz.ntmps82
  go_wp2
  go_loopw [5, 6] (fun vi vj wr => ∃ i j : Nat, vi = .int .i64 i ∧ vj = .int .i64 j ∧ Hid (Seeks w t l i j wr)) (fun vi vj _ => (intOf vj - intOf vi).toNat)
  case atStart => exact ⟨0, n, rfl, rfl, Lib.hid ⟨Nat.zero_le _, by omega, fun x hx => by omega, fun x hx h => by omega, Below.refl _ _⟩⟩
  case round =>
    obtain ⟨i, j, rfl, rfl, HK⟩ := hrel
    obtain ⟨wo, hwo⟩ : ∃ wo, wo = wr := ⟨_, rfl⟩
    subst hwo
    have hij := HK.out.le
    have hjn := HK.out.up
    have hsz := HK.out.below.size
    by_cases hlt : i < j
    · obtain ⟨m, hm⟩ : ∃ m, m = (i + j) / 2 := ⟨_, rfl⟩
      have hm1 : i ≤ m := by omega
      have hm2 : m < j := by omega
      have HB := Lib.hid (trie_bit m g5 g3 w.heap.size t a n c l wo (HS.out.below HK.out.below) (by omega) hn HW.out.t0 (Ht.out (by omega)))
      have e1 : IntKind.i64.wrap ((i : Int) + (j : Int)) = (i : Int) + (j : Int) := IntWalk.i64_in _ (by omega)
      have e2 : ((i : Int) + (j : Int)) / 2 = (m : Int) := by omega
      clear hm
      go_wp2_with fail
      refine HB.out.mono ?_
      rintro e w2 ⟨⟨r, rfl, hr⟩, hb2⟩
      have hml : m < l.length := by omega
      rw [show l.getD m ⟨0, 0, ByteArray.empty, 0⟩ = l[m] by rw [List.getD_eq_getElem?_getD, List.getElem?_eq_getElem hml]; rfl] at hr
      have hB2 := HK.out.below.trans (hb2.mono hsz)
      cases r with
      | true =>
        have h1 := hr.1 rfl
        have HN : Hid (Seeks w t l i m w2) := Lib.hid ⟨hm1, by omega, HK.out.low, fun x hx h => HW.out.mono Hs.out hx h h1, hB2⟩
        clear hr h1 HB e1 e2
        go_wp2
        go_roundw
        case rel => exact ⟨i, m, rfl, rfl, HN⟩
        case measure => simp [intOf]; omega
      | false =>
        have h1 : Tr.bitAt l[m].a t.2.toNat = 0 := (Tr.bit_two _ _).resolve_right fun h => by have := hr.2 h; cases this
        have HN : Hid (Seeks w t l (m + 1) j w2) := Lib.hid ⟨by omega, hjn, fun x hx h => by
          rcases Tr.bit_two l[x].a t.2.toNat with hb | hb
          · exact hb
          · have := HW.out.mono Hs.out (show x ≤ m by omega) hml hb
            omega, HK.out.high, hB2⟩
        clear hr h1 HB e1 e2
        go_wp2
        go_roundw
        case rel => exact ⟨m + 1, j, by go_num, rfl, HN⟩
        case measure => simp [intOf]; omega
    · obtain rfl : i = j := by omega
      have HO : Hid (Tr.Ones t l i) := Lib.hid ⟨hjn, HK.out.low, HK.out.high⟩
      have hB := HK.out.below
      clear HS HW Hs Ht
      go_wp2
      go_ret
      exact ⟨⟨i, rfl, HO.out⟩, hB⟩
end Go.Proofs.YtjdflnnpamjjcaaGreatDoor

namespace Go.Proofs.YtjdflnnpamjjcaaGreatDoor
open Go.RowKit

theorem NodesAt.take {w : World} {B n : Nat} {a : Option Addr} {l : List Tr.Node} (h : NodesAt w B a n l) {k : Nat} (hk : k ≤ n) : NodesAt w B a k (l.take k) := by
  refine ⟨by rw [List.length_take, h.1]; omega, fun h0 => ?_⟩
  obtain ⟨b, off, e, hb, hc⟩ := h.2 (by omega)
  refine ⟨b, off, e, hb, fun i hi => ?_⟩
  rw [List.length_take] at hi
  rw [List.getElem_take]
  exact hc i (by omega)
theorem NodesAt.drop {w : World} {B n b off : Nat} {l : List Tr.Node} (h : NodesAt w B (some ⟨b, off, none⟩) n l) {k : Nat} (hk : k ≤ n) : NodesAt w B (some ⟨b, off + k * 4, none⟩) (n - k) (l.drop k) := by
  refine ⟨by rw [List.length_drop, h.1], fun h0 => ?_⟩
  obtain ⟨b', off', e, hb, hc⟩ := h.2 (by omega)
  injection e with e
  injection e with e1 e2
  subst e1 e2
  refine ⟨b, off + k * 4, rfl, hb, fun i hi => ?_⟩
  rw [List.length_drop] at hi
  rw [List.getElem_drop]
  obtain ⟨c0, c1, c2, c3⟩ := hc (k + i) (by omega)
  rw [show off + (k + i) * 4 = off + k * 4 + i * 4 by omega] at c0 c1 c2 c3
  exact ⟨c0, c1, c2, c3⟩
theorem nodesC_cons (x : Tr.Node) (r : List Tr.Node) : Tr.nodesC (x :: r) = Tr.nodeC x ++ Tr.nodesC r := by unfold Tr.nodesC; rw [List.flatMap_cons]
theorem nodesC_set2 (acc : List Tr.Node) (nd : Tr.Node) (more : List Tr.Node) (o : ByteArray) : (Tr.nodesC (acc ++ nd :: more)).set (acc.length * 4 + 2) (.string o) = Tr.nodesC (acc ++ { nd with o := o } :: more) := by
  rw [Tr.nodesC_append, Tr.nodesC_append, nodesC_cons, nodesC_cons, List.set_append_right _ _ (by rw [Tr.nodesC_length]; omega), Tr.nodesC_length, show acc.length * 4 + 2 - acc.length * 4 = 2 by omega]
  rfl
theorem nodesC_set3 (acc : List Tr.Node) (nd : Tr.Node) (more : List Tr.Node) (s : Int) : (Tr.nodesC (acc ++ nd :: more)).set (acc.length * 4 + 3) (.int .i64 s) = Tr.nodesC (acc ++ { nd with s := s } :: more) := by
  rw [Tr.nodesC_append, Tr.nodesC_append, nodesC_cons, nodesC_cons, List.set_append_right _ _ (by rw [Tr.nodesC_length]; omega), Tr.nodesC_length, show acc.length * 4 + 3 - acc.length * 4 = 3 by omega]
  rfl
/-- A row of nodes that is not empty: its block. -/
theorem OwnN.row {w : World} {B : Nat} {v : Value} {l : List Tr.Node} (h : OwnN w B v l) (hl : l ≠ []) : ∃ g c, v = .slice (some ⟨g, 0, none⟩) l.length c ∧ l.length ≤ c ∧ B ≤ g ∧ g < w.heap.size ∧ w.ownsRow B 53 4 (.slice (some ⟨g, 0, none⟩) l.length c) l.length (Tr.nodesC l) := by
  obtain ⟨a, c, rfl, ho⟩ := h
  rcases ho.2 with ⟨_, hz⟩ | ⟨g, cap, cur, hv, hb, hg, hk, r⟩
  · exact absurd (List.eq_nil_of_length_eq_zero hz) hl
  · injection hv with h1 h2 h3
    subst h1 h3
    exact ⟨g, c, rfl, hk, hb, (ho.lt g rfl).2, ho⟩
theorem OwnN.put2 {w : World} {B g c : Nat} {acc more : List Tr.Node} {nd : Tr.Node} (h : w.ownsRow B 53 4 (.slice (some ⟨g, 0, none⟩) (acc ++ nd :: more).length c) (acc ++ nd :: more).length (Tr.nodesC (acc ++ nd :: more))) (o : ByteArray) :
    (w.setCell ⟨g, acc.length * 4 + 2, none⟩ (.string o)).ownsRow B 53 4 (.slice (some ⟨g, 0, none⟩) (acc ++ { nd with o := o } :: more).length c) (acc ++ { nd with o := o } :: more).length (Tr.nodesC (acc ++ { nd with o := o } :: more)) ∧ w.grownBy (w.setCell ⟨g, acc.length * 4 + 2, none⟩ (.string o)) (some g) := by
  obtain ⟨h1, h2⟩ := h.stored (acc.length * 4 + 2) (.string o)
  rw [nodesC_set2] at h1
  have e : (acc ++ { nd with o := o } :: more).length = (acc ++ nd :: more).length := by simp
  rw [e]
  exact ⟨h1, h2⟩
theorem OwnN.put3 {w : World} {B g c : Nat} {acc more : List Tr.Node} {nd : Tr.Node} (h : w.ownsRow B 53 4 (.slice (some ⟨g, 0, none⟩) (acc ++ nd :: more).length c) (acc ++ nd :: more).length (Tr.nodesC (acc ++ nd :: more))) (s : Int) :
    (w.setCell ⟨g, acc.length * 4 + 3, none⟩ (.int .i64 s)).ownsRow B 53 4 (.slice (some ⟨g, 0, none⟩) (acc ++ { nd with s := s } :: more).length c) (acc ++ { nd with s := s } :: more).length (Tr.nodesC (acc ++ { nd with s := s } :: more)) ∧ w.grownBy (w.setCell ⟨g, acc.length * 4 + 3, none⟩ (.int .i64 s)) (some g) := by
  obtain ⟨h1, h2⟩ := h.stored (acc.length * 4 + 3) (.int .i64 s)
  rw [nodesC_set3] at h1
  have e : (acc ++ { nd with s := s } :: more).length = (acc ++ nd :: more).length := by simp
  rw [e]
  exact ⟨h1, h2⟩
/-- What lies beneath a row's base is kept by what changes the row's block alone. -/
theorem below_of_grown {w w' : World} {B : Nat} {row : Option Nat} (hg : w.grownBy w' row) (hB : B ≤ w.heap.size) (hr : ∀ g, row = some g → B ≤ g) : Below B w w' :=
  ⟨hg.os, hg.tape, hg.output, hg.size, fun k hk => hg.block k (by omega) (fun e => by have := hr k e.symm; omega)⟩
end Go.Proofs.YtjdflnnpamjjcaaGreatDoor
