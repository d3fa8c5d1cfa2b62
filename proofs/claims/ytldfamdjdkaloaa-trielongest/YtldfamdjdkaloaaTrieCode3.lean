/- The contracts of the program's trie.nextBit, the closure of trie.grow, and of sort.Search with it. -/
import Derived.Test.YtldfamdjdkaloaaNodeMem2
import Derived.Test.YtldfamdjdkaloaaNetInBlk
import Derived.Test.YtldfamdjdkaloaaNetCode1
import Derived.Test.YtldfamdjdkaloaaTriePlain5
import Derived.Deep.RegionHeld3
namespace Go.Proofs.Ytldfamdjdkaloaa
open Go.RowKit

theorem shl_bit (t : TypeId) (a b : Nat) (hb : b ≤ 31) : binOp .shl t (.int .u32 (a : Int)) (.int .i64 (b : Int)) = pure (.int .u32 ((a * 2 ^ b % 4294967296 : Nat) : Int)) := by
  rw [binOp_shl, shift_shl_any .u32 .i64 _ (b : Int) (by omega), show IntKind.u32.bits = 32 from rfl, Int.toNat_natCast, Nat.min_eq_left (by omega)]
  have e : (a : Int) * 2 ^ b = ((a * 2 ^ b : Nat) : Int) := by rw [Int.natCast_mul, Int.natCast_pow]; rfl
  rw [e, IntKind.wrap_u32]
  generalize a * 2 ^ b = y
  have e2 : ((y : Int) % 4294967296) = ((y % 4294967296 : Nat) : Int) := by omega
  rw [e2]
theorem shl_shr (a b : Nat) (hb : b ≤ 31) : a * 2 ^ b % 4294967296 / 2147483648 = Tr.bitAt a b := by
  unfold Tr.bitAt
  have h1 : a * 2 ^ b % 4294967296 / 2147483648 = a * 2 ^ b / 2147483648 % 2 := by omega
  rw [h1]
  congr 1
  rw [show (2147483648 : Nat) = 2 ^ (31 - b) * 2 ^ b by rw [← Nat.pow_add, show 31 - b + b = 31 by omega]]
  exact Nat.mul_div_mul_right _ _ (Nat.two_pow_pos b)
set_option maxHeartbeats 800000 in
theorem trie_nextBit (ta : Nat) (tb : Nat) (xa : Nat) (xb : Int) (w : World) (hb : tb ≤ 31) :
    Calls Try.prog 82 #[netV ta (tb : Int), netV xa xb] w fun e w' => e = .returned (.int .u32 (Tr.bitAt xa tb : Int)) ∧ Below w.heap.size w w' := by
  have h1 := fun t => shl_bit t xa tb hb
  have h2 := shl_shr xa tb hb
  have h3 : ∀ t, binOp .shr t (.int .u32 ((xa * 2 ^ tb % 4294967296 : Nat) : Int)) (.int .u64 31) = pure (.int .u32 ((Tr.bitAt xa tb : Nat) : Int)) := by
    intro t
    rw [binOp_shr, shift_shr .u32 .u64 _ (31 : Int) (by omega) (by decide), ← h2]
    simp only [Int.natCast_ediv]
    rfl
  clear h2
  generalize xa * 2 ^ tb % 4294967296 = Y at *
  generalize Tr.bitAt xa tb = Z at *
  unfold netV
  go_enter Try.func82, Try.ntmps82
  go_wp2
  go_ret
  exact ⟨rfl, ((Below.refl _ _).alloc (Nat.le_refl _) _).alloc (by simp) _⟩

/-- What the closure sees: the top, the variable that bears the nodes, the nodes. -/
structure Sees (W : World) (N g5 g3 : Nat) (t : Tr.Nw) (a : Option Addr) (n c : Nat) (l : List Tr.Node) : Prop where
  top : NetIn W g5 t.1 t.2
  box : W.cell? ⟨g3, 0, none⟩ = some (.slice a n c)
  nodes : NodesAt W N a n l
  g5lt : g5 < N
  g3lt : g3 < N
  le : N ≤ W.heap.size
theorem Sees.below {W W' : World} {N g5 g3 : Nat} {t : Tr.Nw} {a : Option Addr} {n c : Nat} {l : List Tr.Node} (h : Sees W N g5 g3 t a n c l) (hb : Below N W W') : Sees W' N g5 g3 t a n c l :=
  ⟨(hb.block g5 h.g5lt).trans h.top, by rw [hb.cell (p := ⟨g3, 0, none⟩) h.g3lt]; exact h.box, h.nodes.below hb, h.g5lt, h.g3lt, Nat.le_trans h.le hb.size⟩

set_option maxRecDepth 20000 in
set_option maxHeartbeats 1600000 in
theorem trie_bit (k g5 g3 N : Nat) (t : Tr.Nw) (a : Option Addr) (n c : Nat) (l : List Tr.Node) (w : World) (hS : Sees w N g5 g3 t a n c l) (hk : k < n) (hn : n ≤ 3518437208883) (ht0 : 0 ≤ t.2) (ht : t.2 ≤ 31) :
    Calls Try.prog 81 #[.int .i64 (k : Int), .pointer (some ⟨g5, 0, none⟩), .pointer (some ⟨g3, 0, none⟩)] w fun e w' => (∃ r : Bool, e = .returned (.bool r) ∧ (r = true ↔ Tr.bitAt (l.getD k ⟨0, 0, ByteArray.empty, 0⟩).a t.2.toNat = 1)) ∧ Below w.heap.size w w' := by
  obtain ⟨hl, hN⟩ := hS.nodes
  obtain ⟨b, off, rfl, hbl, hcs⟩ := hN (by omega)
  obtain ⟨x0, x1, _, _⟩ := hcs k (by omega)
  have c0 := hS.box
  obtain ⟨t0, t1⟩ := two_cells hS.top.own
  have hle := hS.le
  have h5 := hS.g5lt
  have h3 := hS.g3lt
  have hget : l.getD k ⟨0, 0, ByteArray.empty, 0⟩ = l[k]'(by omega) := by rw [List.getD_eq_getElem?_getD, List.getElem?_eq_getElem (by omega)]; rfl
  rw [hget]
  clear hcs hget hS hN
  generalize l[k]'(by omega) = X at *
  obtain ⟨xa, xb, xo, xs⟩ := X
  obtain ⟨ta, tb⟩ := t
  obtain ⟨m, rfl⟩ : ∃ m : Nat, tb = (m : Int) := ⟨tb.toNat, by have : (0 : Int) ≤ tb := ht0; omega⟩
  have hm : m ≤ 31 := by have : (m : Int) ≤ 31 := ht; omega
  have HS : Hid (∀ W, Below w.heap.size w W → (W.cell? ⟨g5, 0, none⟩ = some (.int .u32 (ta : Int)) ∧ W.cell? ⟨g5, 1, none⟩ = some (.int .i64 (m : Int)) ∧ W.cell? ⟨g3, 0, none⟩ = some (.slice (some ⟨b, off, none⟩) n c) ∧ W.cell? ⟨b, off + k * 4, none⟩ = some (.int .u32 (xa : Int)) ∧ W.cell? ⟨b, off + k * 4 + 1, none⟩ = some (.int .i64 xb) ∧ Below w.heap.size w W)) := Lib.hid fun W hW => by
    refine ⟨?_, ?_, ?_, ?_, ?_, hW⟩
    · rw [hW.cell (p := ⟨g5, 0, none⟩) (by show g5 < w.heap.size; omega)]; exact t0
    · rw [hW.cell (p := ⟨g5, 1, none⟩) (by show g5 < w.heap.size; omega)]; exact t1
    · rw [hW.cell (p := ⟨g3, 0, none⟩) (by show g3 < w.heap.size; omega)]; exact c0
    · rw [hW.cell (p := ⟨b, off + k * 4, none⟩) (by show b < w.heap.size; omega)]; exact x0
    · rw [hW.cell (p := ⟨b, off + k * 4 + 1, none⟩) (by show b < w.heap.size; omega)]; exact x1
  have HC : Hid (∀ W, (W.cell? ⟨g5, 0, none⟩ = some (.int .u32 (ta : Int)) ∧ W.cell? ⟨g5, 1, none⟩ = some (.int .i64 (m : Int)) ∧ W.cell? ⟨g3, 0, none⟩ = some (.slice (some ⟨b, off, none⟩) n c) ∧ W.cell? ⟨b, off + k * 4, none⟩ = some (.int .u32 (xa : Int)) ∧ W.cell? ⟨b, off + k * 4 + 1, none⟩ = some (.int .i64 xb) ∧ Below w.heap.size w W) → Calls Try.prog 82 #[.agg #[.int .u32 (ta : Int), .int .i64 (m : Int)], .agg #[.int .u32 (xa : Int), .int .i64 xb]] W fun e W' => e = .returned (.int .u32 (Tr.bitAt xa m : Int)) ∧ (W'.cell? ⟨g5, 0, none⟩ = some (.int .u32 (ta : Int)) ∧ W'.cell? ⟨g5, 1, none⟩ = some (.int .i64 (m : Int)) ∧ W'.cell? ⟨g3, 0, none⟩ = some (.slice (some ⟨b, off, none⟩) n c) ∧ W'.cell? ⟨b, off + k * 4, none⟩ = some (.int .u32 (xa : Int)) ∧ W'.cell? ⟨b, off + k * 4 + 1, none⟩ = some (.int .i64 xb) ∧ Below w.heap.size w W')) := Lib.hid fun W hW => (trie_nextBit ta m xa xb W hm).mono fun e W' ⟨he, hb⟩ => ⟨he, HS.out W' (hW.2.2.2.2.2.trans (hb.mono hW.2.2.2.2.2.size))⟩
  have i1 : (k : Int) < (n : Int) := by omega
  have i0 : (0 : Int) ≤ (k : Int) := by omega
  rw [Int.toNat_natCast]
  generalize Tr.bitAt xa m = Z at *
  go_enter Try.func81, Try.ntmps81
  go_wp2_with fail
  go_region_held3 (fun W => W.cell? ⟨g5, 0, none⟩ = some (.int .u32 (ta : Int)) ∧ W.cell? ⟨g5, 1, none⟩ = some (.int .i64 (m : Int)) ∧ W.cell? ⟨g3, 0, none⟩ = some (.slice (some ⟨b, off, none⟩) n c) ∧ W.cell? ⟨b, off + k * 4, none⟩ = some (.int .u32 (xa : Int)) ∧ W.cell? ⟨b, off + k * 4 + 1, none⟩ = some (.int .i64 xb) ∧ Below w.heap.size w W) (first | assumption | (exact ⟨t0, t1, c0, x0, x1, (Below.refl _ _).drew⟩))
    (first
      | (go_at_call 82; refine (HC.out _ (by first | assumption | exact ⟨t0, t1, c0, x0, x1, (Below.refl _ _).drew⟩)).mono ?_; rintro e w2 ⟨rfl, hS2⟩))
  all_goals
    have hB2 := hS2.2.2.2.2.2
    go_wp2
    go_ret
    exact ⟨⟨_, rfl, by simp; omega⟩, hB2⟩
end Go.Proofs.Ytldfamdjdkaloaa
