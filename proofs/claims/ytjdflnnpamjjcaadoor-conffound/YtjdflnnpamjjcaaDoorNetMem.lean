/- Networks in memory: values, blocks, cells, results; words of 32 bits. -/
import Derived.Test.YtjdflnnpamjjcaaDoorRows
import Derived.Test.YtjdflnnpamjjcaaDoorMem
import Derived.Test.YtjdflnnpamjjcaaDoorNetPlain
import Derived.Deep.WholeRow
import Derived.BigRegion
import Derived.Laws.ResultCell
import Derived.Laws.Rows
import Derived.IntWalk
namespace Go.Proofs.YtjdflnnpamjjcaaDoor
open Go.RowKit

def netV (a : Nat) (b : Int) : Value := .agg #[.int .u32 (a : Int), .int .i64 b]
theorem u32_shr (t : TypeId) (a i : Nat) (hi : i ≤ 32) : binOp .shr t (.int .u32 (a : Int)) (.int .i64 (i : Int)) = pure (.int .u32 ((a / 2 ^ i : Nat) : Int)) := by
  rw [binOp_shr, shift_shr .u32 .i64 _ (i : Int) (by omega) (by show (i : Int) ≤ 32; omega)]
  simp only [Int.toNat_natCast, Int.natCast_ediv, Int.natCast_pow]
  rfl
theorem ofInt_w32 (a : Nat) (ha : a < 4294967296) : (BitVec.ofInt 32 (a : Int)).toNat = a := by
  rw [BitVec.toNat_ofInt]; omega
theorem u32_and_one (a : Nat) (ha : a < 4294967296) : bits .and .u32 (a : Int) 1 = ((a % 2 : Nat) : Int) := by
  show IntKind.u32.wrap ((BitVec.ofInt 32 (a : Int) &&& BitVec.ofInt 32 (1 : Int)).toNat : Int) = _
  rw [BitVec.toNat_and, ofInt_w32 a ha, show (BitVec.ofInt 32 (1 : Int)).toNat = 1 from rfl, Nat.and_one_is_mod, IntKind.wrap_u32]
  omega
theorem bit_shl (x i : Nat) (hx : x < 2) (hi : i < 32) : IntKind.u32.wrap ((x : Int) * 2 ^ i) = ((x * 2 ^ i : Nat) : Int) := by
  have h : (2 : Nat) ^ i < 2 ^ 32 := Nat.pow_lt_pow_right (by decide) hi
  have e : (x : Int) * 2 ^ i = ((x * 2 ^ i : Nat) : Int) := by rw [Int.natCast_mul, Int.natCast_pow]; rfl
  have h2 : x * 2 ^ i < 4294967296 := by
    have : x = 0 ∨ x = 1 := by omega
    rcases this with rfl | rfl
    · simp
    · omega
  rw [e, IntKind.wrap_u32]
  generalize x * 2 ^ i = y at h2 ⊢
  omega
/-- A block of two cells, known whole, as a row. -/
theorem own_two {w : World} {base g : Nat} {x y : Value} (hg : w.heap[g]? = some (.cells #[x, y] 44 (0, 0))) (hb : base ≤ g) :
    w.ownsRow base 44 1 (.slice (some ⟨g, 0, none⟩) 2 2) 2 [x, y] :=
  ⟨rfl, .inr ⟨g, 2, #[x, y], rfl, hb, hg, Nat.le_refl _, by decide, rfl, rfl⟩⟩
theorem two_cells {w : World} {base g : Nat} {x y : Value} (h : w.ownsRow base 44 1 (.slice (some ⟨g, 0, none⟩) 2 2) 2 [x, y]) :
    w.cell? ⟨g, 0, none⟩ = some x ∧ w.cell? ⟨g, 1, none⟩ = some y := ⟨own_cell h rfl, own_cell h rfl⟩
theorem two_set {w : World} {base g : Nat} {x y : Value} (h : w.ownsRow base 44 1 (.slice (some ⟨g, 0, none⟩) 2 2) 2 [x, y]) (x' y' : Value) :
    ((w.setCell ⟨g, 0, none⟩ x').setCell ⟨g, 1, none⟩ y').ownsRow base 44 1 (.slice (some ⟨g, 0, none⟩) 2 2) 2 [x', y'] :=
  (((h.stored 0 x').1).stored 1 y').1
theorem two_block {w : World} {base g : Nat} {x y : Value} (h : w.ownsRow base 44 1 (.slice (some ⟨g, 0, none⟩) 2 2) 2 [x, y]) : w.heap[g]? = some (.cells #[x, y] 44 (0, 0)) := by
  rcases h.2 with ⟨hv, _⟩ | ⟨g', cap, cur, hv, _, hg, _, _, hs, ht⟩
  · cases hv
  · injection hv with h1 _ h3
    have h1' : g = g' := by injection h1 with h1; injection h1
    subst h1'; subst h3
    rw [List.take_of_length_le (by simp; omega)] at ht
    rw [hg]
    congr 2
    apply Array.ext'
    rw [ht]
theorem own_below2 {w w' : World} {base g : Nat} {xs : List Value} (h : w.ownsRow base 44 1 (.slice (some ⟨g, 0, none⟩) 2 2) 2 xs) (hb : Below w.heap.size w w') : w'.ownsRow base 44 1 (.slice (some ⟨g, 0, none⟩) 2 2) 2 xs :=
  h.kept (row := none) ⟨hb.os, hb.tape, hb.output, hb.size, fun j hj _ => hb.block j hj⟩ (.inr (by simp [Value.ownBlock]))
theorem size_net : (Tryd.prog.info? 44).map (·.size) = some 2 := by kernel_rfl
/-- A network and an error, out of the result's own cells. -/
theorem net_ret {fn : Func} {w : World} {base g : Nat} {x y : Value} {p u : Nat} {e : Int} {tmps : Array Value} (h : fn.results = #[.cell p 44, .tmp u]) (hp : tmps.getD p undef = .pointer (some ⟨g, 0, none⟩)) (hu : tmps.getD u undef = .int .i64 e)
    (R : w.ownsRow base 44 1 (.slice (some ⟨g, 0, none⟩) 2 2) 2 [x, y]) : (results fn tmps).run Tryd.prog w = .ok (.tuple #[.agg #[x, y], .int .i64 e]) w := by
  have hl := run_loadVar_row (P := Tryd.prog) w g 44 44 #[x, y] (0, 0) _ (two_block R) Tryd.underlying44 rfl size_net
  rw [results_cell_tmp h, hp, hu]
  simp [asAddr, hl]
theorem u32_in (v : Nat) (h : v < 4294967296) : IntKind.u32.wrap (v : Int) = (v : Int) := by rw [IntKind.wrap_u32]; omega
theorem ret_net_err {x y : Value} {a b : Int} (h : x = y) (g : a = b) : Ending.returned (.tuple #[x, .int .i64 a]) = .returned (.tuple #[y, .int .i64 b]) := by rw [h, g]

/-- A network in a block that a call has made, and its cells behind later calls. -/
theorem net_cells {w w' : World} {g : Nat} {x y : Value} (hg : w.heap[g]? = some (.cells #[x, y] 44 (0, 0))) (hb : Below w.heap.size w w') :
    w'.cell? ⟨g, 0, none⟩ = some x ∧ w'.cell? ⟨g, 1, none⟩ = some y := two_cells (own_below2 (own_two (base := 0) hg (Nat.zero_le _)) hb)

/-- Two networks in two blocks that a call has just made. -/
theorem two_nets (w : World) (x y z u : Value) :
    Below w.heap.size w ((w.alloc (.cells #[x, y] 44)).alloc (.cells #[z, u] 44)) ∧ ((w.alloc (.cells #[x, y] 44)).alloc (.cells #[z, u] 44)).heap.size = w.heap.size + 2 ∧
    ((w.alloc (.cells #[x, y] 44)).alloc (.cells #[z, u] 44)).heap[w.heap.size]? = some (.cells #[x, y] 44 (0, 0)) ∧
    ((w.alloc (.cells #[x, y] 44)).alloc (.cells #[z, u] 44)).heap[w.heap.size + 1]? = some (.cells #[z, u] 44 (0, 0)) := by
  refine ⟨((Below.refl _ _).alloc (Nat.le_refl _) _).alloc (by simp) _, by simp, ?_, ?_⟩
  · rw [Below.heap_alloc _ _ _ (by simp)]; exact heap_alloc_last w _
  · have := heap_alloc_last (w.alloc (.cells #[x, y] 44)) (.cells #[z, u] 44)
    rw [show (w.alloc (.cells #[x, y] 44)).heap.size = w.heap.size + 1 by simp] at this
    exact this
/-- Three networks in three blocks that a call has just made. -/
theorem three_nets (w : World) (x y z u : Value) :
    Below w.heap.size w (((w.alloc (.cells #[x, y] 44)).alloc (.cells #[z, u] 44)).alloc (.cells #[.int .u32 0, .int .i64 0] 44)) ∧ (((w.alloc (.cells #[x, y] 44)).alloc (.cells #[z, u] 44)).alloc (.cells #[.int .u32 0, .int .i64 0] 44)).heap.size = w.heap.size + 3 ∧
    (((w.alloc (.cells #[x, y] 44)).alloc (.cells #[z, u] 44)).alloc (.cells #[.int .u32 0, .int .i64 0] 44)).heap[w.heap.size]? = some (.cells #[x, y] 44 (0, 0)) ∧
    (((w.alloc (.cells #[x, y] 44)).alloc (.cells #[z, u] 44)).alloc (.cells #[.int .u32 0, .int .i64 0] 44)).heap[w.heap.size + 1]? = some (.cells #[z, u] 44 (0, 0)) ∧
    (((w.alloc (.cells #[x, y] 44)).alloc (.cells #[z, u] 44)).alloc (.cells #[.int .u32 0, .int .i64 0] 44)).heap[w.heap.size + 1 + 1]? = some (.cells #[.int .u32 0, .int .i64 0] 44 (0, 0)) := by
  obtain ⟨h1, h2, h3, h4⟩ := two_nets w x y z u
  generalize (w.alloc (.cells #[x, y] 44)).alloc (.cells #[z, u] 44) = W at *
  refine ⟨h1.alloc (by omega) _, by simp [h2], ?_, ?_, ?_⟩
  · rw [Below.heap_alloc _ _ _ (by omega)]; exact h3
  · rw [Below.heap_alloc _ _ _ (by omega)]; exact h4
  · rw [show w.heap.size + 1 + 1 = W.heap.size by omega]; exact heap_alloc_last W _

end Go.Proofs.YtjdflnnpamjjcaaDoor
