/- The contracts of bytes.Clone, bytes.Equal and the program's packet.Decode. -/
import Derived.Test.YtfipnkledifilaaPackCode3
import Derived.Test.YtfipnkledifilaaKeepTurned
import Derived.Test.YtfipnkledifilaaSame2
import Derived.Deep.DeepCutAuto
import Derived.Deep.RegionHeld3
import Derived.Laws.ResultCell
import Derived.Laws.Rows
namespace Go.Proofs.Ytfipnkledifilaa
open Go.RowKit

set_option maxHeartbeats 400000 in
theorem bytes_Clone (a : Option Addr) (n c : Nat) (bs : List UInt8) (w : World) (h : BytesAt w w.heap.size a n bs) (hnil : a = none → n = 0 ∧ c = 0) (hn : n ≤ 140737488355328) :
    Calls Try.prog 58 #[.slice a n c] w (RowPost bs w) := by
  have Hb := Lib.hid h
  have Hn := Lib.hid hnil
  have hq := fun W => Lib.run_eql_slice_nil (P := Try.prog) W 55 5 a n c 0 0 Try.underlying55
  cases a with
  | none =>
    obtain ⟨rfl, rfl⟩ := hnil rfl
    obtain rfl : bs = [] := List.eq_nil_of_length_eq_zero h.1
    clear h hnil
    go_enter Try.func58, Try.ntmps58
    go_wp2
    go_ret
    exact ⟨_, _, _, rfl, World.ownsRow_nil _ _ _ _, Below.refl _ _⟩
  | some ad =>
    clear h hnil
    go_enter Try.func58, Try.ntmps58
    go_wp2_with (at_builtin; refine wpL_append8 _ rfl _ _ rfl w.heap.size _ 0 _ [] rfl ?c0 _ n _ (bcells bs) rfl ?c1 ?c2 ?c3 (bcells_one _) ?c4 ?c6 ?_)
    case c0 => exact own_block (heap_alloc_last w _) (Nat.le_refl _) rfl (by decide)
    case c1 => rw [bcells_length]; exact Hb.out.1
    case c2 => exact Hn.out
    case c3 => exact (Hb.out.below ((Below.refl _ _).alloc (Nat.le_refl _) _)).news
    case c4 => omega
    case c6 => simp
    intro a1 c1 w1 ho1 hg1
    have hb1 : Below w.heap.size w w1 := below_own ((Below.refl _ _).alloc (Nat.le_refl _) _) (own_block (heap_alloc_last w _) (Nat.le_refl w.heap.size) rfl (by decide)) hg1 (Nat.le_refl _) (by simp)
    clear hg1
    go_wp2
    go_ret
    refine ⟨_, _, _, rfl, ?_, hb1⟩
    rw [Hb.out.1]
    simpa using ho1

set_option maxHeartbeats 400000 in
theorem bytes_Equal (a b : Option Addr) (n m c c' B B' : Nat) (xs ys : List UInt8) (w : World) (h : BytesAt w B a n xs) (h' : BytesAt w B' b m ys) :
    Calls Try.prog 59 #[.slice a n c, .slice b m c'] w fun e w' => e = .returned (.bool (decide (xs = ys))) ∧ w = w' := by
  have h1 := conv_bytes (P := Try.prog) h 55 5 9 c Try.underlying55 Try.underlying5 Try.underlying9
  have h2 := conv_bytes (P := Try.prog) h' 55 5 9 c' Try.underlying55 Try.underlying5 Try.underlying9
  have Hq := Lib.hid (strOf_beq xs ys)
  go_enter Try.func59, Try.ntmps59
  go_wp2
  go_ret
  exact ⟨by rw [← Hq.out]; rfl, rfl⟩

/-- A block of three cells of a packet, known whole, as a row. -/
theorem own_pack {w : World} {base g : Nat} {x y z : Value} (hg : w.heap[g]? = some (.cells #[x, y, z] 57 (0, 0))) (hb : base ≤ g) :
    w.ownsRow base 57 1 (.slice (some ⟨g, 0, none⟩) 3 3) 3 [x, y, z] :=
  ⟨rfl, .inr ⟨g, 3, #[x, y, z], rfl, hb, hg, Nat.le_refl _, by decide, rfl, rfl⟩⟩
theorem pack_row_cells {w : World} {base g : Nat} {x y z : Value} (h : w.ownsRow base 57 1 (.slice (some ⟨g, 0, none⟩) 3 3) 3 [x, y, z]) :
    w.cell? ⟨g, 0, none⟩ = some x ∧ w.cell? ⟨g, 1, none⟩ = some y ∧ w.cell? ⟨g, 2, none⟩ = some z := ⟨own_cell h rfl, own_cell h rfl, own_cell h rfl⟩
theorem pack_set {w : World} {base g : Nat} {x y z : Value} (h : w.ownsRow base 57 1 (.slice (some ⟨g, 0, none⟩) 3 3) 3 [x, y, z]) (x' y' z' : Value) :
    (((w.setCell ⟨g, 0, none⟩ x').setCell ⟨g, 1, none⟩ y').setCell ⟨g, 2, none⟩ z').ownsRow base 57 1 (.slice (some ⟨g, 0, none⟩) 3 3) 3 [x', y', z'] :=
  ((((h.stored 0 x').1).stored 1 y').1.stored 2 z').1
theorem pack_block {w : World} {base g : Nat} {x y z : Value} (h : w.ownsRow base 57 1 (.slice (some ⟨g, 0, none⟩) 3 3) 3 [x, y, z]) : w.heap[g]? = some (.cells #[x, y, z] 57 (0, 0)) := by
  rcases h.2 with ⟨hv, _⟩ | ⟨g', cap, cur, hv, _, hg, _, _, hs, ht⟩
  · cases hv
  · injection hv with h1 _ h3
    have h1' : g = g' := by injection h1 with h1; injection h1
    subst h1'; subst h3
    rw [List.take_of_length_le (by simp; omega)] at ht
    rw [hg]
    congr 2
    apply Array.ext'
    rw [ht]
theorem pack_below {w w' : World} {base g : Nat} {xs : List Value} (h : w.ownsRow base 57 1 (.slice (some ⟨g, 0, none⟩) 3 3) 3 xs) (hb : Below w.heap.size w w') : w'.ownsRow base 57 1 (.slice (some ⟨g, 0, none⟩) 3 3) 3 xs :=
  h.kept (row := none) ⟨hb.os, hb.tape, hb.output, hb.size, fun j hj _ => hb.block j hj⟩ (.inr (by simp [Value.ownBlock]))
theorem size_pack : (Try.prog.info? 57).map (·.size) = some 3 := by kernel_rfl
/-- A packet and an error, out of the result's own cells. -/
theorem pack_ret {fn : Func} {w : World} {base g : Nat} {x y z : Value} {p u : Nat} {e : Int} {tmps : Array Value} (h : fn.results = #[.cell p 57, .tmp u]) (hp : tmps.getD p undef = .pointer (some ⟨g, 0, none⟩)) (hu : tmps.getD u undef = .int .i64 e)
    (R : w.ownsRow base 57 1 (.slice (some ⟨g, 0, none⟩) 3 3) 3 [x, y, z]) : (results fn tmps).run Try.prog w = .ok (.tuple #[.agg #[x, y, z], .int .i64 e]) w := by
  have hl := run_loadVar_row (P := Try.prog) w g 57 57 #[x, y, z] (0, 0) _ (pack_block R) Try.underlying57 rfl size_pack
  rw [results_cell_tmp h, hp, hu]
  simp [asAddr, hl]
theorem pack_ret1 {fn : Func} {w : World} {base g : Nat} {x y z : Value} {p : Nat} {tmps : Array Value} (h : fn.results = #[.cell p 57]) (hp : tmps.getD p undef = .pointer (some ⟨g, 0, none⟩))
    (R : w.ownsRow base 57 1 (.slice (some ⟨g, 0, none⟩) 3 3) 3 [x, y, z]) : (results fn tmps).run Try.prog w = .ok (.agg #[x, y, z]) w := by
  have hl := run_loadVar_row (P := Try.prog) w g 57 57 #[x, y, z] (0, 0) _ (pack_block R) Try.underlying57 rfl size_pack
  have hp' : tmps[p]?.getD undef = .pointer (some ⟨g, 0, none⟩) := by simpa using hp
  simp only [results, h]
  simp [hp', asAddr, hl]
theorem ret_pack_err {x y : Value} {a b : Int} (h : x = y) (g : a = b) : Ending.returned (.tuple #[x, .int .i64 a]) = .returned (.tuple #[y, .int .i64 b]) := by rw [h, g]
end Go.Proofs.Ytfipnkledifilaa
