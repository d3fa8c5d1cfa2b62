/- A setting's block: loaded whole, written whole. -/
import Derived.Test.YthlagpmacnijfaaDoorBatchMem
import Derived.Test.YthlagpmacnijfaaDoorStructStore
import Derived.Test.YthlagpmacnijfaaDoorLineBlk
namespace Go.Proofs.YthlagpmacnijfaaDoor
open Go.RowKit

theorem load_set {w : World} {g : Nat} {xs : List Value} (R : Blk w g 26 xs) (h : xs.length = 5) : (loadVar 26 ⟨g, 0, none⟩).run Tryd.prog w = .ok (.agg xs.toArray) w :=
  run_loadVar_row (P := Tryd.prog) w g 26 26 xs.toArray (0, 0) _ R Tryd.underlying26 rfl (by rw [show (Tryd.prog.info? 26).map (·.size) = some 5 by kernel_rfl]; simp [h])
def zeroC : List Value := [.int .i64 0, .string ⟨#[]⟩, .int .i64 0, .int .u32 0, .int .i64 0]
theorem size_set : (Tryd.prog.info? 26).map (·.size) = some 5 := by kernel_rfl
theorem size_line : (Tryd.prog.info? 30).map (·.size) = some 2 := by kernel_rfl
/-- What a function hands back of a setting. -/
theorem ret_setting {fn : Func} {w : World} {g : Nat} {s : Bt.S} {p : Nat} {tmps : Array Value} (R : Blk w g 26 (Bt.setC s)) (h : fn.results = #[.cell p 26]) (hp : tmps.getD p undef = .pointer (some ⟨g, 0, none⟩)) :
    (results fn tmps).run Tryd.prog w = .ok (setV s) w := ret_cell1 (load_set R rfl) h hp
theorem ret_setting_errno {fn : Func} {w : World} {g : Nat} {s : Bt.S} {p u : Nat} {v : Value} {tmps : Array Value} (R : Blk w g 26 (Bt.setC s)) (h : fn.results = #[.cell p 26, .tmp u]) (hp : tmps.getD p undef = .pointer (some ⟨g, 0, none⟩))
    (hv : tmps.getD u undef = v) : (results fn tmps).run Tryd.prog w = .ok (.tuple #[setV s, v]) w := ret_cell (load_set R rfl) h hp hv
theorem ret_line_errno {fn : Func} {w : World} {g : Nat} {x : Ln.L} {p u : Nat} {v : Value} {tmps : Array Value} (R : Blk w g 30 (Ln.lineC x)) (h : fn.results = #[.cell p 30, .tmp u]) (hp : tmps.getD p undef = .pointer (some ⟨g, 0, none⟩))
    (hv : tmps.getD u undef = v) : (results fn tmps).run Tryd.prog w = .ok (.tuple #[lineV x, v]) w := ret_cell (load_line R rfl) h hp hv
end Go.Proofs.YthlagpmacnijfaaDoor
