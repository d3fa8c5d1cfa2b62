/- A whole struct stored into its block: a law at the operation. -/
import Derived.Test.YthlagpmacnijfaaDoorStructMem
import Derived.Laws.Tables
namespace Go.Proofs.YthlagpmacnijfaaDoor
open Go.RowKit

theorem grown_set_row (w : World) (g : Nat) (cs : Array Value) : w.grownBy (w.setRow g cs) (some g) :=
  ⟨rfl, rfl, rfl, by simp [World.setRow], fun k _ hne => setRow_other w g k cs (fun e => hne (by rw [e]))⟩

/-- A whole struct into its block. -/
theorem wpL_storeBlk {w : World} {ops : Array Oper} {rest : List Oper} {o : Oper} {a : Act} {Q : Exit → Act → World → Prop} (hgd : o.guard = none) (t : TypeId) (x y : Operand) (ho : o.op = .store t x y) (g : Nat) (xs ys : List Value)
    (hx : a.eval x = .pointer (some ⟨g, 0, none⟩)) (hy : a.eval y = .agg ys.toArray) (hg : Blk w g t xs) (hi : (Tryd.prog.info? t).map (·.size) = some xs.length) (hl : ys.length = xs.length) (h1 : ys.all (·.oneCell') = true)
    (h : ∀ w', Blk w' g t ys → w.grownBy w' (some g) → w'.heap.size = w.heap.size → wpList Tryd.prog ops Q rest (a.put o.dst undef) w') : wpList Tryd.prog ops Q (o :: rest) a w := by
  refine wpList_store_row hgd t x y ho g ys.toArray hx hy t xs.toArray hg (by simpa [hl] using hi) (by simp [hl]) (by simpa using h1) (h _ (setRow_heap w g _ _ t _ hg) (grown_set_row w g _) (by simp))
theorem Blk.beside {w w' : World} {g k : Nat} {t : TypeId} {xs : List Value} (h : Blk w k t xs) (hg : w.grownBy w' (some g)) (hne : k ≠ g) : Blk w' k t xs :=
  (hg.block k h.lt (fun e => hne (by injection e))).trans h
/-- Bytes of the call's own beside another block that is written. -/
theorem own_beside_row {w w' : World} {base n c m g : Nat} {a : Option Addr} {xs : List Value} {t : TypeId} (ho : w.ownsRow base t 1 (.slice a n c) m xs) (hg : w.grownBy w' (some g)) (hk : g < base) : w'.ownsRow base t 1 (.slice a n c) m xs :=
  ho.kept hg (by
    cases hb : (Value.slice a n c).ownBlock with
    | none => exact .inl rfl
    | some j => exact .inr (fun e => by injection e with e; have := (ho.lt j hb).1; omega))
theorem below_row {w w' w0 : World} {B g : Nat} (h : Below B w0 w) (hg : w.grownBy w' (some g)) (hB : B ≤ w.heap.size) (hk : B ≤ g) : Below B w0 w' := h.grown hg hB (fun k e => by injection e with e; omega)
end Go.Proofs.YthlagpmacnijfaaDoor
