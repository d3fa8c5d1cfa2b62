/- Lists of words in memory: arrays that fill a block, slices; loads and stores of whole arrays. -/
import Derived.Test.YthknkfiofdfogaaDoorU32
namespace Go.Proofs.YthknkfiofdfogaaDoor
open Go.RowKit

/-- The cells of a list of words. -/
def wcells (ws : List (BitVec 32)) : List Value := ws.map U
theorem wcells_length (ws : List (BitVec 32)) : (wcells ws).length = ws.length := by simp [wcells]
theorem wcells_append (a b : List (BitVec 32)) : wcells (a ++ b) = wcells a ++ wcells b := by simp [wcells]
theorem wcells_set (a : List (BitVec 32)) (i : Nat) (x : BitVec 32) : (wcells a).set i (U x) = wcells (a.set i x) := by simp [wcells, List.map_set]
theorem wcells_get (ws : List (BitVec 32)) (i : Nat) (h : i < ws.length) : (wcells ws)[i]? = some (U ws[i]) := by simp [wcells, h]
theorem wcells_getD (ws : List (BitVec 32)) (i : Nat) (h : i < ws.length) : (wcells ws)[i]? = some (U (ws.getD i 0)) := by
  rw [wcells_get ws i h, List.getD_eq_getElem?_getD, List.getElem?_eq_getElem h]; rfl
theorem wcells_one (ws : List (BitVec 32)) : ∀ v ∈ wcells ws, v.oneCell' = true := by
  intro v hv; simp only [wcells, List.mem_map] at hv; obtain ⟨c, _, rfl⟩ := hv; rfl
theorem wcells_all (ws : List (BitVec 32)) : (wcells ws).toArray.all (·.oneCell') = true := by
  rw [Array.all_eq_true_iff_forall_mem]; intro v hv; exact wcells_one ws v (by simpa using hv)

/-- Block g is an array of type t that holds these words. -/
def ArrAt (w : World) (g : Nat) (t : TypeId) (ws : List (BitVec 32)) : Prop := w.heap[g]? = some (.cells (wcells ws).toArray t (0, 0))
theorem ArrAt.lt {w : World} {g : Nat} {t : TypeId} {ws : List (BitVec 32)} (h : ArrAt w g t ws) : g < w.heap.size := (Array.getElem?_eq_some_iff.1 h).1
theorem ArrAt.cell {w : World} {g : Nat} {t : TypeId} {ws : List (BitVec 32)} (h : ArrAt w g t ws) (i : Nat) (hi : i < ws.length) : w.cell? ⟨g, i, none⟩ = some (U (ws.getD i 0)) := by
  rw [cell_of_row w g i _ t _ h]
  simpa using wcells_getD ws i hi
theorem ArrAt.frozen {w : World} {g : Nat} {t : TypeId} {ws : List (BitVec 32)} (h : ArrAt w g t ws) (i : Nat) : w.frozen? ⟨g, i, none⟩ = false := by
  have h' : w.heap[g]? = some (.cells (wcells ws).toArray t (0, 0)) := h
  simp [World.frozen?, h']
theorem ArrAt.below {w w' : World} {B g : Nat} {t : TypeId} {ws : List (BitVec 32)} (h : ArrAt w g t ws) (hb : Below B w w') (hg : g < B) : ArrAt w' g t ws := (hb.block g hg).trans h
theorem ArrAt.grown {w w' : World} {g : Nat} {row : Option Nat} {t : TypeId} {ws : List (BitVec 32)} (h : ArrAt w g t ws) (hb : w.grownBy w' row) (hg : some g ≠ row) : ArrAt w' g t ws := (hb.block g h.lt hg).trans h
theorem ArrAt.alloc {w : World} {g : Nat} {t : TypeId} {ws : List (BitVec 32)} (h : ArrAt w g t ws) (o : Obj) : ArrAt (w.alloc o) g t ws := (Below.heap_alloc w o g h.lt).trans h
theorem ArrAt.drewN {w : World} {g : Nat} {t : TypeId} {ws : List (BitVec 32)} (h : ArrAt w g t ws) (n : Nat) : ArrAt (w.drewN n) g t ws := h
theorem ArrAt.drew {w : World} {g : Nat} {t : TypeId} {ws : List (BitVec 32)} (h : ArrAt w g t ws) : ArrAt w.drew g t ws := h
theorem ArrAt.set {w : World} {g : Nat} {t : TypeId} {ws : List (BitVec 32)} (h : ArrAt w g t ws) (i : Nat) (x : BitVec 32) : ArrAt (w.setCell ⟨g, i, none⟩ (U x)) g t (ws.set i x) := by
  rw [setCell_eq_setRow w g i _ t _ (U x) h]
  have := setRow_heap w g _ ((wcells ws).toArray.setIfInBounds i (U x)) t _ h
  unfold ArrAt
  rw [this, ← wcells_set]
  simp
theorem ArrAt.setOther {w : World} {g g' i : Nat} {t : TypeId} {ws : List (BitVec 32)} (h : ArrAt w g t ws) (hne : g ≠ g') (v : Value) : ArrAt (w.setCell ⟨g', i, none⟩ v) g t ws := by
  unfold ArrAt
  rw [Below.heap_setCell w _ _ g (by simpa using hne)]
  exact h
theorem ArrAt.new (w : World) (t : TypeId) (ws : List (BitVec 32)) (cs : Array Value) (h : cs = (wcells ws).toArray) : ArrAt (w.alloc (.cells cs t)) w.heap.size t ws := by
  subst h; exact heap_alloc_last w _
theorem ArrAt.load {w : World} {g n : Nat} {t e : TypeId} {ws : List (BitVec 32)} (h : ArrAt w g t ws) (hu : Tryd.prog.underlying t = some (.array n e)) (hi : (Tryd.prog.info? t).map (·.size) = some n) (hl : ws.length = n) :
    (loadVar t ⟨g, 0, none⟩).run Tryd.prog w = .ok (.agg (wcells ws).toArray) w :=
  run_loadVar_row w g t t _ _ _ h hu rfl (by simpa [wcells_length, hl] using hi)
theorem grown_setRow (w : World) (g : Nat) (cs : Array Value) : w.grownBy (w.setRow g cs) (some g) :=
  ⟨rfl, rfl, rfl, by simp [World.setRow], fun k _ hne => setRow_other w g k cs (fun e => hne (by rw [e]))⟩

section
variable {w : World} {ops : Array Oper} {rest : List Oper} {o : Oper} {a : Act} {Q : Exit → Act → World → Prop}
/-- A whole array into its block. -/
theorem wpL_store_arr (hgd : o.guard = none) (t : TypeId) (x y : Operand) (ho : o.op = .store t x y) (g n : Nat) (cells : Array Value) (hx : a.eval x = .pointer (some ⟨g, 0, none⟩)) (hy : a.eval y = .agg cells)
    (ws ws' : List (BitVec 32)) (hg : ArrAt w g t ws) (hi : (Tryd.prog.info? t).map (·.size) = some n) (hl : ws.length = n) (hc : cells = (wcells ws').toArray) (hl' : ws'.length = n)
    (h : ∀ w', ArrAt w' g t ws' → w.grownBy w' (some g) → w'.heap.size = w.heap.size → wpList Tryd.prog ops Q rest (a.put o.dst undef) w') : wpList Tryd.prog ops Q (o :: rest) a w := by
  subst hc
  refine wpList_store_row hgd t x y ho g _ hx hy t _ hg (by simpa [wcells_length, hl'] using hi) (by simp [wcells_length, hl, hl']) (wcells_all ws') (h _ (setRow_heap w g _ _ t _ hg) (grown_setRow w g _) (by simp))
/-- A whole array out of its block. -/
theorem wpL_load_arr (hgd : o.guard = none) (t e : TypeId) (x : Operand) (ho : o.op = .load t x) (g n : Nat) (hx : a.eval x = .pointer (some ⟨g, 0, none⟩))
    (ws : List (BitVec 32)) (hg : ArrAt w g t ws) (hu : Tryd.prog.underlying t = some (.array n e)) (hi : (Tryd.prog.info? t).map (·.size) = some n) (hl : ws.length = n)
    (h : wpList Tryd.prog ops Q rest (a.put o.dst (.agg (wcells ws).toArray)) w) : wpList Tryd.prog ops Q (o :: rest) a w := by
  refine wpList_plain hgd fun K hK => ?_
  unfold Oper.wp execOp
  simp only [ho, hx, Instr.loadAt, Instr.sureAddr, Sem.run_bind, Sem.run_pure, Result.andThen_ok, hg.load hu hi hl]
  exact hK _ _ h
theorem wpL_load_run (hgd : o.guard = none) (t : TypeId) (x : Operand) (ho : o.op = .load t x) (ad : Addr) (v : Value) (hx : a.eval x = .pointer (some ad)) (hr : (loadVar t ad).run Tryd.prog w = .ok v w)
    (h : wpList Tryd.prog ops Q rest (a.put o.dst v) w) : wpList Tryd.prog ops Q (o :: rest) a w := by
  refine wpList_plain hgd fun K hK => ?_
  unfold Oper.wp execOp
  simp only [ho, hx, Instr.loadAt, Instr.sureAddr, Sem.run_bind, Sem.run_pure, Result.andThen_ok, hr]
  exact hK _ _ h
end
theorem load_cells {w : World} {g n : Nat} {t e : TypeId} {ws : List (BitVec 32)} (h : ∀ i, i < n → w.cell? ⟨g, i, none⟩ = some (U (ws.getD i 0))) (hu : Tryd.prog.underlying t = some (.array n e)) (hi : (Tryd.prog.info? t).map (·.size) = some n) (hl : ws.length = n) :
    (loadVar t ⟨g, 0, none⟩).run Tryd.prog w = .ok (.agg (wcells ws).toArray) w := by
  have hL : (loadCells ⟨g, 0, none⟩ (wcells ws).length).run Tryd.prog w = .ok (wcells ws).toArray w :=
    run_loadCells_list (P := Tryd.prog) w ⟨g, 0, none⟩ (wcells ws) (fun j v hv => by
      have hj : j < ws.length := by have := (List.getElem?_eq_some_iff.1 hv).1; rwa [wcells_length] at this
      rw [wcells_getD ws j hj] at hv
      rw [Addr.add_lit, Nat.zero_add, h j (by omega)]
      exact hv)
  rw [wcells_length, hl] at hL
  cases hq : Tryd.prog.info? t with
  | none => simp [hq] at hi
  | some i =>
    have hs : i.size = n := by simpa [hq] using hi
    have hagg : (isAgg t).run Tryd.prog w = .ok true w := by simp [isAgg, run_underlying hu]
    simp only [loadVar, Sem.run_bind, hagg, Result.andThen_ok, if_true]
    simp [sizeOf, typeInfo, hq, hs, hL]
/-- What a function hands back out of a cell. -/
theorem results_cell {P : Program} {fn : Func} {tmps : Array Value} {w : World} {s t : Nat} {ad : Addr} {v : Value} (hf : fn.results = #[.cell s t]) (ha : tmps.getD s undef = .pointer (some ad)) (hl : (loadVar t ad).run P w = .ok v w) :
    (results fn tmps).run P w = .ok v w := by
  unfold results
  rw [hf]
  rw [Array.getD_eq_getD_getElem?] at ha
  simp [ha, asAddr, hl]
theorem size_words : (Tryd.prog.info? 80).map (·.size) = some 8 := by kernel_rfl
end Go.Proofs.YthknkfiofdfogaaDoor
