/- Rows of lines in a block: the first ones written, the rest empty. -/
import Derived.Test.YtldfamdjdkaloabDoorLineMem
import Derived.Test.YtldfamdjdkaloabDoorStructMem
import Derived.Laws.MakeOwn
import Derived.Laws.OwnMore
namespace Go.Proofs.YtldfamdjdkaloabDoor
open Go.RowKit

/-- The cells of n lines, the first ones written. -/
def lcells (done : List Ln.L) (n : Nat) : List Value := Ln.linesC done ++ List.replicate ((n - done.length) * 2) (.string ⟨#[]⟩)
theorem lcells_length (done : List Ln.L) (n : Nat) (h : done.length ≤ n) : (lcells done n).length = n * 2 := by unfold lcells; rw [List.length_append, Ln.linesC_length, List.length_replicate]; omega
theorem lcells_old (done : List Ln.L) (n : Nat) (h : done.length < n) : (lcells done n)[done.length * 2]? = some (.string ⟨#[]⟩) ∧ (lcells done n)[done.length * 2 + 1]? = some (.string ⟨#[]⟩) := by
  unfold lcells
  rw [List.getElem?_append_right (by rw [Ln.linesC_length]; exact Nat.le_refl _), List.getElem?_append_right (by rw [Ln.linesC_length]; omega), Ln.linesC_length, List.getElem?_replicate, List.getElem?_replicate, if_pos (by omega), if_pos (by omega)]
  exact ⟨rfl, rfl⟩
theorem lcells_set (done : List Ln.L) (n : Nat) (h : done.length < n) (x : Ln.L) : ((lcells done n).set (done.length * 2) (.string x.k)).set (done.length * 2 + 1) (.string x.v) = lcells (done ++ [x]) n := by
  unfold lcells
  rw [List.set_append_right (h := by rw [Ln.linesC_length]; exact Nat.le_refl _), List.set_append_right (h := by rw [Ln.linesC_length]; omega), Ln.linesC_length, Nat.sub_self, show done.length * 2 + 1 - done.length * 2 = 1 by omega, Ln.linesC_append, List.append_assoc]
  congr 1
  obtain ⟨m, hm⟩ : ∃ m, n - done.length = m + 1 := ⟨n - done.length - 1, by omega⟩
  rw [hm, show (m + 1) * 2 = m * 2 + 1 + 1 by omega, List.replicate_succ, List.replicate_succ, List.set_cons_zero, List.set_cons_succ, List.set_cons_zero, List.length_append, List.length_singleton]
  rw [show n - (done.length + 1) = m by omega]
  rfl
theorem lcells_full (done : List Ln.L) (n : Nat) (h : done.length = n) : lcells done n = Ln.linesC done := by
  unfold lcells
  rw [show n - done.length = 0 by omega]
  simp
theorem made_two (a : Value) (n : Nat) : madeCells #[a, a] n = (List.replicate n a).toArray := by
  apply Array.toList_inj.1
  apply List.ext_getElem?
  intro j
  unfold madeCells
  by_cases hj : j < n
  · have hm : j % 2 = 0 ∨ j % 2 = 1 := by omega
    simp only [Array.toList_map, List.getElem?_map, Array.toList_range, List.getElem?_range hj, Option.map_some, List.getElem?_replicate, hj, if_true]
    have h2 : (#[a, a] : Array Value).size = 2 := rfl
    rw [h2]
    rcases hm with h | h <;> rw [h] <;> rfl
  · simp [hj]
theorem make_lines (n : Nat) (hn : n ≤ 1000000) : ∀ W, (Instr.makeSlice 26 (.int .i64 (n : Int)) (.int .i64 (n : Int))).run Tryd.prog W = .ok (.slice (some ⟨W.heap.size, 0, none⟩) n n) (W.alloc (.cells (lcells [] n).toArray 23)) := fun W => by
  obtain ⟨i, hi, hz0, hz1, hz2⟩ := info_line
  have hr := run_make (P := Tryd.prog) W 26 23 i _ Tryd.underlying26 hi hz0 .i64 .i64 n n (by omega) (by omega) (by rw [hz2]; omega) (by omega)
  simp only [Int.toNat_natCast, hz1] at hr
  have e : madeCells (Value.agg #[Value.string ByteArray.empty, Value.string ByteArray.empty]).cells (n * 2) = (lcells [] n).toArray := by
    show madeCells #[Value.string ByteArray.empty, Value.string ByteArray.empty] (n * 2) = _
    rw [made_two]
    rfl
  rw [e] at hr
  exact hr
theorem Blk.set_at {w : World} {g : Nat} {t : TypeId} {done : List Ln.L} {n k : Nat} (h : Blk w g t (lcells done n)) (hn : n ≤ 1000000) (hk : done.length = k) (hlt : k < n) (x : Ln.L) :
    Blk ((w.setCell ⟨g, k * 2, none⟩ (.string x.k)).setCell ⟨g, k * 2 + 1, none⟩ (.string x.v)) g t (lcells (done ++ [x]) n) ∧ w.cell? ⟨g, k * 2, none⟩ = some (.string ⟨#[]⟩) ∧ w.cell? ⟨g, k * 2 + 1, none⟩ = some (.string ⟨#[]⟩) ∧ w.frozen? ⟨g, k * 2, none⟩ = false ∧ w.frozen? ⟨g, k * 2 + 1, none⟩ = false := by
  subst hk
  have hm : (lcells done n).length ≤ maxLen := by rw [lcells_length _ _ (by omega)]; unfold maxLen; omega
  have h1 := h.set hm (done.length * 2) (.string x.k)
  have h2 := h1.set (by rw [List.length_set]; exact hm) (done.length * 2 + 1) (.string x.v)
  rw [lcells_set done n hlt x] at h2
  exact ⟨h2, h.cell _ (lcells_old done n hlt).1, h.cell _ (lcells_old done n hlt).2, h.frozen hm _, h.frozen hm _⟩
theorem lines_blk {w : World} {g : Nat} {l : List Ln.L} {t : TypeId} {n : Nat} (h : Blk w g t (lcells l n)) (hl : l.length = n) : LinesAt w w.heap.size (some ⟨g, 0, none⟩) n l := by
  rw [lcells_full l n hl] at h
  have := lines_of_row h
  rwa [hl] at this
end Go.Proofs.YtldfamdjdkaloabDoor
