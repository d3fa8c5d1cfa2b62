/- Rows of texts in a block: the first ones written, the rest empty; joining them. -/
import Derived.Test.YtldfamdjdkaloabDoorLineMem
import Derived.Test.YtldfamdjdkaloabDoorStructMem
import Derived.Test.YtldfamdjdkaloabDoorLinePlain2
import Derived.Lib.Join
import Derived.Laws.MakeOwn
import Derived.Deep.OwnRows
namespace Go.Proofs.YtldfamdjdkaloabDoor
open Go.RowKit

/-- The cells of n texts, the first ones written. -/
def tcells (done : List ByteArray) (n : Nat) : List Value := done.map Value.string ++ List.replicate (n - done.length) (.string ByteArray.empty)
theorem tcells_length (done : List ByteArray) (n : Nat) (h : done.length ≤ n) : (tcells done n).length = n := by unfold tcells; simp; omega
theorem tcells_old (done : List ByteArray) (n : Nat) (h : done.length < n) : (tcells done n)[done.length]? = some (.string ByteArray.empty) := by
  unfold tcells
  rw [List.getElem?_append_right (by simp), List.length_map, Nat.sub_self]
  rw [List.getElem?_replicate, if_pos (by omega)]
theorem tcells_set (done : List ByteArray) (n : Nat) (h : done.length < n) (x : ByteArray) : (tcells done n).set done.length (.string x) = tcells (done ++ [x]) n := by
  unfold tcells
  rw [List.set_append_right (h := by simp), List.length_map, Nat.sub_self, List.map_append, List.append_assoc]
  congr 1
  obtain ⟨m, hm⟩ : ∃ m, n - done.length = m + 1 := ⟨n - done.length - 1, by omega⟩
  rw [hm, List.replicate_succ, List.set_cons_zero, List.length_append, List.length_singleton]
  rw [show n - (done.length + 1) = m by omega]
  rfl
theorem tcells_full (done : List ByteArray) (n : Nat) (h : done.length = n) : tcells done n = done.map Value.string := by
  unfold tcells
  rw [show n - done.length = 0 by omega]
  simp
theorem make_texts (n : Nat) (hn : n ≤ 1000000) : ∀ W, (Instr.makeSlice 40 (.int .i64 (n : Int)) (.int .i64 (n : Int))).run Tryd.prog W = .ok (.slice (some ⟨W.heap.size, 0, none⟩) n n) (W.alloc (.cells (tcells [] n).toArray 9)) := fun W => by
  have hr := run_make_row' (P := Tryd.prog) 40 9 (.string ByteArray.empty) 16 Tryd.underlying40 (by kernel_rfl) rfl .i64 .i64 n (by omega) (by omega) W
  have e : madeCells #[Value.string ByteArray.empty] n = (tcells [] n).toArray := by
    unfold tcells
    rw [List.map_nil, List.nil_append, List.length_nil, Nat.sub_zero, ← toList_madeCells_one]
  rw [e] at hr
  exact hr
theorem joinTail_glue (c : UInt8) : ∀ (x : List UInt8) (r : List (List UInt8)), x ++ Lib.joinTail [c] r = Ad.glue c (x :: r) := by
  intro x r
  induction r generalizing x with
  | nil => simp [Lib.joinTail, Ad.glue]
  | cons y r ih =>
    rw [Ln.glue_cons, ← ih]
    simp [Lib.joinTail]
theorem join_glue (c : UInt8) : ∀ (l : List (List UInt8)), Lib.join l [c] = Ad.glue c l := by
  intro l
  cases l with
  | nil => rfl
  | cons x r => rw [Lib.join_cons, joinTail_glue]
end Go.Proofs.YtldfamdjdkaloabDoor
