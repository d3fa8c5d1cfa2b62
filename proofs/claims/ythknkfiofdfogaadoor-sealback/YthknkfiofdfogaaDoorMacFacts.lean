/- Small facts on tags, labels and results. -/
import Derived.Test.YthknkfiofdfogaaDoorRows
import Derived.Test.YthknkfiofdfogaaDoorMem2
import Derived.Test.YthknkfiofdfogaaDoorMacPlain
namespace Go.Proofs.YthknkfiofdfogaaDoor
open Go.RowKit

theorem tag_err_three (s b : List UInt8) : Mc.tagErr s b = 0 ∨ (Mc.tagErr s b = 1 ∧ Mc.tagOut s b = []) ∨ (Mc.tagErr s b = 3 ∧ Mc.tagOut s b = []) := by
  rcases Mc.check_three s with h | h | h
  · by_cases hb : 936 < b.length
    · exact .inr (.inl (Mc.tag_long s b h hb))
    · exact .inl (Mc.tag_ok s b h (by omega)).1
  · have := Mc.tag_bad s b (by rw [h]; decide)
    rw [h] at this
    exact .inr (.inl this)
  · have := Mc.tag_bad s b (by rw [h]; decide)
    rw [h] at this
    exact .inr (.inr this)
theorem tag_out_length (s b : List UInt8) (h : Mc.tagErr s b = 0) : (Mc.tagOut s b).length = 32 := by
  unfold Mc.tagOut; rw [if_pos h]; exact Mc.tag_length _ _
theorem right_bad (s b t : List UInt8) (h : Mc.tagErr s b ≠ 0) : Mc.right s b t = false := by
  unfold Mc.right; rw [decide_eq_false h]; rfl
theorem right_ok (s b t : List UInt8) (h : Mc.tagErr s b = 0) : Mc.right s b t = decide ((Mc.tagOut s b).take 16 = t) := by
  unfold Mc.right; rw [decide_eq_true h]; rfl
theorem ret_bool_err {x y : Bool} {a b : Int} (h : x = y) (g : a = b) : Ending.returned (.tuple #[.bool x, .int .i64 a]) = .returned (.tuple #[.bool y, .int .i64 b]) := by rw [h, g]
theorem ret_string_err {x y : ByteArray} {a b : Int} (h : x = y) (g : a = b) : Ending.returned (.tuple #[.string x, .int .i64 a]) = .returned (.tuple #[.string y, .int .i64 b]) := by rw [h, g]
theorem label_list (l : ByteArray) : (⟨#[107, 101, 121, 32]⟩ ++ l : ByteArray).data.toList = Mc.label l.data.toList := by
  rw [ByteArray.data_append, Array.toList_append]; rfl
theorem label_size (l : ByteArray) : (⟨#[107, 101, 121, 32]⟩ ++ l : ByteArray).size = 4 + l.size := by
  rw [ByteArray.size_append]; rfl

theorem derived_bad (s l : List UInt8) (h : Mc.tagOut s (Mc.label l) = []) : strOf (Mc.derived s l) = ⟨#[]⟩ := by unfold Mc.derived; rw [h]; rfl
end Go.Proofs.YthknkfiofdfogaaDoor
