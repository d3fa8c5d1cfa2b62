/- The plain words of chapter 3 (tags and keys made of keys), over lists of bytes; nothing of the program is named here. -/
import Derived.Test.YtfgkodgdoplpbabHexPlain
import Derived.Test.YtfgkodgdoplpbabShaPlain
import Derived.Test.YtfgkodgdoplpbabShaWords
namespace Go.Proofs.Ytfgkodgdoplpbab.Mc

def block (key : List UInt8) : List UInt8 := key ++ List.replicate (64 - key.length) 0
def keyed (key : List UInt8) (m : UInt8) : List UInt8 := (block key).map (· ^^^ m)
def tag (key b : List UInt8) : List UInt8 := Sh.sum (keyed key 92 ++ Sh.sum (keyed key 54 ++ b))
def tagErr (s b : List UInt8) : Nat := if Hx.checkErr s ≠ 0 then Hx.checkErr s else if 936 < b.length then 1 else 0
def tagOut (s b : List UInt8) : List UInt8 := if tagErr s b = 0 then tag (Hx.pairs s) b else []
def label (l : List UInt8) : List UInt8 := [107, 101, 121, 32] ++ l
def derived (s l : List UInt8) : List UInt8 := Hx.text (tagOut s (label l))
def right (s b t : List UInt8) : Bool := decide (tagErr s b = 0) && decide ((tagOut s b).take 16 = t)

theorem block_length (key : List UInt8) (h : key.length ≤ 64) : (block key).length = 64 := by simp [block]; omega
theorem keyed_length (key : List UInt8) (m : UInt8) (h : key.length ≤ 64) : (keyed key m).length = 64 := by simp [keyed, block_length key h]
theorem tag_length (key b : List UInt8) : (tag key b).length = 32 := Sh.sum_length _
theorem check_ok (s : List UInt8) (h : Hx.checkErr s = 0) : s.length = 64 ∧ Hx.bytesErr s = 0 ∧ Hx.bytes s = Hx.pairs s ∧ (Hx.pairs s).length = 32 := by
  unfold Hx.checkErr at h
  by_cases h1 : s.length = 64
  · by_cases h2 : s.all Hx.isDig = false
    · simp [h1, h2] at h
    · have hb : Hx.bytesErr s = 0 := by unfold Hx.bytesErr; simp [h1, h2]
      refine ⟨h1, hb, by unfold Hx.bytes; rw [if_pos hb], by rw [Hx.pairs_length, h1]⟩
  · simp [h1] at h
theorem check_three (s : List UInt8) : Hx.checkErr s = 0 ∨ Hx.checkErr s = 1 ∨ Hx.checkErr s = 3 := by
  unfold Hx.checkErr; split
  · exact .inr (.inl rfl)
  · split
    · exact .inr (.inr rfl)
    · exact .inl rfl
theorem tag_bad (s b : List UInt8) (h : Hx.checkErr s ≠ 0) : tagErr s b = Hx.checkErr s ∧ tagOut s b = [] := by
  have h1 : tagErr s b = Hx.checkErr s := by unfold tagErr; rw [if_pos h]
  exact ⟨h1, by unfold tagOut; rw [if_neg (by rw [h1]; exact h)]⟩
theorem tag_long (s b : List UInt8) (h : Hx.checkErr s = 0) (hb : 936 < b.length) : tagErr s b = 1 ∧ tagOut s b = [] := by
  have h1 : tagErr s b = 1 := by unfold tagErr; rw [if_neg (by omega), if_pos hb]
  exact ⟨h1, by unfold tagOut; rw [if_neg (by omega)]⟩
theorem tag_ok (s b : List UInt8) (h : Hx.checkErr s = 0) (hb : b.length ≤ 936) : tagErr s b = 0 ∧ tagOut s b = tag (Hx.pairs s) b := by
  have h1 : tagErr s b = 0 := by unfold tagErr; rw [if_neg (by omega), if_neg (by omega)]
  exact ⟨h1, by unfold tagOut; rw [if_pos h1]⟩

/-- The differing bits of the first k places. -/
def diffTo (xs ys : List UInt8) : Nat → UInt8
  | 0 => 0
  | k + 1 => diffTo xs ys k ||| (xs.getD k 0 ^^^ ys.getD k 0)
theorem or_zero (a b : UInt8) : a ||| b = 0 ↔ a = 0 ∧ b = 0 := by
  rw [← UInt8.toBitVec_inj, ← UInt8.toBitVec_inj, ← UInt8.toBitVec_inj, UInt8.toBitVec_or]
  exact BitVec.or_eq_zero_iff
theorem xor_zero (a b : UInt8) : a ^^^ b = 0 ↔ a = b := by
  constructor
  · intro h
    have : (a ^^^ b) ^^^ b = 0 ^^^ b := by rw [h]
    rw [UInt8.xor_assoc, UInt8.xor_self, UInt8.xor_zero, UInt8.zero_xor] at this
    exact this
  · rintro rfl; exact UInt8.xor_self
theorem diff_zero (xs ys : List UInt8) : ∀ k, k ≤ xs.length → k ≤ ys.length → (diffTo xs ys k = 0 ↔ xs.take k = ys.take k)
  | 0, _, _ => by simp [diffTo]
  | k + 1, h1, h2 => by
    have ih := diff_zero xs ys k (by omega) (by omega)
    rw [diffTo, or_zero, xor_zero, ih, List.take_succ_eq_append_getElem (l := xs) (by omega), List.take_succ_eq_append_getElem (l := ys) (by omega)]
    have e1 : xs.getD k 0 = xs[k] := by rw [List.getD_eq_getElem?_getD, List.getElem?_eq_getElem (by omega)]; rfl
    have e2 : ys.getD k 0 = ys[k] := by rw [List.getD_eq_getElem?_getD, List.getElem?_eq_getElem (by omega)]; rfl
    rw [e1, e2]
    constructor
    · rintro ⟨a, b⟩; rw [a, b]
    · intro h
      have hl : (xs.take k).length = (ys.take k).length := by simp; omega
      have := List.append_inj h hl
      exact ⟨this.1, by simpa using this.2⟩
theorem diff_all (xs ys : List UInt8) (h : xs.length = ys.length) : diffTo xs ys xs.length = 0 ↔ xs = ys := by
  rw [diff_zero xs ys _ (Nat.le_refl _) (by omega), List.take_of_length_le (Nat.le_refl _), List.take_of_length_le (by omega)]
end Go.Proofs.Ytfgkodgdoplpbab.Mc
