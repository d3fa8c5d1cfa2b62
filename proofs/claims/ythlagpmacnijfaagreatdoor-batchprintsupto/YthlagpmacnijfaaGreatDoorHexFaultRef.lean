/- The contract of the reference's HexFault. -/
import Derived.Test.YthlagpmacnijfaaGreatDoorHexRef
import Derived.SizedLaws
namespace Go.Proofs.YthlagpmacnijfaaGreatDoor
open Go.RowKit

set_option maxHeartbeats 400000 in
theorem ref_HexFault (s : ByteArray) (w : World) (hs : s.size ≤ maxLen) :
    Calls Tryz.prog 58 #[.string s] w fun e w' => e = .returned (.int .i64 (Hx.checkErr s.data.toList : Int)) ∧ Below w.heap.size w w' := by
  have hs' := hs
  unfold maxLen at hs'
  by_cases h : s.size = 64
  · have h1 : ((s.size : Int) != 64) = false := by simp [h]
    have hb : Hx.bytesErr s.data.toList = if allD s = false then 3 else 0 := by rw [allD_berr]; simp [h]
    have hc : Hx.checkErr s.data.toList = if allD s = false then 3 else 0 := by rw [allD_err]; simp [h]
    have Hb := Lib.hid hb
    have Hc := Lib.hid hc
    clear h hb hc
    cases hd : allD s <;>
    · have Hd := Lib.hid hd
      clear hd
      go_enter Tryz.func58, Tryz.ntmps58
      go_wp2_with (go_at_call 86; refine (ref_HexBytes _ _ hs).mono ?_; rintro e w' ⟨a, n, c, rfl, -, hbel⟩; rw [Hb.out, Hd.out]; simp only [if_pos, Bool.true_eq_false, if_false])
      go_ret
      exact ⟨ret_int (by rw [Hc.out, Hd.out]; rfl), hbel⟩
  · have h1 : ((s.size : Int) != 64) = true := by simp; omega
    have hc : Hx.checkErr s.data.toList = 1 := by rw [allD_err]; simp [h]
    have Hc := Lib.hid hc
    clear hc
    go_enter Tryz.func58, Tryz.ntmps58
    go_wp2
    go_ret
    exact ⟨ret_int (by rw [Hc.out]; rfl), Below.refl _ _⟩

end Go.Proofs.YthlagpmacnijfaaGreatDoor
