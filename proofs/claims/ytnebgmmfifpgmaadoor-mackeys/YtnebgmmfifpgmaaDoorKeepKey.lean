/- The contracts of the laws' helpers picked and Key. -/
import Derived.Test.YtnebgmmfifpgmaaDoorRows
import Derived.Test.YtnebgmmfifpgmaaDoorMem
import Derived.Test.YtnebgmmfifpgmaaDoorHexPlain
import Derived.Test.YtnebgmmfifpgmaaDoorShelfRepeat
namespace Go.Proofs.YtnebgmmfifpgmaaDoor
open Go.RowKit

/-- Which one a raw number picks out of m. -/
def pick (n : Int) (m : Nat) : Nat := (if n < 0 then -(n + 1) else n).toNat % m
theorem pick_lt (n : Int) (m : Nat) (h : 0 < m) : pick n m < m := Nat.mod_lt _ h

set_option maxHeartbeats 400000 in
theorem keep_picked (n : Int) (m : Nat) (w : World) (h0 : -9223372036854775808 ≤ n) (h1 : n ≤ 9223372036854775807) (hm : 0 < m) (hm2 : m ≤ 9223372036854775807) :
    Calls Tryd.prog 25 #[.int .i64 n, .int .i64 (m : Int)] w fun e w' => e = .returned (.int .i64 (pick n m : Int)) ∧ w = w' := by
  by_cases hn : n < 0
  · have Hp := Lib.hid (show (pick n m : Int) = (-(n + 1)) % (m : Int) by unfold pick; rw [if_pos hn, Int.natCast_emod, Int.toNat_of_nonneg (by omega)])
    have ht : (-(n + 1)).tmod (m : Int) = (-(n + 1)) % (m : Int) := Int.tmod_eq_emod_of_nonneg (by omega)
    go_enter Tryd.func25, Tryd.ntmps25
    go_wp2
    go_ret
    exact ⟨by rw [Hp.out]; rfl, rfl⟩
  · have Hp := Lib.hid (show (pick n m : Int) = n % (m : Int) by unfold pick; rw [if_neg hn, Int.natCast_emod, Int.toNat_of_nonneg (by omega)])
    have ht : n.tmod (m : Int) = n % (m : Int) := Int.tmod_eq_emod_of_nonneg (by omega)
    go_enter Tryd.func25, Tryd.ntmps25
    go_wp2
    go_ret
    exact ⟨by rw [Hp.out]; rfl, rfl⟩

/-- The keys that the properties use. -/
def keyOf (p : Nat) : ByteArray := strOf (Lib.repeatL [49, UInt8.ofNat (50 + p)] 32)
theorem keyOf_good (p : Nat) (h : p < 8) : (keyOf p).size = 64 ∧ Hx.checkErr (keyOf p).data.toList = 0 := by
  have : p = 0 ∨ p = 1 ∨ p = 2 ∨ p = 3 ∨ p = 4 ∨ p = 5 ∨ p = 6 ∨ p = 7 := by omega
  rcases this with rfl | rfl | rfl | rfl | rfl | rfl | rfl | rfl <;> decide +kernel

set_option maxHeartbeats 400000 in
theorem keep_Key (n : Int) (w : World) (h0 : -9223372036854775808 ≤ n) (h1 : n ≤ 9223372036854775807) :
    Calls Tryd.prog 13 #[.int .i64 n] w fun e w' => e = .returned (.string (keyOf (pick n 8))) ∧ Below w.heap.size w w' := by
  have hp := pick_lt n 8 (by decide)
  have hP := fun W => keep_picked n 8 W h0 h1 (by decide) (by decide)
  generalize pick n 8 = p at *
  have : p = 0 ∨ p = 1 ∨ p = 2 ∨ p = 3 ∨ p = 4 ∨ p = 5 ∨ p = 6 ∨ p = 7 := by omega
  rcases this with rfl | rfl | rfl | rfl | rfl | rfl | rfl | rfl <;>
  · go_enter Tryd.func13, Tryd.ntmps13
    go_wp2_with (go_at_call 25; refine (hP _).mono ?_; rintro e w' ⟨rfl, rfl⟩)
    refine (Tryd.strings_Repeat _ 32 _ (by decide) (by decide +kernel)).mono ?_
    rintro e w1 ⟨rfl, hb1⟩
    go_wp2
    go_ret
    exact ⟨congrArg (fun x => Ending.returned (.string x)) (by decide +kernel), hb1⟩
end Go.Proofs.YtnebgmmfifpgmaaDoor
