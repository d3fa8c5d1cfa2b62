/- The contract of the laws' helper Key. -/
import Derived.Test.YtfipnkledifilaaRows
import Derived.Test.YtfipnkledifilaaMem
import Derived.Test.YtfipnkledifilaaHexPlain
import Derived.Test.YtfipnkledifilaaKeepPick
import Derived.Test.YtfipnkledifilaaShelfRepeat
namespace Go.Proofs.Ytfipnkledifilaa
open Go.RowKit

/-- The keys that the properties use. -/
def keyOf (p : Nat) : ByteArray := strOf (Lib.repeatL [49, UInt8.ofNat (50 + p)] 32)
theorem keyOf_good (p : Nat) (h : p < 8) : (keyOf p).size = 64 ∧ Hx.checkErr (keyOf p).data.toList = 0 := by
  have : p = 0 ∨ p = 1 ∨ p = 2 ∨ p = 3 ∨ p = 4 ∨ p = 5 ∨ p = 6 ∨ p = 7 := by omega
  rcases this with rfl | rfl | rfl | rfl | rfl | rfl | rfl | rfl <;> decide +kernel

set_option maxHeartbeats 400000 in
theorem keep_Key (n : Int) (w : World) (h0 : -9223372036854775808 ≤ n) (h1 : n ≤ 9223372036854775807) :
    Calls Try.prog 22 #[.int .i64 n] w fun e w' => e = .returned (.string (keyOf (pick n 8))) ∧ Below w.heap.size w w' := by
  have hp := pick_lt n 8 (by decide)
  have hP := fun W => keep_picked n 8 W h0 h1 (by decide) (by decide)
  generalize pick n 8 = p at *
  have : p = 0 ∨ p = 1 ∨ p = 2 ∨ p = 3 ∨ p = 4 ∨ p = 5 ∨ p = 6 ∨ p = 7 := by omega
  rcases this with rfl | rfl | rfl | rfl | rfl | rfl | rfl | rfl <;>
  · go_enter Try.func22, Try.ntmps22
    go_wp2_with (go_at_call 42; refine (hP _).mono ?_; rintro e w' ⟨rfl, rfl⟩)
    refine (Try.strings_Repeat _ 32 _ (by decide) (by decide +kernel)).mono ?_
    rintro e w1 ⟨rfl, hb1⟩
    go_wp2
    go_ret
    exact ⟨congrArg (fun x => Ending.returned (.string x)) (by decide +kernel), hb1⟩
end Go.Proofs.Ytfipnkledifilaa
