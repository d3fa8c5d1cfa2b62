/- Bounds on what a text's numbers are. -/
import Derived.Test.YthlagpmacnijfaaDoorAddrPlain3
namespace Go.Proofs.YthlagpmacnijfaaDoor

theorem good_lt (l : List UInt8) : Ad.addrOut l < 4294967296 := by
  unfold Ad.addrOut
  by_cases h : Ad.good l = true
  · rw [if_pos h]; exact (Ad.text_good l h).1
  · rw [if_neg h]; decide
theorem num_le (l : List UInt8) (most : Nat) : Ad.numOut l (most : Int) ≤ most := by
  unfold Ad.numOut
  by_cases h : Ad.numErr l (most : Int) = 0
  · rw [if_pos h]
    unfold Ad.numErr at h
    by_cases hc : Ad.isNum l = true ∧ (Ad.val l : Int) ≤ (most : Int)
    · omega
    · rw [if_neg hc] at h; cases h
  · rw [if_neg h]; omega
end Go.Proofs.YthlagpmacnijfaaDoor
