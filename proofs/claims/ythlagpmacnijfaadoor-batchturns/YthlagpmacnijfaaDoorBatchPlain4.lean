/- The plain words of chapter 12: batches; nothing of the program is named here. -/
import Derived.Test.YthlagpmacnijfaaDoorBatchPlain3
namespace Go.Proofs.YthlagpmacnijfaaDoor.Bt

/-- The lines of a text that is split have no fault, and are few. -/
theorem lines_ok {s : ByteArray} (h : (Ln.sBad s).2 = 0) : (∀ x ∈ Ln.sOut s, Ln.err x = 0) ∧ (Ln.sOut s).length ≤ 60 := by
  obtain ⟨_, h2, _⟩ := Ln.join_split h
  unfold Ln.jErr at h2
  split at h2
  · cases h2
  rename_i h60
  split at h2
  · rename_i hf; exact absurd h2 hf
  rename_i hf
  exact ⟨Ln.fault_back _ (by simpa using hf), by omega⟩
theorem pOut_err {s : ByteArray} (h : (pBad s).2 ≠ 0) : pOut s = [] := by unfold pOut; rw [if_neg h]
theorem pBad_split {s : ByteArray} (h : (Ln.sBad s).2 ≠ 0) : pBad s = Ln.sBad s := by unfold pBad; rw [if_pos h]
theorem pBad_wrong {s : ByteArray} (h : (Ln.sBad s).2 = 0) : pBad s = wrong 0 (Ln.sOut s) := by unfold pBad; rw [if_neg (fun e => e h)]
end Go.Proofs.YthlagpmacnijfaaDoor.Bt
