/- The plain words of chapter 12: which candidate is picked; nothing of the program is named here. -/
import Derived.Test.YthlagpmacnijfaaDoorBatchPlain
namespace Go.Proofs.YthlagpmacnijfaaDoor.Bt

theorem kind_none {key : ByteArray} (h : ∀ j, 1 ≤ j → j ≤ 10 → nameOf j ≠ key) : kindOf key = 0 := by
  rcases kindOf_cases key with hk | ⟨h1, h2, h3⟩
  · exact hk
  · exact absurd h3 (h _ h1 h2)
theorem kind_some {key : ByteArray} {j : Nat} (h1 : 1 ≤ j) (h2 : j ≤ 10) (h : nameOf j = key) : kindOf key = j := by rw [← h]; exact kind_of_name j h1 h2
theorem pick_at {l : Ln.L} {c : List S} (k : Nat) (hk : k < c.length) (hn : ∀ x ∈ c.take k, fits l x = false) (hf : fits l c[k] = true) : pick1 l c = (c[k], 0) := by
  have : c.find? (fits l) = some c[k] := by
    rw [List.find?_eq_some_iff_append]
    refine ⟨hf, c.take k, c.drop (k + 1), ?_, fun a ha => by simp [hn a ha]⟩
    rw [← List.drop_eq_getElem_cons hk, List.take_append_drop]
  unfold pick1
  rw [this]
theorem pick_none {l : Ln.L} {c : List S} (hn : ∀ x ∈ c, fits l x = false) : pick1 l c = (zeroS, 3) := by
  have : c.find? (fits l) = none := List.find?_eq_none.2 fun x hx => by simp [hn x hx]
  unfold pick1
  rw [this]
theorem fits_err {l : Ln.L} {x : S} (h : err x ≠ 0) : fits l x = false := by unfold fits; rw [decide_eq_false (fun e => h e.1)]
theorem fits_line {l : Ln.L} {x : S} (h : line x ≠ l) : fits l x = false := by unfold fits; rw [decide_eq_false (fun e => h e.2)]
theorem fits_ok {l : Ln.L} {x : S} (h : err x = 0) (h2 : line x = l) : fits l x = true := by unfold fits; rw [decide_eq_true ⟨h, h2⟩]
theorem numOut_lt (l : List UInt8) (m : Int) : Ad.numOut l m < 100000 := by
  unfold Ad.numOut
  split
  · rename_i h
    unfold Ad.numErr at h
    split at h
    · rename_i hc; exact Ad.num_lt l hc.1
    · cases h
  · decide
theorem good_addr (l : List UInt8) : Ad.addrOut l < 4294967296 := by
  unfold Ad.addrOut
  split
  · rename_i h; exact (Ad.text_good l h).1
  · decide
theorem par_lt (l : List UInt8) : Nt.parAddr l < 4294967296 ∧ Nt.parBits l < 100000 := by
  unfold Nt.parAddr Nt.parBits
  constructor
  · split
    · exact good_addr _
    · decide
  · split
    · exact numOut_lt _ _
    · decide
/-- What the candidates may hold. -/
theorem cands_ok (k : Nat) (v : ByteArray) (hv : v.size ≤ 1048576) : ∀ s ∈ cands k v, s.t.size ≤ 1048576 ∧ s.a < 4294967296 ∧ -9223372036854775808 ≤ s.n ∧ s.n ≤ 9223372036854775807 := by
  have h1 := numOut_lt v.data.toList 65535
  obtain ⟨h2, h3⟩ := par_lt v.data.toList
  intro s hs
  unfold cands at hs
  simp only [List.mem_cons, List.not_mem_nil, or_false] at hs
  rcases hs with rfl | rfl | rfl | rfl
  · refine ⟨?_, ?_, ?_, ?_⟩ <;> simp only <;> (first | omega | (show (0 : Nat) ≤ _; omega))
  · refine ⟨?_, ?_, ?_, ?_⟩ <;> simp only <;> omega
  · refine ⟨?_, ?_, ?_, ?_⟩ <;> simp only <;> (first | omega | (show (0 : Nat) ≤ _; omega))
  · refine ⟨?_, ?_, ?_, ?_⟩ <;> simp only <;> (first | omega | (show (0 : Nat) ≤ _; omega))
end Go.Proofs.YthlagpmacnijfaaDoor.Bt
