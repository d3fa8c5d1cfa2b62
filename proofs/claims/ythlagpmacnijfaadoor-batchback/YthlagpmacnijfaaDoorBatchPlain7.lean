/- What the landed code guesses of a line; nothing of the program is named here. -/
import Derived.Test.YthlagpmacnijfaaDoorBatchPlain5
import Derived.Test.YthlagpmacnijfaaDoorBatchPlain3
namespace Go.Proofs.YthlagpmacnijfaaDoor.Bt
open Ln (ofT)

/-- The setting of a kind whose line has a value, if there is one. -/
def guess (k : Int) (v : ByteArray) : S :=
  if fld k = 1 then ⟨k, if k = 6 ∧ v = zeros then ⟨#[]⟩ else v, 0, 0, 0⟩ else
  if fld k = 2 then ⟨k, ⟨#[]⟩, (Ad.numOut v.data.toList 65535 : Int), 0, 0⟩ else
  if fld k = 3 then ⟨k, ⟨#[]⟩, 0, Nt.parAddr v.data.toList, (Nt.parBits v.data.toList : Int)⟩ else ⟨k, ⟨#[]⟩, 0, 0, 0⟩
theorem guess_val {s : S} (hs : err s = 0) (ha : s.a < 4294967296) : guess s.k (val s) = s := by
  obtain ⟨hs1, hs2⟩ := err_in hs
  obtain ⟨a1, a2, a3⟩ := more_of hs2
  obtain ⟨r1, r2, r3⟩ := err_rest hs
  have hf : fld s.k = 0 ∨ fld s.k = 1 ∨ fld s.k = 2 ∨ fld s.k = 3 := by
    rcases fld_cases s.k hs1.1 hs1.2 with h | h | h | h | h | h | h | h | h | h <;> rw [h] <;> decide
  have ht : fld s.k ≠ 1 → s.t = ⟨#[]⟩ := fun h => empty_of (by omega)
  unfold guess
  rcases hf with hf | hf | hf | hf
  · rw [if_neg (by omega), if_neg (by omega), if_neg (by omega)]
    have e1 := ht (by omega)
    obtain ⟨k, t, n, a, b⟩ := s
    simp only at *
    rw [e1]
    congr 1 <;> omega
  · rw [if_pos hf]
    have e2 : (if s.k = 6 ∧ val s = zeros then (⟨#[]⟩ : ByteArray) else val s) = s.t := by
      by_cases h6 : s.k = 6
      · by_cases h0 : s.t.size = 0
        · rw [val_six h6, if_pos h0, if_pos ⟨h6, rfl⟩, empty_of h0]
        · rw [val_six h6, if_neg h0, if_neg (fun h => r3 h6 h0 h.2)]
      · rw [if_neg (fun h => h6 h.1), val_text hf h6]
    rw [e2]
    obtain ⟨k, t, n, a, b⟩ := s
    simp only at *
    congr 1 <;> omega
  · rw [if_neg (by omega), if_pos hf]
    have e1 := ht (by omega)
    have e2 := num_itoa (r1 hf).1 (r1 hf).2
    rw [val_num hf]
    show (⟨s.k, ⟨#[]⟩, (Ad.numOut (Lib.itoa s.n) 65535 : Int), 0, 0⟩ : S) = s
    rw [e2]
    obtain ⟨k, t, n, a, b⟩ := s
    simp only at *
    rw [e1]
    congr 1 <;> omega
  · rw [if_neg (by omega), if_neg (by omega), if_pos hf]
    have h10 : s.k = 10 := by
      rcases fld_cases s.k hs1.1 hs1.2 with h | h | h | h | h | h | h | h | h | h <;> first | exact h | (rw [h] at hf; exact absurd hf (by decide))
    have e1 := ht (by omega)
    obtain ⟨e2, e3⟩ := net_text ha (r2 hf)
    rw [val_net h10]
    show (⟨s.k, ⟨#[]⟩, 0, Nt.parAddr (Nt.textOut s.a s.b), (Nt.parBits (Nt.textOut s.a s.b) : Int)⟩ : S) = s
    rw [e2, e3]
    obtain ⟨k, t, n, a, b⟩ := s
    simp only at *
    rw [e1]
    congr 1 <;> omega
theorem guess_k (k : Int) (v : ByteArray) : (guess k v).k = k := by
  unfold guess
  split
  · rfl
  · split
    · rfl
    · split <;> rfl
theorem guess_ok (k : Int) (v : ByteArray) (hv : v.size ≤ 1048576) : (guess k v).t.size ≤ 1048576 ∧ (guess k v).a < 4294967296 ∧ -9223372036854775808 ≤ (guess k v).n ∧ (guess k v).n ≤ 9223372036854775807 := by
  have hn := numOut_lt v.data.toList 65535
  have hp := (par_lt v.data.toList).1
  unfold guess
  split
  · refine ⟨?_, by show (0 : Nat) < _; omega, by show _ ≤ (0 : Int); omega, by show (0 : Int) ≤ _; omega⟩
    show ByteArray.size (if k = 6 ∧ v = zeros then (⟨#[]⟩ : ByteArray) else v) ≤ _
    split
    · show (0 : Nat) ≤ _; omega
    · exact hv
  · split
    · refine ⟨by show (0 : Nat) ≤ _; omega, by show (0 : Nat) < _; omega, ?_, ?_⟩
      · show _ ≤ ((Ad.numOut v.data.toList 65535 : Nat) : Int); omega
      · show ((Ad.numOut v.data.toList 65535 : Nat) : Int) ≤ _; omega
    · split
      · exact ⟨by show (0 : Nat) ≤ _; omega, hp, by show _ ≤ (0 : Int); omega, by show (0 : Int) ≤ _; omega⟩
      · exact ⟨by show (0 : Nat) ≤ _; omega, by show (0 : Nat) < _; omega, by show _ ≤ (0 : Int); omega, by show (0 : Int) ≤ _; omega⟩
/-- The setting of a line, by its guess. -/
theorem of_guess (l : Ln.L) (hv : l.v.size ≤ 1048576) : ofLine l = if kindOf l.k = 0 then (zeroS, 2) else
    if err (guess (kindOf l.k) l.v) = 0 ∧ line (guess (kindOf l.k) l.v) = l then (guess (kindOf l.k) l.v, 0) else (zeroS, 3) := by
  by_cases hk : kindOf l.k = 0
  · unfold ofLine
    rw [if_pos hk, if_pos hk]
  · rw [if_neg hk]
    have hg := (guess_ok (kindOf l.k) l.v hv).2.1
    by_cases h : err (guess (kindOf l.k) l.v) = 0 ∧ line (guess (kindOf l.k) l.v) = l
    · rw [if_pos h]
      have := of_line h.1 hg
      rw [h.2] at this
      exact this
    · rw [if_neg h]
      unfold ofLine
      rw [if_neg hk]
      unfold pick1
      cases hf : (cands (kindOf l.k) l.v).find? (fits l) with
      | none => rfl
      | some x =>
        exfalso
        have hx := List.find?_some hf
        have hxm := List.mem_of_find?_eq_some hf
        unfold fits at hx
        obtain ⟨x1, x2⟩ := of_decide_eq_true hx
        have hxa := (cands_ok _ _ hv x hxm).2.1
        have hxk : x.k = ((kindOf l.k : Nat) : Int) := by
          unfold cands at hxm
          simp only [List.mem_cons, List.not_mem_nil, or_false] at hxm
          rcases hxm with rfl | rfl | rfl | rfl <;> rfl
        have hxl : line x = lineOf x := by unfold line; rw [if_pos x1]
        have hxv : l.v = val x := by rw [← x2, hxl]; rfl
        have e := guess_val x1 hxa
        rw [hxk, ← hxv] at e
        exact h (by rw [e]; exact ⟨x1, x2⟩)
end Go.Proofs.YthlagpmacnijfaaDoor.Bt
