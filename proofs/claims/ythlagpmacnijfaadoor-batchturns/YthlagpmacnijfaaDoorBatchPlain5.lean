/- The plain words of chapter 12: a setting is read back from its line; nothing of the program is named here. -/
import Derived.Test.YthlagpmacnijfaaDoorBatchPlain4
namespace Go.Proofs.YthlagpmacnijfaaDoor.Bt
open Ln (ofT)

theorem fld_vals : fld 1 = 1 ∧ fld 4 = 1 ∧ fld 6 = 1 ∧ fld 7 = 1 ∧ fld 2 = 2 ∧ fld 8 = 2 ∧ fld 10 = 3 ∧ fld 3 = 0 ∧ fld 5 = 0 ∧ fld 9 = 0 := by decide
theorem empty_of {t : ByteArray} (h : t.size = 0) : t = ⟨#[]⟩ := by
  apply WideShapes.bytes_inj
  have : t.data.toList.length = 0 := by simpa using h
  rw [List.length_eq_zero_iff.1 this]
theorem err_in {s : S} (h : err s = 0) : (1 ≤ s.k ∧ s.k ≤ 10) ∧ more s = false := by
  unfold err at h
  split at h
  · cases h
  · rename_i h1
    split at h
    · cases h
    · rename_i h2
      exact ⟨by omega, by simpa using h2⟩
theorem more_of {s : S} (h : more s = false) : (s.t.size = 0 ∨ fld s.k = 1) ∧ (s.n = 0 ∨ fld s.k = 2) ∧ ((s.a = 0 ∧ s.b = 0) ∨ fld s.k = 3) := by
  unfold more at h
  simp only [Bool.or_eq_false_iff, Bool.and_eq_false_iff, decide_eq_false_iff_not] at h
  omega
theorem err_rest {s : S} (h : err s = 0) : (fld s.k = 2 → 0 ≤ s.n ∧ s.n ≤ 65535) ∧ (fld s.k = 3 → Nt.err s.a s.b = 0) ∧ (s.k = 6 → s.t.size ≠ 0 → s.t ≠ zeros) := by
  obtain ⟨hk, hm⟩ := err_in h
  obtain ⟨f1, f4, f6, f7, f2, f8, f10, f3, f5, f9⟩ := fld_vals
  have he := h
  unfold err at he
  rw [if_neg (by omega), if_neg (by rw [hm]; decide)] at he
  refine ⟨fun hf => ?_, fun hf => ?_, fun h6 h0 hz => ?_⟩
  · rw [if_pos hf] at he
    split at he
    · cases he
    · omega
  · rw [if_neg (by omega), if_pos hf] at he
    exact he
  · rw [h6, f6, if_neg (by decide), if_neg (by decide), if_neg (by decide), if_neg (fun e => h0 e.2), if_pos ⟨rfl, hz⟩] at he
    cases he
theorem itoa_nat {n : Int} (h : 0 ≤ n) : Lib.itoa n = Lib.decDigits n.toNat := by unfold Lib.itoa; rw [if_neg (by omega)]
theorem itoa_inj {n m : Int} (hn : 0 ≤ n) (hm : 0 ≤ m) (h : Lib.itoa n = Lib.itoa m) : n = m := by
  rw [itoa_nat hn, itoa_nat hm] at h
  have h1 := (Ad.dec_good n.toNat).2.1
  have h2 := (Ad.dec_good m.toNat).2.1
  rw [h] at h1
  omega
theorem dec_len5 (u : Nat) (h : u < 100000) : (Lib.decDigits u).length ≤ 5 := by
  by_cases h1 : u < 10
  · rw [Lib.decDigits, dif_pos h1]; simp
  rw [Lib.decDigits, dif_neg h1]
  by_cases h2 : u / 10 < 10
  · rw [Lib.decDigits, dif_pos h2]; simp
  rw [Lib.decDigits, dif_neg h2]
  by_cases h3 : u / 10 / 10 < 10
  · rw [Lib.decDigits, dif_pos h3]; simp
  rw [Lib.decDigits, dif_neg h3]
  by_cases h4 : u / 10 / 10 / 10 < 10
  · rw [Lib.decDigits, dif_pos h4]; simp
  rw [Lib.decDigits, dif_neg h4, Lib.decDigits, dif_pos (by omega)]; simp
theorem num_itoa {n : Int} (h0 : 0 ≤ n) (h1 : n ≤ 65535) : (Ad.numOut (Lib.itoa n) 65535 : Int) = n := by
  obtain ⟨g1, g2⟩ := Ad.num_back (Lib.itoa n) n h0 (by rw [itoa_nat h0]; exact dec_len5 _ (by omega)) rfl
  have he : Ad.numErr (Lib.itoa n) 65535 = 0 := by unfold Ad.numErr; rw [if_pos ⟨g1, by omega⟩]
  unfold Ad.numOut
  rw [if_pos he]
  exact g2.symm
theorem ofT_inj {l m : List UInt8} (h : ofT l = ofT m) : l = m := by
  have := congrArg (fun b : ByteArray => b.data.toList) h
  simpa [ofT] using this
/-- The value of a setting whose kind has a text, and is not the shared key. -/
theorem val_text {s : S} (h : fld s.k = 1) (h6 : s.k ≠ 6) : val s = s.t := by
  unfold val
  rw [if_neg (by omega), if_neg ?_, if_neg ?_, if_neg (fun e => h6 e.1)]
  · intro e
    rw [e] at h
    exact absurd h (by decide)
  · rintro (e | e | e) <;> (rw [e] at h; exact absurd h (by decide))
theorem val_six {s : S} (h : s.k = 6) : val s = if s.t.size = 0 then zeros else s.t := by
  unfold val
  rw [h, show fld 6 = 1 from rfl, if_neg (by decide), if_neg (by decide), if_neg (by decide)]
  by_cases h0 : s.t.size = 0
  · rw [if_pos ⟨rfl, h0⟩, if_pos h0]
  · rw [if_neg (fun e => h0 e.2), if_neg h0]
theorem val_num {s : S} (h : fld s.k = 2) : val s = ofT (Lib.itoa s.n) := by unfold val; rw [if_pos h]
theorem val_net {s : S} (h : s.k = 10) : val s = ofT (Nt.textOut s.a s.b) := by
  unfold val
  rw [h, show fld 10 = 3 from rfl, if_neg (by decide), if_neg (by decide), if_pos rfl]
theorem net_text {a : Nat} {b : Int} (ha : a < 4294967296) (he : Nt.err a b = 0) : Nt.parAddr (Nt.textOut a b) = a ∧ (Nt.parBits (Nt.textOut a b) : Int) = b := by
  obtain ⟨h0, h1, _⟩ := Nt.err_zero he
  obtain ⟨n, rfl⟩ : ∃ n : Nat, b = (n : Int) := ⟨b.toNat, by omega⟩
  unfold Nt.textOut
  rw [if_pos he, Int.toNat_natCast]
  obtain ⟨_, p2, p3⟩ := Nt.par_text ha (by omega) he
  rw [p2, p3]
  exact ⟨rfl, rfl⟩
set_option maxHeartbeats 1000000 in
/-- A kind's settings are told apart by the values of their lines. -/
theorem val_inj {s c : S} (hs : err s = 0) (hc : err c = 0) (hk : s.k = c.k) (ha : s.a < 4294967296) (hca : c.a < 4294967296) (hv : val s = val c) : s = c := by
  obtain ⟨f1, f4, f6, f7, f2, f8, f10, f3, f5, f9⟩ := fld_vals
  obtain ⟨hs1, hs2⟩ := err_in hs
  obtain ⟨hc1, hc2⟩ := err_in hc
  obtain ⟨a1, a2, a3⟩ := more_of hs2
  obtain ⟨b1, b2, b3⟩ := more_of hc2
  obtain ⟨r1, r2, r3⟩ := err_rest hs
  obtain ⟨q1, q2, q3⟩ := err_rest hc
  rw [← hk] at b1 b2 b3 q1 q2 q3
  obtain ⟨k, t, n, a, b⟩ := s
  obtain ⟨k', t', n', a', b'⟩ := c
  simp only at hk hs1 a1 a2 a3 b1 b2 b3 r1 r2 r3 q1 q2 q3 ha hca
  subst hk
  have key : t = t' ∧ n = n' ∧ a = a' ∧ b = b' := by
    have hf : fld k = 0 ∨ fld k = 1 ∨ fld k = 2 ∨ fld k = 3 := by
      rcases fld_cases k hs1.1 hs1.2 with rfl | rfl | rfl | rfl | rfl | rfl | rfl | rfl | rfl | rfl <;> decide
    rcases hf with hf | hf | hf | hf
    · refine ⟨?_, by omega, by omega, by omega⟩
      rw [empty_of (t := t) (by omega), empty_of (t := t') (by omega)]
    · refine ⟨?_, by omega, by omega, by omega⟩
      by_cases h6 : k = 6
      · rw [val_six (s := ⟨k, t, n, a, b⟩) h6, val_six (s := ⟨k, t', n', a', b'⟩) h6] at hv
        simp only at hv
        by_cases h0 : t.size = 0
        · by_cases h0' : t'.size = 0
          · rw [empty_of h0, empty_of h0']
          · rw [if_pos h0, if_neg h0'] at hv
            exact absurd hv.symm (q3 h6 h0')
        · by_cases h0' : t'.size = 0
          · rw [if_neg h0, if_pos h0'] at hv
            exact absurd hv (r3 h6 h0)
          · rw [if_neg h0, if_neg h0'] at hv
            exact hv
      · rw [val_text (s := ⟨k, t, n, a, b⟩) hf h6, val_text (s := ⟨k, t', n', a', b'⟩) hf h6] at hv
        exact hv
    · rw [val_num (s := ⟨k, t, n, a, b⟩) hf, val_num (s := ⟨k, t', n', a', b'⟩) hf] at hv
      refine ⟨?_, itoa_inj (r1 hf).1 (q1 hf).1 (ofT_inj hv), by omega, by omega⟩
      rw [empty_of (t := t) (by omega), empty_of (t := t') (by omega)]
    · have h10 : k = 10 := by
        rcases fld_cases k hs1.1 hs1.2 with rfl | rfl | rfl | rfl | rfl | rfl | rfl | rfl | rfl | rfl <;> first | rfl | (exact absurd hf (by decide))
      rw [val_net (s := ⟨k, t, n, a, b⟩) h10, val_net (s := ⟨k, t', n', a', b'⟩) h10] at hv
      have hv' := ofT_inj hv
      simp only at hv'
      have ht : t = t' := by rw [empty_of (t := t) (by omega), empty_of (t := t') (by omega)]
      have hn : n = n' := by omega
      obtain ⟨p1, p2⟩ := net_text ha (r2 hf)
      obtain ⟨p3, p4⟩ := net_text hca (q2 hf)
      rw [hv'] at p1 p2
      exact ⟨ht, hn, p1.symm.trans p3, p2.symm.trans p4⟩
  obtain ⟨rfl, rfl, rfl, rfl⟩ := key
  rfl
/-- A setting is among the candidates of its line. -/
theorem cand_mem {s : S} (hs : err s = 0) (ha : s.a < 4294967296) : s ∈ cands s.k.toNat (val s) := by
  obtain ⟨f1, f4, f6, f7, f2, f8, f10, f3, f5, f9⟩ := fld_vals
  obtain ⟨hs1, hs2⟩ := err_in hs
  obtain ⟨a1, a2, a3⟩ := more_of hs2
  obtain ⟨r1, r2, r3⟩ := err_rest hs
  have hkk : ((s.k.toNat : Nat) : Int) = s.k := by omega
  unfold cands
  rw [hkk]
  simp only [List.mem_cons, List.not_mem_nil, or_false]
  have hf : fld s.k = 0 ∨ fld s.k = 1 ∨ fld s.k = 2 ∨ fld s.k = 3 := by
    rcases fld_cases s.k hs1.1 hs1.2 with h | h | h | h | h | h | h | h | h | h <;> rw [h] <;> decide
  have ht : fld s.k ≠ 1 → s.t = ⟨#[]⟩ := fun h => empty_of (by omega)
  rcases hf with hf | hf | hf | hf
  · left
    have e1 := ht (by omega)
    obtain ⟨k, t, n, a, b⟩ := s
    simp only at *
    rw [e1]
    congr 1 <;> omega
  · by_cases h6 : s.k = 6
    · by_cases h0 : s.t.size = 0
      · left
        have e1 := empty_of h0
        obtain ⟨k, t, n, a, b⟩ := s
        simp only at *
        rw [e1]
        congr 1 <;> omega
      · right; left
        rw [val_six h6, if_neg h0]
        obtain ⟨k, t, n, a, b⟩ := s
        simp only at *
        congr 1 <;> omega
    · right; left
      rw [val_text hf h6]
      obtain ⟨k, t, n, a, b⟩ := s
      simp only at *
      congr 1 <;> omega
  · right; right; left
    have e1 := ht (by omega)
    have e2 := num_itoa (r1 hf).1 (r1 hf).2
    rw [val_num hf]
    show s = ⟨s.k, ⟨#[]⟩, (Ad.numOut (Lib.itoa s.n) 65535 : Int), 0, 0⟩
    rw [e2]
    obtain ⟨k, t, n, a, b⟩ := s
    simp only at *
    rw [e1]
    congr 1 <;> omega
  · right; right; right
    have h10 : s.k = 10 := by
      rcases fld_cases s.k hs1.1 hs1.2 with h | h | h | h | h | h | h | h | h | h <;> first | exact h | (rw [h] at hf; exact absurd hf (by decide))
    have e1 := ht (by omega)
    obtain ⟨e2, e3⟩ := net_text ha (r2 hf)
    rw [val_net h10]
    show s = ⟨s.k, ⟨#[]⟩, 0, Nt.parAddr (Nt.textOut s.a s.b), (Nt.parBits (Nt.textOut s.a s.b) : Int)⟩
    rw [e2, e3]
    obtain ⟨k, t, n, a, b⟩ := s
    simp only at *
    rw [e1]
    congr 1 <;> omega
/-- Reading the line of a setting gives the setting. -/
theorem of_line {s : S} (hs : err s = 0) (ha : s.a < 4294967296) : ofLine (line s) = (s, 0) := by
  obtain ⟨hs1, hs2⟩ := err_in hs
  have hl : line s = lineOf s := by unfold line; rw [if_pos hs]
  have hkk : kindOf (lineOf s).k = s.k.toNat := kind_of_name _ (by omega) (by omega)
  unfold ofLine
  rw [hl, hkk, if_neg (by omega)]
  have hv : (lineOf s).v = val s := rfl
  rw [hv]
  have hm := cand_mem hs ha
  have hfs : fits (lineOf s) s = true := fits_ok hs hl
  unfold pick1
  cases hf : (cands s.k.toNat (val s)).find? (fits (lineOf s)) with
  | none =>
    have := List.find?_eq_none.1 hf s hm
    exact absurd hfs this
  | some x =>
    have hx := List.find?_some hf
    have hxm := List.mem_of_find?_eq_some hf
    unfold fits at hx
    obtain ⟨x1, x2⟩ := of_decide_eq_true hx
    have hxl : line x = lineOf x := by unfold line; rw [if_pos x1]
    have hxk : x.k = ((s.k.toNat : Nat) : Int) := by
      unfold cands at hxm
      simp only [List.mem_cons, List.not_mem_nil, or_false] at hxm
      rcases hxm with rfl | rfl | rfl | rfl <;> rfl
    have hxa : x.a < 4294967296 := by
      have hp := (par_lt (val s).data.toList).1
      unfold cands at hxm
      simp only [List.mem_cons, List.not_mem_nil, or_false] at hxm
      rcases hxm with rfl | rfl | rfl | rfl
      · show (0 : Nat) < _; omega
      · show (0 : Nat) < _; omega
      · show (0 : Nat) < _; omega
      · exact hp
    have e : x = s := val_inj x1 hs (by omega) hxa ha (by
      rw [hxl] at x2
      exact congrArg Ln.L.v x2)
    rw [e]
end Go.Proofs.YthlagpmacnijfaaDoor.Bt
