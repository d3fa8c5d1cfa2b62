/- Decoding is the inverse of encoding, over lists of bytes; nothing of the program is named here. -/
import Derived.Test.YtfgkodgdoplpbabWirePlain
namespace Go.Proofs.Ytfgkodgdoplpbab.Wr

theorem enc_split (k s r c : Nat) (b : List UInt8) : enc k s r c b = UInt8.ofNat k :: 0 :: 0 :: 0 :: (leL s (szS k) ++ (leL r (szR k) ++ (leL c (szC k) ++ b))) := by
  simp [enc]
theorem nat_known {k : Nat} (h : Known (k : Int)) : k = 1 ∨ k = 2 ∨ k = 4 := by unfold Known at h; omega
theorem enc_fits {k s r c : Nat} (h : Known (k : Int)) (h1 : ¬ Lacks k s r c) (h2 : ¬ Off s r c) : s < 256 ^ szS k ∧ r < 256 ^ szR k ∧ c < 256 ^ szC k ∧ c < 9223372036854775808 := by
  unfold Lacks at h1
  unfold Off at h2
  have p4 : (256 : Nat) ^ 4 = 4294967296 := by decide
  have p8 : (256 : Nat) ^ 8 = 18446744073709551616 := by decide
  have p0 : (256 : Nat) ^ 0 = 1 := rfl
  rcases nat_known h with rfl | rfl | rfl
  · rw [show szS 1 = 4 from rfl, show szR 1 = 0 from rfl, show szC 1 = 0 from rfl, p4, p0]; omega
  · rw [show szS 2 = 4 from rfl, show szR 2 = 4 from rfl, show szC 2 = 0 from rfl, p4, p0]; omega
  · rw [show szS 4 = 0 from rfl, show szR 4 = 4 from rfl, show szC 4 = 8 from rfl, p4, p0, p8]; omega
theorem kd_enc {k s r c : Nat} (h : Known (k : Int)) (b : List UInt8) : kd (enc k s r c b) = k := by
  rw [enc_split]
  show (UInt8.ofNat k).toNat = k
  rw [UInt8.toNat_ofNat']
  rcases nat_known h with rfl | rfl | rfl <;> rfl
theorem zeros_enc (k s r c : Nat) (b : List UInt8) : ¬ ((enc k s r c b).getD 1 0 ≠ 0 ∨ (enc k s r c b).getD 2 0 ≠ 0 ∨ (enc k s r c b).getD 3 0 ≠ 0) := by
  rw [enc_split]
  rintro (h | h | h) <;> exact h rfl
theorem drop4_enc (k s r c : Nat) (b : List UInt8) : (enc k s r c b).drop 4 = leL s (szS k) ++ (leL r (szR k) ++ (leL c (szC k) ++ b)) := by
  rw [enc_split]; rfl
theorem enc_fields {k s r c : Nat} (h : Known (k : Int)) (h1 : ¬ Lacks k s r c) (h2 : ¬ Off s r c) (b : List UInt8) :
    rs (enc k s r c b) = s ∧ rr (enc k s r c b) = r ∧ rc (enc k s r c b) = (c : Int) ∧ rb (enc k s r c b) = b := by
  obtain ⟨f1, f2, f3, f4⟩ := enc_fits h h1 h2
  have d5 : (enc k s r c b).drop (4 + szS k) = leL r (szR k) ++ (leL c (szC k) ++ b) := by
    rw [← List.drop_drop, drop4_enc, List.drop_left' (leL_length _ _)]
  have d6 : (enc k s r c b).drop (4 + szS k + szR k) = leL c (szC k) ++ b := by
    rw [← List.drop_drop, d5, List.drop_left' (leL_length _ _)]
  have d7 : (enc k s r c b).drop (head k) = b := by
    unfold head
    rw [← List.drop_drop, d6, List.drop_left' (leL_length _ _)]
  refine ⟨?_, ?_, ?_, ?_⟩
  · unfold rs
    rw [kd_enc h, drop4_enc, List.take_left' (leL_length _ _), num_leL _ _ f1]
  · unfold rr
    rw [kd_enc h, d5, List.take_left' (leL_length _ _), num_leL _ _ f2]
  · unfold rc rn
    rw [kd_enc h, d6, List.take_left' (leL_length _ _), num_leL _ _ f3]
    exact if_pos f4
  · unfold rb
    rw [kd_enc h, d7]
/-- What Decode says of encoded numbers with any body. -/
theorem dec_enc_err {k s r c : Nat} (h : Known (k : Int)) (h1 : ¬ Lacks k s r c) (h2 : ¬ Off s r c) (b : List UInt8) : decErr (enc k s r c b) = err k s r c b.length := by
  obtain ⟨e1, e2, e3, e4⟩ := enc_fields h h1 h2 b
  have hl := enc_length k s r c b
  have h4 : 4 ≤ head k := by unfold head; omega
  unfold decErr
  rw [if_neg (by omega), kd_enc h, if_neg (by simpa using h), if_neg (zeros_enc k s r c b), if_neg (by omega), e1, e2, e3, e4]
theorem dec_enc {k s r c : Nat} {b : List UInt8} (he : err k s r c b.length = 0) : decErr (enc k s r c b) = 0 ∧ dk (enc k s r c b) = k ∧ ds (enc k s r c b) = s ∧ dr (enc k s r c b) = r ∧ dc (enc k s r c b) = c ∧ db (enc k s r c b) = b := by
  obtain ⟨h, h1, h2, _, _⟩ := err_zero.1 he
  have hd : decErr (enc k s r c b) = 0 := (dec_enc_err h h1 h2 b).trans he
  obtain ⟨e1, e2, e3, e4⟩ := enc_fields h h1 h2 b
  refine ⟨hd, ?_, ?_, ?_, ?_, ?_⟩
  · unfold dk; rw [if_pos hd, kd_enc h]
  · unfold ds; rw [if_pos hd, e1]
  · unfold dr; rw [if_pos hd, e2]
  · unfold dc; rw [if_pos hd, e3]
  · unfold db; rw [if_pos hd, e4]
/-- A head that is cut is too short. -/
theorem dec_cut {k s r c : Nat} (h : Known (k : Int)) (b : List UInt8) (m : Nat) (hm : m < 8) : decErr ((enc k s r c b).take m) = 8 := by
  have hl := enc_length k s r c b
  have h8 : 8 ≤ head k := by rcases nat_known h with rfl | rfl | rfl <;> decide
  have hm2 : ((enc k s r c b).take m).length = m := by rw [List.length_take]; omega
  unfold decErr
  by_cases h4 : m < 4
  · rw [if_pos (by omega)]
  · have hg : ∀ i, i < 4 → ((enc k s r c b).take m).getD i 0 = (enc k s r c b).getD i 0 := fun i hi => by
      rw [List.getD_eq_getElem?_getD, List.getD_eq_getElem?_getD, List.getElem?_take, if_pos (by omega)]
    have hk : kd ((enc k s r c b).take m) = k := by
      have := kd_enc (s := s) (r := r) (c := c) h b
      unfold kd at this ⊢
      rw [hg 0 (by decide)]
      exact this
    rw [if_neg (by omega), hk, if_neg (by simpa using h), hg 1 (by decide), hg 2 (by decide), hg 3 (by decide), if_neg (zeros_enc k s r c b), if_pos (by omega)]
/-- A hello or an answer with a byte more has the wrong size. -/
theorem dec_more {k s r c : Nat} {b : List UInt8} (he : err k s r c b.length = 0) (hk : k ≠ 4) : decErr (enc k s r c b ++ [0]) = 1 := by
  obtain ⟨h, h1, h2, h3, h4⟩ := err_zero.1 he
  have e : enc k s r c b ++ [0] = enc k s r c (b ++ [0]) := by simp [enc]
  rw [e, dec_enc_err h h1 h2]
  unfold err
  rw [if_neg (by simpa using h), if_neg h1, if_neg h2, if_pos]
  rw [Int.toNat_natCast] at *
  rcases nat_known h with rfl | rfl | rfl
  · simp [least, most] at *; omega
  · simp [least, most] at *; omega
  · exact absurd rfl hk
/-- What Decode accepts is what is encoded so. -/
theorem enc_dec {l : List UInt8} (hd : decErr l = 0) : err (dk l) (ds l) (dr l) (dc l) (db l).length = 0 ∧ encOut (dk l) (ds l) (dr l) (dc l) (db l) = l := by
  have hd0 := hd
  unfold decErr at hd0
  by_cases h4 : l.length < 4
  · rw [if_pos h4] at hd0; cases hd0
  rw [if_neg h4] at hd0
  by_cases hk : Known (kd l)
  · rw [if_neg (by simpa using hk)] at hd0
    by_cases hz : l.getD 1 0 ≠ 0 ∨ l.getD 2 0 ≠ 0 ∨ l.getD 3 0 ≠ 0
    · rw [if_pos hz] at hd0; cases hd0
    rw [if_neg hz] at hd0
    by_cases hh : l.length < head (kd l)
    · rw [if_pos hh] at hd0; cases hd0
    rw [if_neg hh] at hd0
    have e1 : dk l = kd l := if_pos hd
    have e2 : ds l = rs l := if_pos hd
    have e3 : dr l = rr l := if_pos hd
    have e4 : dc l = rc l := if_pos hd
    have e5 : db l = rb l := if_pos hd
    rw [e1, e2, e3, e4, e5]
    refine ⟨hd0, ?_⟩
    obtain ⟨_, _, hoff, _, _⟩ := err_zero.1 hd0
    have hc0 : 0 ≤ rc l := by unfold Off at hoff; omega
    have hrn : rc l = (rn l : Int) := by
      unfold rc sgn at hc0 ⊢
      by_cases hx : rn l < 9223372036854775808
      · rw [if_pos hx]
      · rw [if_neg hx] at hc0
        exfalso
        have h1 := num_lt ((l.drop (4 + szS (kd l) + szR (kd l))).take (szC (kd l)))
        have h2 : 256 ^ ((l.drop (4 + szS (kd l) + szR (kd l))).take (szC (kd l))).length ≤ 256 ^ 8 := Nat.pow_le_pow_right (by decide) (by
          rw [List.length_take]
          have : szC (kd l) ≤ 8 := by unfold szC; split <;> omega
          omega)
        have h3 : (256 : Nat) ^ 8 = 18446744073709551616 := by decide
        have h4 : rn l < 18446744073709551616 := by unfold rn; omega
        omega
    unfold encOut
    rw [if_pos hd0, hrn, Int.toNat_natCast, Int.toNat_natCast, Int.toNat_natCast, Int.toNat_natCast]
    have hlen : head (kd l) ≤ l.length := by omega
    have hhd : head (kd l) = 4 + szS (kd l) + szR (kd l) + szC (kd l) := rfl
    have l1 : leL (rs l) (szS (kd l)) = (l.drop 4).take (szS (kd l)) := by
      have := leL_num ((l.drop 4).take (szS (kd l)))
      rw [List.length_take, List.length_drop, Nat.min_eq_left (by omega)] at this
      exact this
    have l2 : leL (rr l) (szR (kd l)) = (l.drop (4 + szS (kd l))).take (szR (kd l)) := by
      have := leL_num ((l.drop (4 + szS (kd l))).take (szR (kd l)))
      rw [List.length_take, List.length_drop, Nat.min_eq_left (by omega)] at this
      exact this
    have l3 : leL (rn l) (szC (kd l)) = (l.drop (4 + szS (kd l) + szR (kd l))).take (szC (kd l)) := by
      have := leL_num ((l.drop (4 + szS (kd l) + szR (kd l))).take (szC (kd l)))
      rw [List.length_take, List.length_drop, Nat.min_eq_left (by omega)] at this
      exact this
    have hfirst : UInt8.ofNat (kd l) :: 0 :: 0 :: 0 :: l.drop 4 = l := by
      obtain ⟨a, b, c, d, m, rfl⟩ : ∃ a b c d m, l = a :: b :: c :: d :: m := by
        match l, h4 with
        | a :: b :: c :: d :: m, _ => exact ⟨a, b, c, d, m, rfl⟩
        | [], h => exact absurd (by decide) h
        | [_], h => exact absurd (by simp) h
        | [_, _], h => exact absurd (by simp) h
        | [_, _, _], h => exact absurd (by simp) h
      have hb : b = 0 := Classical.not_not.1 fun e => hz (.inl e)
      have hc : c = 0 := Classical.not_not.1 fun e => hz (.inr (.inl e))
      have hd' : d = 0 := Classical.not_not.1 fun e => hz (.inr (.inr e))
      subst hb hc hd'
      have ha : UInt8.ofNat (kd (a :: 0 :: 0 :: 0 :: m)) = a := by
        apply UInt8.toNat_inj.1
        rw [UInt8.toNat_ofNat']
        have := a.toNat_lt
        show a.toNat % _ = _
        omega
      rw [ha]
      rfl
    rw [enc_split, l1, l2, l3]
    unfold rb
    have t3 : (l.drop (4 + szS (kd l) + szR (kd l))).take (szC (kd l)) ++ l.drop (head (kd l)) = l.drop (4 + szS (kd l) + szR (kd l)) := by
      rw [hhd, ← List.drop_drop (i := szC (kd l)), List.take_append_drop]
    have t2 : (l.drop (4 + szS (kd l))).take (szR (kd l)) ++ l.drop (4 + szS (kd l) + szR (kd l)) = l.drop (4 + szS (kd l)) := by
      rw [← List.drop_drop (i := szR (kd l)), List.take_append_drop]
    have t1 : (l.drop 4).take (szS (kd l)) ++ l.drop (4 + szS (kd l)) = l.drop 4 := by
      rw [← List.drop_drop (i := szS (kd l)), List.take_append_drop]
    rw [t3, t2, t1, hfirst]
  · rw [if_pos hk] at hd0; cases hd0
end Go.Proofs.Ytfgkodgdoplpbab.Wr
