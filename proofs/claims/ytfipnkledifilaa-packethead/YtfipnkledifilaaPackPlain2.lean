/- The plain words of chapter 9, more: an encoded packet with one changed byte in its head is no encoding. -/
import Derived.Test.YtfipnkledifilaaPackPlain
import Derived.Test.YtfipnkledifilaaKeepTurned
namespace Go.Proofs.Ytfipnkledifilaa.Pk
open Go.Proofs.Ytfipnkledifilaa

theorem bsum_same (l m : List UInt8) : ∀ k, (∀ q, q < k → l.getD q 0 = m.getD q 0) → bsum l k = bsum m k
  | 0, _ => rfl
  | k + 1, h => by
    unfold bsum
    rw [bsum_same l m k (fun q hq => h q (by omega)), h k (by omega)]
def wt (p : Nat) : Nat := if p % 2 = 0 then 256 else 1
theorem bsum_one (l m : List UInt8) (p : Nat) : ∀ k, p < k → (∀ q, q < k → q ≠ p → l.getD q 0 = m.getD q 0) → bsum m k + wt p * (l.getD p 0).toNat = bsum l k + wt p * (m.getD p 0).toNat
  | 0, h, _ => absurd h (by omega)
  | k + 1, h, hs => by
    by_cases hk : p = k
    · subst hk
      have e := bsum_same l m p (fun q hq => hs q (by omega) (by omega))
      unfold bsum wt
      rw [e]
      by_cases h2 : p % 2 = 0
      · rw [if_pos h2, if_pos h2, if_pos h2]; omega
      · rw [if_neg h2, if_neg h2, if_neg h2]; omega
    · have ih := bsum_one l m p k (by omega) (fun q hq hp => hs q (by omega) hp)
      unfold bsum
      rw [hs k (by omega) (fun e => hk e.symm)]
      generalize bsum m k = X at *
      generalize bsum l k = Y at *
      generalize wt p * (l.getD p 0).toNat = Z at *
      generalize wt p * (m.getD p 0).toNat = U at *
      omega
theorem ten (q : Nat) (h : q < 10) : q = 0 ∨ q = 1 ∨ q = 2 ∨ q = 3 ∨ q = 4 ∨ q = 5 ∨ q = 6 ∨ q = 7 ∨ q = 8 ∨ q = 9 := by omega
theorem head_lo (n s d c s' d' c' q : Nat) (h : q < 10) : (head n s d c).getD q 0 = (head n s' d' c').getD q 0 := by
  rcases ten q h with rfl | rfl | rfl | rfl | rfl | rfl | rfl | rfl | rfl | rfl <;> rfl
theorem head_hi (n s d c c' q : Nat) (h : 12 ≤ q) (h2 : q < 20) : (head n s d c).getD q 0 = (head n s d c').getD q 0 := by
  have : q = 12 ∨ q = 13 ∨ q = 14 ∨ q = 15 ∨ q = 16 ∨ q = 17 ∨ q = 18 ∨ q = 19 := by omega
  rcases this with rfl | rfl | rfl | rfl | rfl | rfl | rfl | rfl <;> rfl
theorem head_mid (n s d c : Nat) : (head n s d c).getD 10 0 = UInt8.ofNat (c / 256) ∧ (head n s d c).getD 11 0 = UInt8.ofNat c := ⟨rfl, rfl⟩
theorem a4_head (n s d c : Nat) (hs : s < 4294967296) (hd : d < 4294967296) : a4 (head n s d c) 12 = s ∧ a4 (head n s d c) 16 = d := by
  constructor
  · simp [a4, head, w4, w2, Nat.div_div_eq_div_mul]; omega
  · simp [a4, head, w4, w2, Nat.div_div_eq_div_mul]; omega
theorem ck_le (n s d : Nat) : ck n s d ≤ 65535 := by unfold ck; omega
theorem sum_pos (n s d : Nat) : 0 < sum n s d := by
  show 0 < bsum (head n s d 0) (19 + 1)
  have h : ∀ k, 0 < bsum (head n s d 0) (k + 1) := by
    intro k
    induction k with
    | zero => show 0 < 0 + _; rw [if_pos rfl]; show 0 < 0 + 256 * (69 : UInt8).toNat; decide
    | succ k ih => unfold bsum; omega
  exact h 19
theorem ck_mod (n s d s' d' : Nat) (h : ck n s d = ck n s' d') : sum n s d % 65535 = sum n s' d' % 65535 := by
  have h1 := fold_le (sum n s d) (sum_le n s d)
  have h2 := fold_le (sum n s' d') (sum_le n s' d')
  unfold ck at h
  rw [← fold_mod (sum n s d), ← fold_mod (sum n s' d'), show fold (sum n s d) = fold (sum n s' d') by omega]
theorem set_getD (l : List UInt8) (p q : Nat) (z : UInt8) (hp : p < l.length) : (l.set p z).getD q 0 = if q = p then z else l.getD q 0 := by
  rw [List.getD_eq_getElem?_getD, List.getD_eq_getElem?_getD]
  by_cases h : q = p
  · subst h; rw [if_pos rfl, List.getElem?_set_self hp]; rfl
  · rw [if_neg h, List.getElem?_set_ne (fun e => h e.symm)]
/-- One changed byte of a head is found out. -/
theorem head_set (n s d s' d' p : Nat) (z : UInt8) (hs : s < 4294967296) (hd : d < 4294967296) (hs' : s' < 4294967296) (hd' : d' < 4294967296) (hp : p < 20)
    (e : head n s' d' (ck n s' d') = (head n s d (ck n s d)).set p z) : z = (head n s d (ck n s d)).getD p 0 := by
  have hq : ∀ q, (head n s' d' (ck n s' d')).getD q 0 = if q = p then z else (head n s d (ck n s d)).getD q 0 := by
    intro q; rw [e, set_getD _ _ _ _ (by rw [head_length]; exact hp)]
  by_cases h12 : p < 12
  · have ea : s' = s := by
      rw [← (a4_head n s' d' (ck n s' d') hs' hd').1, ← (a4_head n s d (ck n s d) hs hd).1]
      unfold a4
      rw [hq 12, hq (12 + 1), hq (12 + 2), hq (12 + 3), if_neg (by omega), if_neg (by omega), if_neg (by omega), if_neg (by omega)]
    have ed : d' = d := by
      rw [← (a4_head n s' d' (ck n s' d') hs' hd').2, ← (a4_head n s d (ck n s d) hs hd).2]
      unfold a4
      rw [hq 16, hq (16 + 1), hq (16 + 2), hq (16 + 3), if_neg (by omega), if_neg (by omega), if_neg (by omega), if_neg (by omega)]
    have := hq p
    rw [if_pos rfl, ea, ed] at this
    exact this.symm
  · have h10 := hq 10
    have h11 := hq 11
    rw [if_neg (by omega), (head_mid _ _ _ _).1, (head_mid _ _ _ _).1] at h10
    rw [if_neg (by omega), (head_mid _ _ _ _).2, (head_mid _ _ _ _).2] at h11
    have k10 := congrArg UInt8.toNat h10
    have k11 := congrArg UInt8.toNat h11
    rw [byte_toNat, byte_toNat] at k10 k11
    have l1 := ck_le n s d
    have l2 := ck_le n s' d'
    have hc : ck n s d = ck n s' d' := by omega
    have hm := ck_mod n s d s' d' hc
    have hb := bsum_one (head n s d 0) (head n s' d' 0) p 20 hp (fun q hq20 hqp => by
      by_cases h1 : q < 10
      · exact head_lo n s d 0 s' d' 0 q h1
      · by_cases h2 : q < 12
        · have : q = 10 ∨ q = 11 := by omega
          rcases this with rfl | rfl <;> rfl
        · rw [head_hi n s d 0 (ck n s d) q (by omega) hq20, head_hi n s' d' 0 (ck n s' d') q (by omega) hq20, hq q, if_neg hqp])
    have hz : (head n s' d' 0).getD p 0 = z := by
      rw [head_hi n s' d' 0 (ck n s' d') p (by omega) hp, hq p, if_pos rfl]
    have ho : (head n s d 0).getD p 0 = (head n s d (ck n s d)).getD p 0 := head_hi n s d 0 (ck n s d) p (by omega) hp
    rw [hz, ho] at hb
    apply UInt8.toNat_inj.1
    have b1 := z.toNat_lt
    have b2 := ((head n s d (ck n s d)).getD p 0).toNat_lt
    change bsum (head n s d 0) 20 % 65535 = bsum (head n s' d' 0) 20 % 65535 at hm
    generalize bsum (head n s d 0) 20 = X at *
    generalize bsum (head n s' d' 0) 20 = Y at *
    generalize ((head n s d (ck n s d)).getD p 0).toNat = U at *
    generalize z.toNat = V at *
    unfold wt at hb
    split at hb <;> omega
theorem enc_take (s d : Nat) (b : List UInt8) : (enc s d b).take 20 = head b.length s d (ck b.length s d) := by
  unfold enc; rw [List.take_left' (head_length _ _ _ _)]
theorem turned_head (s d : Nat) (b : List UInt8) (at_ : Int) (by_ : UInt8) (hs : s < 4294967296) (hd : d < 4294967296) (hb : b.length ≤ 200) :
    decErr (turned ((enc s d b).take 20) at_ by_ ++ (enc s d b).drop 20) = 3 := by
  have hl : (turned ((enc s d b).take 20) at_ by_).length = 20 := by rw [turned_length, enc_take, head_length]
  rw [(enc_a4 s d b hs hd).2.2]
  have hdr : (turned ((enc s d b).take 20) at_ by_ ++ b).drop 20 = b := List.drop_left' hl
  rcases dec_cases (turned ((enc s d b).take 20) at_ by_ ++ b) with ⟨h, _⟩ | ⟨_, h, _⟩ | ⟨_, _, h, _⟩ | ⟨_, _, _, h⟩
  · rw [List.length_append, hl] at h; omega
  · rw [List.length_append, hl] at h; omega
  · exfalso
    rw [hdr] at h
    have e := congrArg (List.take 20) h
    rw [enc_take, List.take_left' hl] at e
    have hne := turned_ne ((enc s d b).take 20) at_ by_ (by rw [enc_take, head_length]; decide)
    apply hne
    rw [enc_take] at e ⊢
    have hp := pick_lt at_ 20 (by decide)
    have e2 := e
    unfold turned at e2
    rw [head_length] at e2
    have hz := head_set _ _ _ _ _ _ _ hs hd (a4_lt _ _) (a4_lt _ _) hp e2
    unfold turned
    rw [head_length, hz]
    apply List.ext_getElem?
    intro i
    by_cases hi : i = pick at_ 20
    · subst hi
      rw [List.getElem?_set_self (by rw [head_length]; exact hp), List.getD_eq_getElem?_getD, List.getElem?_eq_getElem (by rw [head_length]; exact hp)]
      rfl
    · rw [List.getElem?_set_ne (fun e => hi e.symm)]
  · exact h
end Go.Proofs.Ytfipnkledifilaa.Pk
