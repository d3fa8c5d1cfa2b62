/- The plain words of chapter 1 (hexadecimal digits): what the functions of package hex compute, over lists of bytes; nothing of the program is named here. -/
namespace Go.Proofs.YtjdflnnpamjjcaaDoor.Hx

def isDig (c : UInt8) : Bool := (48 ≤ c.toNat && c.toNat ≤ 57) || (97 ≤ c.toNat && c.toNat ≤ 102)
def digVal (c : UInt8) : Nat := if 48 ≤ c.toNat ∧ c.toNat ≤ 57 then c.toNat - 48 else if 97 ≤ c.toNat ∧ c.toNat ≤ 102 then c.toNat - 87 else 0
def dig (n : Nat) : UInt8 := UInt8.ofNat (if n ≤ 9 then 48 + n else 87 + n)
def two (x : UInt8) : List UInt8 := [dig (x.toNat / 16), dig (x.toNat % 16)]
def text (b : List UInt8) : List UInt8 := b.flatMap two
def join (a b : UInt8) : UInt8 := UInt8.ofNat (digVal a * 16 + digVal b)
def pairs : List UInt8 → List UInt8
  | a :: b :: r => join a b :: pairs r
  | _ => []
def bytesErr (s : List UInt8) : Nat := if 2000 < s.length then 1 else if s.length % 2 = 1 ∨ s.all isDig = false then 3 else 0
def bytes (s : List UInt8) : List UInt8 := if bytesErr s = 0 then pairs s else []
def checkErr (s : List UInt8) : Nat := if s.length ≠ 64 then 1 else if s.all isDig = false then 3 else 0

theorem digVal_lt (c : UInt8) : digVal c < 16 := by
  unfold digVal; split
  · omega
  · split <;> omega
theorem text_length (b : List UInt8) : (text b).length = 2 * b.length := by
  induction b with
  | nil => rfl
  | cons a b ih => simp [text, two] at ih ⊢; omega
theorem text_append (a b : List UInt8) : text (a ++ b) = text a ++ text b := by simp [text]
theorem pairs_length : ∀ s : List UInt8, (pairs s).length = s.length / 2
  | [] => rfl
  | [_] => by simp [pairs]
  | _ :: _ :: r => by simp [pairs, pairs_length r]; omega
theorem pairs_get : ∀ (s : List UInt8) (k : Nat) (h : 2 * k + 1 < s.length), (pairs s)[k]? = some (join s[2 * k] s[2 * k + 1])
  | [], k, h => by simp at h
  | [_], k, h => by simp at h
  | a :: b :: r, 0, h => by simp [pairs]
  | a :: b :: r, k + 1, h => by
    have h' : 2 * k + 1 < r.length := by simp at h; omega
    have := pairs_get r k h'
    simp [pairs, this, Nat.mul_add]

theorem dig_isDig : ∀ n : Nat, n < 16 → isDig (dig n) = true ∧ digVal (dig n) = n := by
  decide
theorem two_back (x : UInt8) : join (dig (x.toNat / 16)) (dig (x.toNat % 16)) = x := by
  unfold join
  have h := x.toNat_lt
  rw [(dig_isDig (x.toNat / 16) (by omega)).2, (dig_isDig (x.toNat % 16) (by omega)).2]
  apply UInt8.toNat.inj
  rw [UInt8.toNat_ofNat']
  omega
theorem text_all (b : List UInt8) : (text b).all isDig = true := by
  induction b with
  | nil => rfl
  | cons a b ih =>
    have h := a.toNat_lt
    simp only [text, List.flatMap_cons, two, List.cons_append, List.nil_append, List.all_cons, Bool.and_eq_true]
    exact ⟨(dig_isDig _ (by omega)).1, (dig_isDig _ (by omega)).1, ih⟩
theorem pairs_text (b : List UInt8) : pairs (text b) = b := by
  induction b with
  | nil => rfl
  | cons a b ih =>
    simp only [text, List.flatMap_cons, two, List.cons_append, List.nil_append, pairs, two_back]
    exact congrArg _ ih
theorem bytes_text (b : List UInt8) (h : b.length ≤ 1000) : bytesErr (text b) = 0 ∧ bytes (text b) = b := by
  have e : bytesErr (text b) = 0 := by
    unfold bytesErr
    rw [text_length, text_all]
    simp; omega
  exact ⟨e, by unfold bytes; rw [if_pos e, pairs_text]⟩
theorem dig_digVal (c : UInt8) (h : isDig c = true) : dig (digVal c) = c := by
  have hc := c.toNat_lt
  simp only [isDig, Bool.or_eq_true, Bool.and_eq_true, decide_eq_true_eq] at h
  apply UInt8.toNat.inj
  unfold dig digVal
  rw [UInt8.toNat_ofNat']
  rcases h with h | h
  · rw [if_pos h, if_pos (by omega)]; omega
  · have h0 : ¬ (48 ≤ c.toNat ∧ c.toNat ≤ 57) := by omega
    rw [if_neg h0, if_pos h, if_neg (by omega)]; omega
theorem two_join (a b : UInt8) (ha : isDig a = true) (hb : isDig b = true) : two (join a b) = [a, b] := by
  have h1 := digVal_lt a
  have h2 := digVal_lt b
  have e : (join a b).toNat = digVal a * 16 + digVal b := by
    unfold join; rw [UInt8.toNat_ofNat']; omega
  unfold two
  rw [e, show (digVal a * 16 + digVal b) / 16 = digVal a from by omega, show (digVal a * 16 + digVal b) % 16 = digVal b from by omega, dig_digVal a ha, dig_digVal b hb]
theorem text_pairs : ∀ s : List UInt8, s.length % 2 = 0 → s.all isDig = true → text (pairs s) = s
  | [], _, _ => rfl
  | [_], h, _ => by simp at h
  | a :: b :: r, h, hd => by
    simp only [List.all_cons, Bool.and_eq_true] at hd
    have := text_pairs r (by simp at h; omega) hd.2.2
    simp only [pairs, text, List.flatMap_cons, two_join a b hd.1 hd.2.1]
    exact congrArg (fun l => a :: b :: l) this
theorem text_bytes (s : List UInt8) (h : bytesErr s = 0) : text (bytes s) = s := by
  unfold bytes; rw [if_pos h]
  unfold bytesErr at h
  split at h
  · cases h
  · split at h
    · cases h
    · rename_i h1 h2
      exact text_pairs s (by omega) (by
        cases hx : s.all isDig
        · exact absurd (.inr hx) h2
        · rfl)
theorem bytes_err (s : List UInt8) (h : bytesErr s ≠ 0) : bytes s = [] := by unfold bytes; rw [if_neg h]

theorem text_get : ∀ (b : List UInt8) (k : Nat) (h : k / 2 < b.length), (text b)[k]? = some (dig (if k % 2 = 0 then b[k / 2].toNat / 16 else b[k / 2].toNat % 16))
  | [], k, h => by simp at h
  | a :: b, 0, h => by simp [text, two]
  | a :: b, 1, h => by simp [text, two]
  | a :: b, k + 2, h => by
    have h' : k / 2 < b.length := by simp at h; omega
    have := text_get b k h'
    have e : (k + 2) / 2 = k / 2 + 1 := by omega
    have e2 : (k + 2) % 2 = k % 2 := by omega
    simp only [e, e2, text, List.flatMap_cons, two, List.cons_append, List.nil_append, List.getElem?_cons_succ, List.getElem_cons_succ]
    exact this

/-- What has been gathered behind some digits: the pairs, and a lone digit's number. -/
def acc : List UInt8 → List UInt8
  | a :: b :: r => join a b :: acc r
  | [a] => [UInt8.ofNat (digVal a)]
  | [] => []
theorem acc_length : ∀ l : List UInt8, (acc l).length = (l.length + 1) / 2
  | [] => rfl
  | [_] => by simp [acc]
  | _ :: _ :: r => by simp [acc, acc_length r]; omega
theorem acc_even : ∀ l : List UInt8, l.length % 2 = 0 → acc l = pairs l
  | [], _ => rfl
  | [_], h => by simp at h
  | a :: b :: r, h => by simp [acc, pairs, acc_even r (by simp at h; omega)]
theorem acc_snoc_even : ∀ (l : List UInt8) (c : UInt8), l.length % 2 = 0 → acc (l ++ [c]) = acc l ++ [UInt8.ofNat (digVal c)]
  | [], c, _ => rfl
  | [_], c, h => by simp at h
  | a :: b :: r, c, h => by simp [acc, acc_snoc_even r c (by simp at h; omega)]
theorem acc_snoc_odd : ∀ (l : List UInt8) (c : UInt8), l.length % 2 = 1 → ∃ x : Nat, x < 16 ∧ (acc l)[l.length / 2]? = some (UInt8.ofNat x) ∧ acc (l ++ [c]) = (acc l).set (l.length / 2) (UInt8.ofNat (x * 16 + digVal c))
  | [], c, h => by simp at h
  | [a], c, _ => ⟨digVal a, digVal_lt a, by simp [acc], by simp [acc, join]⟩
  | a :: b :: r, c, h => by
    obtain ⟨x, h1, h2, h3⟩ := acc_snoc_odd r c (by simp at h; omega)
    have e : (a :: b :: r).length / 2 = r.length / 2 + 1 := by simp; omega
    refine ⟨x, h1, ?_, ?_⟩
    · rw [e]; simp only [acc, List.getElem?_cons_succ, h2]
    · rw [e]; simp only [acc, List.cons_append, h3, List.set_cons_succ]
end Go.Proofs.YtjdflnnpamjjcaaDoor.Hx
