/- The plain words of chapter 9 (packets), over lists of bytes; nothing of the program is named here. -/
import Derived.Test.YtfgkodgdoplpbabSealPlain
namespace Go.Proofs.Ytfgkodgdoplpbab.Pk

/-- A number as two bytes, as four. -/
def w2 (x : Nat) : List UInt8 := [UInt8.ofNat (x / 256), UInt8.ofNat x]
def w4 (x : Nat) : List UInt8 := w2 (x / 65536) ++ w2 x
theorem beL2 (x : Nat) : Sl.beL x 2 = w2 x := by
  simp [Sl.beL, w2, List.range_succ]
theorem beL4 (x : Nat) : Sl.beL x 4 = w4 x := by
  simp [Sl.beL, w4, w2, List.range_succ, Nat.div_div_eq_div_mul]
theorem w2_length (x : Nat) : (w2 x).length = 2 := rfl
theorem w4_length (x : Nat) : (w4 x).length = 4 := rfl
theorem byte_toNat (x : Nat) : (UInt8.ofNat x).toNat = x % 256 := UInt8.toNat_ofNat'
theorem w2_mod (x : Nat) : w2 (x % 65536) = w2 x := by
  unfold w2
  congr 1
  · apply UInt8.toNat_inj.1; rw [byte_toNat, byte_toNat]; omega
  · congr 1; apply UInt8.toNat_inj.1; rw [byte_toNat, byte_toNat]; omega

/-- The head of a packet with n bytes of data; c in the place of the checksum. -/
def head (n s d c : Nat) : List UInt8 := [69, 0] ++ w2 (20 + n) ++ [0, 0, 0, 0, 64, 253] ++ w2 c ++ (w4 s ++ w4 d)
theorem head_length (n s d c : Nat) : (head n s d c).length = 20 := rfl
/-- The sum of the first k bytes, those at even places counted 256 times. -/
def bsum (l : List UInt8) : Nat → Nat
  | 0 => 0
  | k + 1 => bsum l k + (if k % 2 = 0 then 256 * (l.getD k 0).toNat else (l.getD k 0).toNat)
theorem bsum_two (l : List UInt8) (k : Nat) (h : k % 2 = 0) : bsum l (k + 2) = bsum l k + (256 * (l.getD k 0).toNat + (l.getD (k + 1) 0).toNat) := by
  show bsum l k + _ + _ = _
  rw [if_pos h, if_neg (by omega), Nat.add_assoc]
theorem bsum_le (l : List UInt8) : ∀ k, bsum l k ≤ 65280 * k
  | 0 => Nat.le_refl _
  | k + 1 => by
    have := bsum_le l k
    have hb := (l.getD k 0).toNat_lt
    unfold bsum
    by_cases h : k % 2 = 0
    · rw [if_pos h]; omega
    · rw [if_neg h]; omega
def sum (n s d : Nat) : Nat := bsum (head n s d 0) 20
theorem sum_eq (n s d : Nat) (hn : n ≤ 200) (hs : s < 4294967296) (hd : d < 4294967296) : sum n s d = 34321 + n + s / 65536 + s % 65536 + d / 65536 + d % 65536 := by
  simp [sum, bsum, head, w4, w2, Nat.div_div_eq_div_mul]
  omega
/-- The folding of a sum. -/
def once (x : Nat) : Nat := if 65535 < x then x % 65536 + x / 65536 else x
def fold (x : Nat) : Nat := once (once x)
theorem once_le (x : Nat) (h : x ≤ 1305600) : once x ≤ 65555 := by
  unfold once; split <;> omega
theorem once_le2 (x : Nat) (h : x ≤ 65555) : once x ≤ 65535 := by
  unfold once; split <;> omega
theorem once_id (x : Nat) (h : x ≤ 65535) : once x = x := by unfold once; rw [if_neg (by omega)]
theorem fold_small (x : Nat) (h : x ≤ 65535) : fold x = x := by
  unfold fold; rw [once_id x h, once_id x h]
theorem fold_step (x : Nat) (h : 65535 < x) (h2 : x ≤ 1305600) : fold (x % 65536 + x / 65536) = fold x := by
  have e : x % 65536 + x / 65536 = once x := by unfold once; rw [if_pos h]
  rw [e]
  unfold fold
  rw [once_id (once (once x)) (once_le2 _ (once_le x h2))]
theorem fold_le (x : Nat) (h2 : x ≤ 1305600) : fold x ≤ 65535 := once_le2 _ (once_le x h2)
theorem once_pos (x : Nat) (h : 0 < x) : 0 < once x := by unfold once; split <;> omega
theorem once_mod (x : Nat) : once x % 65535 = x % 65535 := by unfold once; split <;> omega
theorem fold_mod (x : Nat) : fold x % 65535 = x % 65535 := by unfold fold; rw [once_mod, once_mod]
theorem fold_pos (x : Nat) (h : 0 < x) : 0 < fold x := once_pos _ (once_pos _ h)

def ck (n s d : Nat) : Nat := 65535 - fold (sum n s d)
theorem sum_le (n s d : Nat) : sum n s d ≤ 1305600 := bsum_le _ 20
def enc (s d : Nat) (data : List UInt8) : List UInt8 := head data.length s d (ck data.length s d) ++ data
theorem enc_length (s d : Nat) (data : List UInt8) : (enc s d data).length = 20 + data.length := by simp [enc, head_length]
def encErr (n : Nat) : Nat := if 200 < n then 1 else 0
def encOut (s d : Nat) (data : List UInt8) : List UInt8 := if 200 < data.length then [] else enc s d data

/-- Four bytes from place i on, as a number. -/
def a4 (l : List UInt8) (i : Nat) : Nat := (((l.getD i 0).toNat * 256 + (l.getD (i + 1) 0).toNat) * 256 + (l.getD (i + 2) 0).toNat) * 256 + (l.getD (i + 3) 0).toNat
theorem a4_lt (l : List UInt8) (i : Nat) : a4 l i < 4294967296 := by
  have h0 := (l.getD i 0).toNat_lt
  have h1 := (l.getD (i + 1) 0).toNat_lt
  have h2 := (l.getD (i + 2) 0).toNat_lt
  have h3 := (l.getD (i + 3) 0).toNat_lt
  unfold a4; omega
def decErr (l : List UInt8) : Nat := if l.length < 20 then 8 else if 220 < l.length then 1 else if enc (a4 l 12) (a4 l 16) (l.drop 20) = l then 0 else 3
def src (l : List UInt8) : Nat := if decErr l = 0 then a4 l 12 else 0
def dst (l : List UInt8) : Nat := if decErr l = 0 then a4 l 16 else 0
def data (l : List UInt8) : List UInt8 := if decErr l = 0 then l.drop 20 else []

theorem enc_a4 (s d : Nat) (b : List UInt8) (hs : s < 4294967296) (hd : d < 4294967296) : a4 (enc s d b) 12 = s ∧ a4 (enc s d b) 16 = d ∧ (enc s d b).drop 20 = b := by
  refine ⟨?_, ?_, ?_⟩
  · simp [a4, enc, head, w4, w2, Nat.div_div_eq_div_mul]; omega
  · simp [a4, enc, head, w4, w2, Nat.div_div_eq_div_mul]; omega
  · unfold enc; rw [List.drop_left' (head_length _ _ _ _)]
/-- Decoding is the inverse of encoding. -/
theorem dec_enc (s d : Nat) (b : List UInt8) (hs : s < 4294967296) (hd : d < 4294967296) (hb : b.length ≤ 200) : decErr (enc s d b) = 0 ∧ src (enc s d b) = s ∧ dst (enc s d b) = d ∧ data (enc s d b) = b := by
  obtain ⟨h1, h2, h3⟩ := enc_a4 s d b hs hd
  have he : decErr (enc s d b) = 0 := by
    unfold decErr
    rw [enc_length, if_neg (by omega), if_neg (by omega), h1, h2, h3, if_pos rfl]
  exact ⟨he, by unfold src; rw [if_pos he, h1], by unfold dst; rw [if_pos he, h2], by unfold data; rw [if_pos he, h3]⟩
theorem dec_ok (l : List UInt8) (h : decErr l = 0) : 20 ≤ l.length ∧ l.length ≤ 220 ∧ enc (src l) (dst l) (data l) = l ∧ (data l).length ≤ 200 := by
  have h0 := h
  unfold decErr at h0
  by_cases h1 : l.length < 20
  · rw [if_pos h1] at h0; cases h0
  rw [if_neg h1] at h0
  by_cases h2 : 220 < l.length
  · rw [if_pos h2] at h0; cases h0
  rw [if_neg h2] at h0
  by_cases h3 : enc (a4 l 12) (a4 l 16) (l.drop 20) = l
  · refine ⟨by omega, by omega, ?_, ?_⟩
    · unfold src dst data; rw [if_pos h, if_pos h, if_pos h]; exact h3
    · unfold data; rw [if_pos h, List.length_drop]; omega
  · rw [if_neg h3] at h0; cases h0
theorem dec_err (l : List UInt8) (h : decErr l ≠ 0) : src l = 0 ∧ dst l = 0 ∧ data l = [] := by
  unfold src dst data; rw [if_neg h, if_neg h, if_neg h]; exact ⟨rfl, rfl, rfl⟩
theorem dec_cases (l : List UInt8) : (l.length < 20 ∧ decErr l = 8) ∨ (20 ≤ l.length ∧ 220 < l.length ∧ decErr l = 1) ∨ (20 ≤ l.length ∧ l.length ≤ 220 ∧ enc (a4 l 12) (a4 l 16) (l.drop 20) = l ∧ decErr l = 0) ∨
    (20 ≤ l.length ∧ l.length ≤ 220 ∧ enc (a4 l 12) (a4 l 16) (l.drop 20) ≠ l ∧ decErr l = 3) := by
  unfold decErr
  by_cases h1 : l.length < 20
  · rw [if_pos h1]; exact .inl ⟨h1, rfl⟩
  rw [if_neg h1]
  by_cases h2 : 220 < l.length
  · rw [if_pos h2]; exact .inr (.inl ⟨by omega, h2, rfl⟩)
  rw [if_neg h2]
  by_cases h3 : enc (a4 l 12) (a4 l 16) (l.drop 20) = l
  · rw [if_pos h3]; exact .inr (.inr (.inl ⟨by omega, by omega, h3, rfl⟩))
  · rw [if_neg h3]; exact .inr (.inr (.inr ⟨by omega, by omega, h3, rfl⟩))
end Go.Proofs.Ytfgkodgdoplpbab.Pk
