/- The plain words of chapter 2, more: words of 32 bits, the schedule, the rounds, the digest. -/
import Derived.Test.YtfgkodgdoplpbabShaPlain
namespace Go.Proofs.Ytfgkodgdoplpbab.Sh

def rotr (x : BitVec 32) (n : Nat) : BitVec 32 := (x <<< (32 - n)) ||| (x >>> n)
def s0 (x : BitVec 32) : BitVec 32 := rotr x 7 ^^^ rotr x 18 ^^^ (x >>> 3)
def s1 (x : BitVec 32) : BitVec 32 := rotr x 17 ^^^ rotr x 19 ^^^ (x >>> 10)
def e0 (x : BitVec 32) : BitVec 32 := rotr x 2 ^^^ rotr x 13 ^^^ rotr x 22
def e1 (x : BitVec 32) : BitVec 32 := rotr x 6 ^^^ rotr x 11 ^^^ rotr x 25
def ch (e f g : BitVec 32) : BitVec 32 := (e &&& f) ^^^ (~~~e &&& g)
def maj (a b c : BitVec 32) : BitVec 32 := (a &&& b) ^^^ (a &&& c) ^^^ (b &&& c)
def rnd : List (BitVec 32) → BitVec 32 → List (BitVec 32)
  | [a, b, c, d, e, f, g, h], k => [(h + e1 e + ch e f g + k) + (e0 a + maj a b c), a, b, c, d + (h + e1 e + ch e f g + k), e, f, g]
  | s, _ => s
/-- The schedule's next word, out of all words before it. -/
def nextW (w : List (BitVec 32)) : BitVec 32 := w.getD (w.length - 16) 0 + w.getD (w.length - 7) 0 + s0 (w.getD (w.length - 15) 0) + s1 (w.getD (w.length - 2) 0)
def ext (w : List (BitVec 32)) : Nat → List (BitVec 32)
  | 0 => w
  | n + 1 => ext w n ++ [nextW (ext w n)]
def runTo (s k w : List (BitVec 32)) : Nat → List (BitVec 32)
  | 0 => s
  | t + 1 => rnd (runTo s k w t) (k.getD t 0 + w.getD t 0)
def H0 : List (BitVec 32) := [1779033703, 3144134277, 1013904242, 2773480762, 1359893119, 2600822924, 528734635, 1541459225]
def K0 : List (BitVec 32) := [1116352408, 1899447441, 3049323471, 3921009573, 961987163, 1508970993, 2453635748, 2870763221, 3624381080, 310598401, 607225278, 1426881987, 1925078388, 2162078206, 2614888103, 3248222580, 3835390401, 4022224774, 264347078, 604807628, 770255983, 1249150122, 1555081692, 1996064986, 2554220882, 2821834349, 2952996808, 3210313671, 3336571891, 3584528711, 113926993, 338241895, 666307205, 773529912, 1294757372, 1396182291, 1695183700, 1986661051, 2177026350, 2456956037, 2730485921, 2820302411, 3259730800, 3345764771, 3516065817, 3600352804, 4094571909, 275423344, 430227734, 506948616, 659060556, 883997877, 958139571, 1322822218, 1537002063, 1747873779, 1955562222, 2024104815, 2227730452, 2361852424, 2428436474, 2756734187, 3204031479, 3329325298]
def compress (s b : List (BitVec 32)) : List (BitVec 32) := List.zipWith (· + ·) (runTo s K0 (ext b 48) 64) s
def word (a b c d : UInt8) : BitVec 32 := BitVec.ofNat 32 (a.toNat * 16777216 + b.toNat * 65536 + c.toNat * 256 + d.toNat)
def wordsOf : List UInt8 → List (BitVec 32)
  | a :: b :: c :: d :: r => word a b c d :: wordsOf r
  | _ => []
def absorb (s : List (BitVec 32)) (p : List UInt8) : Nat → List (BitVec 32)
  | 0 => s
  | k + 1 => compress (absorb s p k) (wordsOf ((p.drop (64 * k)).take 64))
def be4 (x : BitVec 32) : List UInt8 := [UInt8.ofNat (x.toNat / 16777216), UInt8.ofNat (x.toNat / 65536), UInt8.ofNat (x.toNat / 256), UInt8.ofNat x.toNat]
def digest (s : List (BitVec 32)) : List UInt8 := s.flatMap be4
def sum (b : List UInt8) : List UInt8 := digest (absorb H0 (pad b) ((pad b).length / 64))
def sumOut (b : List UInt8) : List UInt8 := if 1000 < b.length then [] else sum b

theorem rnd_length (s : List (BitVec 32)) (k : BitVec 32) (h : s.length = 8) : (rnd s k).length = 8 := by
  match s, h with
  | [_, _, _, _, _, _, _, _], _ => rfl
theorem runTo_length (s k w : List (BitVec 32)) (h : s.length = 8) : ∀ t, (runTo s k w t).length = 8
  | 0 => h
  | t + 1 => rnd_length _ _ (runTo_length s k w h t)
theorem ext_length (w : List (BitVec 32)) : ∀ n, (ext w n).length = w.length + n
  | 0 => rfl
  | n + 1 => by simp [ext, ext_length w n]; omega
theorem compress_length (s b : List (BitVec 32)) (h : s.length = 8) : (compress s b).length = 8 := by
  simp [compress, runTo_length s _ _ h, h]
theorem absorb_length (s : List (BitVec 32)) (p : List UInt8) (h : s.length = 8) : ∀ k, (absorb s p k).length = 8
  | 0 => h
  | k + 1 => compress_length _ _ (absorb_length s p h k)
theorem be4_length (x : BitVec 32) : (be4 x).length = 4 := rfl
theorem digest_length (s : List (BitVec 32)) : (digest s).length = 4 * s.length := by
  induction s with
  | nil => rfl
  | cons a s ih => simp only [digest, List.flatMap_cons, List.length_append, be4_length, List.length_cons] at ih ⊢; omega
theorem digest_append (a b : List (BitVec 32)) : digest (a ++ b) = digest a ++ digest b := by simp [digest]
theorem sum_length (b : List UInt8) : (sum b).length = 32 := by
  unfold sum; rw [digest_length, absorb_length _ _ rfl]
theorem wordsOf_length : ∀ (l : List UInt8) (n : Nat), l.length = 4 * n → (wordsOf l).length = n
  | [], n, h => by
    obtain rfl : n = 0 := by simp at h; omega
    rfl
  | [_], n, h => by simp at h; omega
  | [_, _], n, h => by simp at h; omega
  | [_, _, _], n, h => by simp at h; omega
  | a :: b :: c :: d :: r, n, h => by
    simp only [wordsOf, List.length_cons] at h ⊢
    have := wordsOf_length r (n - 1) (by omega)
    omega
theorem wordsOf_get : ∀ (l : List UInt8) (k : Nat) (h : 4 * k + 3 < l.length), (wordsOf l)[k]? = some (word l[4 * k] l[4 * k + 1] l[4 * k + 2] l[4 * k + 3])
  | [], k, h => by simp at h
  | [_], k, h => absurd h (by simp)
  | [_, _], k, h => absurd h (by simp)
  | [_, _, _], k, h => absurd h (by simp)
  | a :: b :: c :: d :: r, 0, h => by simp [wordsOf]
  | a :: b :: c :: d :: r, k + 1, h => by
    have h' : 4 * k + 3 < r.length := by simp at h; omega
    have := wordsOf_get r k h'
    simp only [wordsOf, List.getElem?_cons_succ, this, Nat.mul_add, Nat.mul_one]
    rfl
/-- The array of the schedule: its first words, and zeros. -/
def fillW (b : List (BitVec 32)) (t : Nat) : List (BitVec 32) := b.take t ++ List.replicate (64 - t) 0
theorem fillW_length (b : List (BitVec 32)) (t : Nat) (h : t ≤ b.length) (h2 : t ≤ 64) : (fillW b t).length = 64 := by simp [fillW]; omega
theorem fillW_step (b : List (BitVec 32)) (t : Nat) (h : t < b.length) (h2 : t < 64) : (fillW b t).set t b[t] = fillW b (t + 1) := by
  unfold fillW
  have e : b.take (t + 1) = b.take t ++ [b[t]] := List.take_succ_eq_append_getElem h
  have hk' : (b.take t).length = t := by simp; omega
  rw [List.set_append_right (h := by omega), hk', Nat.sub_self, show 64 - t = (64 - (t + 1)) + 1 by omega, List.replicate_succ, List.set_cons_zero, e, List.append_assoc]
  rfl
def extW (b : List (BitVec 32)) (j : Nat) : List (BitVec 32) := ext b j ++ List.replicate (48 - j) 0
theorem extW_length (b : List (BitVec 32)) (j : Nat) (h : b.length = 16) (hj : j ≤ 48) : (extW b j).length = 64 := by
  simp [extW, ext_length, h]; omega
theorem extW_zero (b : List (BitVec 32)) (h : b.length = 16) : fillW b 16 = extW b 0 := by
  unfold fillW extW ext; rw [List.take_of_length_le (by omega)]
theorem extW_end (b : List (BitVec 32)) : extW b 48 = ext b 48 := by simp [extW]
theorem extW_get (b : List (BitVec 32)) (j i : Nat) (h : b.length = 16) (hi : i < 16 + j) : (extW b j).getD i 0 = (ext b j).getD i 0 := by
  unfold extW
  rw [List.getD_eq_getElem?_getD, List.getD_eq_getElem?_getD, List.getElem?_append_left (by rw [ext_length, h]; omega)]
theorem extW_step (b : List (BitVec 32)) (j : Nat) (h : b.length = 16) (hj : j < 48) :
    (extW b j).set (16 + j) ((extW b j).getD j 0 + (extW b j).getD (j + 9) 0 + s0 ((extW b j).getD (j + 1) 0) + s1 ((extW b j).getD (j + 14) 0)) = extW b (j + 1) := by
  rw [extW_get b j j h (by omega), extW_get b j (j + 9) h (by omega), extW_get b j (j + 1) h (by omega), extW_get b j (j + 14) h (by omega)]
  have hl : (ext b j).length = 16 + j := by rw [ext_length, h]
  have e : (ext b j).getD j 0 + (ext b j).getD (j + 9) 0 + s0 ((ext b j).getD (j + 1) 0) + s1 ((ext b j).getD (j + 14) 0) = nextW (ext b j) := by
    unfold nextW; rw [hl, show 16 + j - 16 = j by omega, show 16 + j - 7 = j + 9 by omega, show 16 + j - 15 = j + 1 by omega, show 16 + j - 2 = j + 14 by omega]
  rw [e]
  unfold extW
  rw [List.set_append_right (h := by omega), hl, Nat.sub_self, show 48 - j = (48 - (j + 1)) + 1 by omega, List.replicate_succ, List.set_cons_zero]
  simp [ext]
/-- The sums so far: the first i words are added. -/
def addTo (a b : List (BitVec 32)) (i : Nat) : List (BitVec 32) := (List.zipWith (· + ·) a b).take i ++ a.drop i
theorem addTo_length (a b : List (BitVec 32)) (i : Nat) (h : a.length = b.length) : (addTo a b i).length = a.length := by simp [addTo]; omega
theorem addTo_zero (a b : List (BitVec 32)) : addTo a b 0 = a := by simp [addTo]
theorem addTo_end (a b : List (BitVec 32)) (i : Nat) (h : a.length = b.length) (hi : a.length ≤ i) : addTo a b i = List.zipWith (· + ·) a b := by
  unfold addTo; rw [List.drop_eq_nil_of_le hi, List.append_nil, List.take_of_length_le (by simp; omega)]
theorem addTo_get (a b : List (BitVec 32)) (i : Nat) (h : a.length = b.length) (hi : i < a.length) : (addTo a b i).getD i 0 = a.getD i 0 := by
  unfold addTo
  have hl : ((List.zipWith (· + ·) a b).take i).length = i := by simp; omega
  rw [List.getD_eq_getElem?_getD, List.getD_eq_getElem?_getD, List.getElem?_append_right (by omega), hl, Nat.sub_self, List.getElem?_drop, Nat.add_zero]
theorem addTo_step (a b : List (BitVec 32)) (i : Nat) (h : a.length = b.length) (hi : i < a.length) : (addTo a b i).set i (a.getD i 0 + b.getD i 0) = addTo a b (i + 1) := by
  unfold addTo
  have hz : i < (List.zipWith (· + ·) a b).length := by simp; omega
  have hl : ((List.zipWith (· + ·) a b).take i).length = i := by simp; omega
  have e : a.getD i 0 + b.getD i 0 = (List.zipWith (· + ·) a b)[i] := by
    rw [List.getElem_zipWith, List.getD_eq_getElem?_getD, List.getD_eq_getElem?_getD, List.getElem?_eq_getElem hi, List.getElem?_eq_getElem (by omega)]; rfl
  rw [List.set_append_right (h := by omega), hl, Nat.sub_self, e, List.take_succ_eq_append_getElem hz, List.append_assoc, List.drop_eq_getElem_cons hi, List.set_cons_zero]
  rfl
end Go.Proofs.Ytfgkodgdoplpbab.Sh
