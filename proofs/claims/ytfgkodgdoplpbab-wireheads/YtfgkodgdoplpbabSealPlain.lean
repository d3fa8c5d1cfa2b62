/- The plain words of chapter 4 (authenticated encryption), over lists of bytes; nothing of the program is named here. -/
import Derived.Test.YtfgkodgdoplpbabMacPlain
namespace Go.Proofs.Ytfgkodgdoplpbab.Sl

/-- A number as m bytes, the most significant one first. -/
def beL (n m : Nat) : List UInt8 := (List.range m).map fun i => UInt8.ofNat (n / 256 ^ (m - 1 - i))
theorem beL_length (n m : Nat) : (beL n m).length = m := by simp [beL]
/-- What stands behind j rounds of the loop that lays the bytes from the last one on. -/
def bePart (n m j : Nat) : List UInt8 := List.replicate (m - j) 0 ++ (beL n m).drop (m - j)
theorem bePart_length (n m j : Nat) : (bePart n m j).length = m := by simp [bePart, beL_length]
theorem bePart_zero (n m : Nat) : bePart n m 0 = List.replicate m 0 := by simp [bePart, beL_length]
theorem bePart_end (n m : Nat) : bePart n m m = beL n m := by simp [bePart]
theorem bePart_step (n m j : Nat) (h : j < m) : (bePart n m j).set (m - 1 - j) (UInt8.ofNat (n / 256 ^ j)) = bePart n m (j + 1) := by
  have e : m - j = (m - (j + 1)) + 1 := by omega
  have hl : m - (j + 1) < (beL n m).length := by rw [beL_length]; omega
  have hg : (beL n m)[m - (j + 1)] = UInt8.ofNat (n / 256 ^ j) := by
    simp only [beL, List.getElem_map, List.getElem_range]
    rw [show m - 1 - (m - (j + 1)) = j by omega]
  unfold bePart
  rw [List.drop_eq_getElem_cons hl, hg, e, List.replicate_succ', List.append_assoc, List.set_append_right (h := by simp; omega)]
  simp only [List.length_replicate]
  rw [show m - 1 - j - (m - (j + 1)) = 0 by omega]
  rfl

def flow (counter block : Nat) : List UInt8 := [102, 108, 111, 119] ++ (beL counter 8 ++ beL block 8)
def seal4 (counter : Nat) (ct : List UInt8) : List UInt8 := [115, 101, 97, 108] ++ (beL counter 8 ++ ct)
theorem flow_length (c b : Nat) : (flow c b).length = 20 := by simp [flow, beL_length]
theorem seal4_length (c : Nat) (ct : List UInt8) : (seal4 c ct).length = 12 + ct.length := by simp [seal4, beL_length]; omega
/-- Byte i of the key stream. -/
def at_ (key : List UInt8) (counter i : Nat) : UInt8 := (Mc.tag key (flow counter (i / 32))).getD (i % 32) 0
def stream (key : List UInt8) (counter n : Nat) : List UInt8 := (List.range n).map (at_ key counter)
theorem stream_length (key : List UInt8) (counter n : Nat) : (stream key counter n).length = n := by simp [stream]
theorem stream_snoc (key : List UInt8) (counter n : Nat) : stream key counter n ++ [at_ key counter n] = stream key counter (n + 1) := by simp [stream, List.range_succ]
theorem stream_take (key : List UInt8) (counter m n : Nat) (h : m ≤ n) : (stream key counter n).take m = stream key counter m := by
  unfold stream; rw [← List.map_take, List.take_range, Nat.min_eq_left h]
def streamErr (s : List UInt8) (counter n : Int) : Nat := if Hx.checkErr s ≠ 0 then Hx.checkErr s else if counter < 0 ∨ 1099511627776 < counter ∨ n < 0 ∨ 232 < n then 4 else 0
def streamOut (s : List UInt8) (counter n : Int) : List UInt8 := if streamErr s counter n = 0 then stream (Hx.pairs s) counter.toNat n.toNat else []
def xorL (a b : List UInt8) : List UInt8 := List.zipWith (· ^^^ ·) a b
theorem xorL_length (a b : List UInt8) (h : a.length = b.length) : (xorL a b).length = a.length := by simp [xorL]; omega
theorem xorL_back : ∀ (a b : List UInt8), a.length = b.length → xorL a (xorL a b) = b
  | [], [], _ => rfl
  | x :: a, y :: b, h => by
    have ih := xorL_back a b (by simpa using h)
    simp only [xorL, List.zipWith_cons_cons] at ih ⊢
    rw [ih, ← UInt8.xor_assoc, UInt8.xor_self, UInt8.zero_xor]
/-- The first k bytes combined. -/
def xorTo (a b : List UInt8) (k : Nat) : List UInt8 := xorL (a.take k) (b.take k) ++ a.drop k
theorem xorTo_zero (a b : List UInt8) : xorTo a b 0 = a := by simp [xorTo, xorL]
theorem xorTo_end (a b : List UInt8) (h : a.length = b.length) (k : Nat) (hk : a.length ≤ k) : xorTo a b k = xorL a b := by
  unfold xorTo; rw [List.take_of_length_le hk, List.take_of_length_le (by omega), List.drop_eq_nil_of_le hk, List.append_nil]
theorem xorTo_length (a b : List UInt8) (k : Nat) (h : a.length = b.length) (hk : k ≤ a.length) : (xorTo a b k).length = a.length := by
  simp [xorTo, xorL]; omega
theorem xorTo_get (a b : List UInt8) (k : Nat) (h : a.length = b.length) (hk : k < a.length) : (xorTo a b k)[k]? = some (a.getD k 0) := by
  have hl : (xorL (a.take k) (b.take k)).length = k := by simp [xorL]; omega
  unfold xorTo
  rw [List.getElem?_append_right (by omega), hl, Nat.sub_self, List.getElem?_drop, Nat.add_zero, List.getElem?_eq_getElem hk, List.getD_eq_getElem?_getD, List.getElem?_eq_getElem hk]
  rfl
theorem xorTo_step (a b : List UInt8) (k : Nat) (h : a.length = b.length) (hk : k < a.length) : (xorTo a b k).set k (a.getD k 0 ^^^ b.getD k 0) = xorTo a b (k + 1) := by
  have hk2 : k < b.length := by omega
  have hl : (xorL (a.take k) (b.take k)).length = k := by simp [xorL]; omega
  have e1 : a.getD k 0 = a[k] := by rw [List.getD_eq_getElem?_getD, List.getElem?_eq_getElem hk]; rfl
  have e2 : b.getD k 0 = b[k] := by rw [List.getD_eq_getElem?_getD, List.getElem?_eq_getElem hk2]; rfl
  unfold xorTo
  rw [List.set_append_right (h := by omega), hl, Nat.sub_self, List.drop_eq_getElem_cons hk, List.set_cons_zero, List.take_succ_eq_append_getElem hk, List.take_succ_eq_append_getElem hk2, e1, e2]
  unfold xorL
  rw [List.zipWith_append (by simp; omega), List.append_assoc]
  rfl
def tag16 (key : List UInt8) (counter : Nat) (ct : List UInt8) : List UInt8 := (Mc.tag key (seal4 counter ct)).take 16
theorem tag16_length (key : List UInt8) (counter : Nat) (ct : List UInt8) : (tag16 key counter ct).length = 16 := by
  unfold tag16; rw [List.length_take, Mc.tag_length]; rfl
def sealRaw (key : List UInt8) (counter : Nat) (b : List UInt8) : List UInt8 := xorL (stream key counter b.length) b ++ tag16 key counter (xorL (stream key counter b.length) b)
theorem sealRaw_length (key : List UInt8) (counter : Nat) (b : List UInt8) : (sealRaw key counter b).length = b.length + 16 := by
  unfold sealRaw; rw [List.length_append, tag16_length, xorL_length _ _ (stream_length _ _ _), stream_length]
def sealErr (s : List UInt8) (counter : Int) (b : List UInt8) : Nat := if 220 < b.length then 1 else streamErr s counter b.length
def sealOut (s : List UInt8) (counter : Int) (b : List UInt8) : List UInt8 := if sealErr s counter b = 0 then sealRaw (Hx.pairs s) counter.toNat b else []
def body (b : List UInt8) : List UInt8 := b.take (b.length - 16)
def tail (b : List UInt8) : List UInt8 := b.drop (b.length - 16)
def openErr (s : List UInt8) (counter : Int) (b : List UInt8) : Nat :=
  if 236 < b.length then 1 else if streamErr s counter ((b.length - 16 : Nat) : Int) ≠ 0 then streamErr s counter ((b.length - 16 : Nat) : Int) else if b.length < 16 then 8
    else if tag16 (Hx.pairs s) counter.toNat (body b) = tail b then 0 else 9
def openOut (s : List UInt8) (counter : Int) (b : List UInt8) : List UInt8 := if openErr s counter b = 0 then xorL (stream (Hx.pairs s) counter.toNat (b.length - 16)) (body b) else []
theorem stream_three (s : List UInt8) (counter n : Int) : (streamErr s counter n = 0 ∧ Hx.checkErr s = 0 ∧ 0 ≤ counter ∧ counter ≤ 1099511627776 ∧ 0 ≤ n ∧ n ≤ 232) ∨
    (streamErr s counter n ≠ 0 ∧ streamOut s counter n = [] ∧ ((Hx.checkErr s ≠ 0 ∧ streamErr s counter n = Hx.checkErr s) ∨ (Hx.checkErr s = 0 ∧ streamErr s counter n = 4 ∧ (counter < 0 ∨ 1099511627776 < counter ∨ n < 0 ∨ 232 < n)))) := by
  unfold streamOut streamErr
  by_cases h : Hx.checkErr s ≠ 0
  · rw [if_pos h]
    exact .inr ⟨h, if_neg h, .inl ⟨h, rfl⟩⟩
  · rw [if_neg h]
    by_cases h2 : counter < 0 ∨ 1099511627776 < counter ∨ n < 0 ∨ 232 < n
    · rw [if_pos h2]
      exact .inr ⟨by decide, if_neg (by decide), .inr ⟨by omega, rfl, h2⟩⟩
    · rw [if_neg h2]
      exact .inl ⟨rfl, by omega, by omega, by omega, by omega, by omega⟩
end Go.Proofs.Ytfgkodgdoplpbab.Sl
