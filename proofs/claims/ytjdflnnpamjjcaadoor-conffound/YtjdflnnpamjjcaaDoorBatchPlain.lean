/- The plain words of chapter 12: settings; nothing of the program is named here. -/
import Derived.Test.YtjdflnnpamjjcaaDoorLinePlain2
import Derived.Test.YtjdflnnpamjjcaaDoorAddrPlain4
import Derived.Test.YtjdflnnpamjjcaaDoorNetPlain2
import Derived.Test.YtjdflnnpamjjcaaDoorHexPlain
import Derived.Lib.Repeat
namespace Go.Proofs.YtjdflnnpamjjcaaDoor
/-- A setting: its kind, text, number, and its network's address and bits. -/
structure Bt.S where
  k : Int
  t : ByteArray
  n : Int
  a : Nat
  b : Int
deriving DecidableEq
namespace Bt
open Ln (ofT)
def zeroS : S := ⟨0, ⟨#[]⟩, 0, 0, 0⟩
instance : Inhabited S := ⟨zeroS⟩
/-- Which field a kind has: 1 the text, 2 the number, 3 the network. -/
def fld (k : Int) : Nat := if k = 1 ∨ k = 4 ∨ k = 6 ∨ k = 7 then 1 else if k = 2 ∨ k = 8 then 2 else if k = 10 then 3 else 0
def more (s : S) : Bool := (decide (s.t.size ≠ 0) && decide (fld s.k ≠ 1)) || (decide (s.n ≠ 0) && decide (fld s.k ≠ 2)) || (decide (s.a ≠ 0 ∨ s.b ≠ 0) && decide (fld s.k ≠ 3))
def zeros : ByteArray := ⟨(Lib.repeatL [48] 64).toArray⟩
def err (s : S) : Nat :=
  if s.k < 1 ∨ 10 < s.k then 2 else if more s = true then 3 else
  if fld s.k = 2 then (if s.n < 0 ∨ 65535 < s.n then 4 else 0) else if fld s.k = 3 then Nt.err s.a s.b else
  if s.k = 7 then Ad.endErr s.t.data.toList else if s.k = 6 ∧ s.t.size = 0 then 0 else if s.k = 6 ∧ s.t = zeros then 3 else
  if fld s.k = 1 then Hx.checkErr s.t.data.toList else 0
def isTrue : ByteArray := ⟨#[116, 114, 117, 101]⟩
def val (s : S) : ByteArray := if fld s.k = 2 then ofT (Lib.itoa s.n) else if s.k = 3 ∨ s.k = 5 ∨ s.k = 9 then isTrue else if s.k = 10 then ofT (Nt.textOut s.a s.b) else if s.k = 6 ∧ s.t.size = 0 then zeros else s.t
def names : List ByteArray := [⟨#[]⟩, ⟨#[112, 114, 105, 118, 97, 116, 101, 95, 107, 101, 121]⟩, ⟨#[108, 105, 115, 116, 101, 110, 95, 112, 111, 114, 116]⟩, ⟨#[114, 101, 112, 108, 97, 99, 101, 95, 112, 101, 101, 114, 115]⟩, ⟨#[112, 117, 98, 108, 105, 99, 95, 107, 101, 121]⟩, ⟨#[114, 101, 109, 111, 118, 101]⟩, ⟨#[112, 114, 101, 115, 104, 97, 114, 101, 100, 95, 107, 101, 121]⟩, ⟨#[101, 110, 100, 112, 111, 105, 110, 116]⟩, ⟨#[112, 101, 114, 115, 105, 115, 116, 101, 110, 116, 95, 107, 101, 101, 112, 97, 108, 105, 118, 101, 95, 105, 110, 116, 101, 114, 118, 97, 108]⟩, ⟨#[114, 101, 112, 108, 97, 99, 101, 95, 97, 108, 108, 111, 119, 101, 100, 95, 105, 112, 115]⟩, ⟨#[97, 108, 108, 111, 119, 101, 100, 95, 105, 112]⟩]
theorem names_length : names.length = 11 := rfl
def nameOf (k : Nat) : ByteArray := names.getD k ⟨#[]⟩
def lineOf (s : S) : Ln.L := ⟨nameOf s.k.toNat, val s⟩
def noLine : Ln.L := ⟨⟨#[]⟩, ⟨#[]⟩⟩
/-- The line of a setting. -/
def line (s : S) : Ln.L := if err s = 0 then lineOf s else noLine
/-- What a key's kind is: the place of its name; 0: none. -/
def kindFrom (key : ByteArray) : Nat → Nat → Nat
  | 0, _ => 0
  | m + 1, i => if nameOf i = key then i else kindFrom key m (i + 1)
def kindOf (key : ByteArray) : Nat := kindFrom key 10 1
def cands (k : Nat) (v : ByteArray) : List S := [⟨k, ⟨#[]⟩, 0, 0, 0⟩, ⟨k, v, 0, 0, 0⟩, ⟨k, ⟨#[]⟩, (Ad.numOut v.data.toList 65535 : Int), 0, 0⟩, ⟨k, ⟨#[]⟩, 0, Nt.parAddr v.data.toList, (Nt.parBits v.data.toList : Int)⟩]
def fits (l : Ln.L) (s : S) : Bool := decide (err s = 0 ∧ line s = l)
def pick1 (l : Ln.L) (c : List S) : S × Nat := match c.find? (fits l) with | some s => (s, 0) | none => (zeroS, 3)
/-- The setting of a line. -/
def ofLine (l : Ln.L) : S × Nat := if kindOf l.k = 0 then (zeroS, 2) else pick1 l (cands (kindOf l.k) l.v)
def wrong : Nat → List Ln.L → Nat × Nat
  | _, [] => (0, 0)
  | i, l :: r => if (ofLine l).2 = 0 then wrong (i + 1) r else (i + 1, (ofLine l).2)
def pBad (s : ByteArray) : Nat × Nat := if (Ln.sBad s).2 ≠ 0 then Ln.sBad s else wrong 0 (Ln.sOut s)
def pOut (s : ByteArray) : List S := if (pBad s).2 = 0 then (Ln.sOut s).map (fun l => (ofLine l).1) else []
def fault : List S → Nat
  | [] => 0
  | x :: r => if err x = 0 then fault r else err x
def tErr (l : List S) : Nat := if fault l ≠ 0 then fault l else Ln.jErr (l.map line)
def tOut (l : List S) : List UInt8 := if tErr l = 0 then Ln.jText (l.map line) else []

theorem fld_cases (k : Int) (h1 : 1 ≤ k) (h2 : k ≤ 10) : k = 1 ∨ k = 2 ∨ k = 3 ∨ k = 4 ∨ k = 5 ∨ k = 6 ∨ k = 7 ∨ k = 8 ∨ k = 9 ∨ k = 10 := by omega
theorem wrong_good : ∀ (l : List Ln.L) (i : Nat), (∀ p ∈ l, (ofLine p).2 = 0) → wrong i l = (0, 0) := by
  intro l
  induction l with
  | nil => intro i _; rfl
  | cons p r ih =>
    intro i h
    rw [wrong, if_pos (h p (by simp))]
    exact ih _ fun q hq => h q (by simp [hq])
theorem wrong_at : ∀ (l : List Ln.L) (i k : Nat) (hk : k < l.length), (∀ p ∈ l.take k, (ofLine p).2 = 0) → (ofLine l[k]).2 ≠ 0 → wrong i l = (i + k + 1, (ofLine l[k]).2) := by
  intro l
  induction l with
  | nil => intro i k hk; simp at hk
  | cons p r ih =>
    intro i k hk h hn
    cases k with
    | zero => rw [wrong, if_neg (show ¬ (ofLine p).2 = 0 from hn)]; rfl
    | succ k =>
      rw [wrong, if_pos (h p (by simp)), ih (i + 1) k (by simpa using hk) (fun q hq => h q (by simp [hq])) hn]
      simp only [List.getElem_cons_succ, Prod.mk.injEq, and_true]
      omega
theorem wrong_back : ∀ (l : List Ln.L) (i : Nat), (wrong i l).2 = 0 → (wrong i l).1 = 0 ∧ ∀ p ∈ l, (ofLine p).2 = 0 := by
  intro l
  induction l with
  | nil => intro i _; exact ⟨rfl, fun p hp => by cases hp⟩
  | cons p r ih =>
    intro i h
    rw [wrong] at h ⊢
    by_cases hp : (ofLine p).2 = 0
    · rw [if_pos hp] at h ⊢
      obtain ⟨h1, h2⟩ := ih (i + 1) h
      exact ⟨h1, fun q hq => by rcases List.mem_cons.1 hq with rfl | hq; exact hp; exact h2 q hq⟩
    · rw [if_neg hp] at h
      exact absurd h hp
theorem fault_good : ∀ l : List S, (∀ x ∈ l, err x = 0) → fault l = 0 := by
  intro l
  induction l with
  | nil => intro _; rfl
  | cons x r ih =>
    intro h
    rw [fault, if_pos (h x (by simp))]
    exact ih fun q hq => h q (by simp [hq])
theorem fault_at : ∀ (l : List S) (k : Nat) (hk : k < l.length), (∀ x ∈ l.take k, err x = 0) → err l[k] ≠ 0 → fault l = err l[k] := by
  intro l
  induction l with
  | nil => intro k hk; simp at hk
  | cons p r ih =>
    intro k hk h hn
    cases k with
    | zero => rw [fault, if_neg (show ¬ err p = 0 from hn)]; rfl
    | succ k =>
      rw [fault, if_pos (h p (by simp)), ih k (by simpa using hk) (fun q hq => h q (by simp [hq])) hn]
      rfl
/-- A line that is read is the line of what was read. -/
theorem line_of {l : Ln.L} (h : (ofLine l).2 = 0) : err (ofLine l).1 = 0 ∧ line (ofLine l).1 = l := by
  unfold ofLine at h ⊢
  by_cases hk : kindOf l.k = 0
  · rw [if_pos hk] at h; cases h
  · rw [if_neg hk] at h ⊢
    unfold pick1 at h ⊢
    cases hf : (cands (kindOf l.k) l.v).find? (fits l) with
    | none => rw [hf] at h; cases h
    | some s =>
      have := List.find?_some hf
      unfold fits at this
      exact of_decide_eq_true this
theorem kind_of_name (k : Nat) (h1 : 1 ≤ k) (h2 : k ≤ 10) : kindOf (nameOf k) = k := by
  have : k = 1 ∨ k = 2 ∨ k = 3 ∨ k = 4 ∨ k = 5 ∨ k = 6 ∨ k = 7 ∨ k = 8 ∨ k = 9 ∨ k = 10 := by omega
  rcases this with rfl | rfl | rfl | rfl | rfl | rfl | rfl | rfl | rfl | rfl <;> decide +kernel
theorem kindFrom_le (key : ByteArray) : ∀ (m i : Nat), kindFrom key m i = 0 ∨ (i ≤ kindFrom key m i ∧ kindFrom key m i < i + m ∧ nameOf (kindFrom key m i) = key)
  | 0, _ => .inl rfl
  | m + 1, i => by
    unfold kindFrom
    split
    · rename_i h; exact .inr ⟨Nat.le_refl _, by omega, h⟩
    · rcases kindFrom_le key m (i + 1) with h | ⟨h1, h2, h3⟩
      · exact .inl h
      · exact .inr ⟨by omega, by omega, h3⟩
theorem kindOf_cases (key : ByteArray) : kindOf key = 0 ∨ (1 ≤ kindOf key ∧ kindOf key ≤ 10 ∧ nameOf (kindOf key) = key) := by
  rcases kindFrom_le key 10 1 with h | ⟨h1, h2, h3⟩
  · exact .inl h
  · exact .inr ⟨h1, by unfold kindOf; omega, h3⟩
end Bt
end Go.Proofs.YtjdflnnpamjjcaaDoor
