/- The plain words of chapter 7: texts of networks; nothing of the program is named here. -/
import Derived.Test.YtjdflnnpamjjcaaDoorAddrPlain2
import Derived.Test.YtjdflnnpamjjcaaDoorNetPlain
import Derived.Lib.IndexLaws
namespace Go.Proofs.YtjdflnnpamjjcaaDoor.Nt

def slash (l : List UInt8) : Int := Lib.indexByte l 47
def front (l : List UInt8) : List UInt8 := l.take (slash l).toNat
def back (l : List UInt8) : List UInt8 := l.drop ((slash l).toNat + 1)
def parGood (l : List UInt8) : Bool := decide (0 ≤ slash l) && Ad.good (front l) && decide (Ad.numErr (back l) 32 = 0) && decide (err (Ad.addrOut (front l)) (Ad.numOut (back l) 32 : Int) = 0)
def parErr (l : List UInt8) : Nat := if parGood l = true then 0 else 3
def parAddr (l : List UInt8) : Nat := if parGood l = true then Ad.addrOut (front l) else 0
def parBits (l : List UInt8) : Nat := if parGood l = true then Ad.numOut (back l) 32 else 0
def text (a b : Nat) : List UInt8 := Ad.text a ++ 47 :: Lib.decDigits b
def textOut (a : Nat) (b : Int) : List UInt8 := if err a b = 0 then text a b.toNat else []
theorem par_bad {l : List UInt8} (h : parGood l = false) : parErr l = 3 ∧ parAddr l = 0 ∧ parBits l = 0 := by
  unfold parErr parAddr parBits
  rw [h]
  exact ⟨rfl, rfl, rfl⟩
theorem par_ok {l : List UInt8} (h : parGood l = true) : parErr l = 0 ∧ parAddr l = Ad.addrOut (front l) ∧ parBits l = Ad.numOut (back l) 32 := by
  unfold parErr parAddr parBits
  rw [h]
  exact ⟨rfl, rfl, rfl⟩
theorem slash_lt (l : List UInt8) (k : Nat) (h : slash l = (k : Int)) : k < l.length := by
  have := (Lib.indexByte_some h).1
  by_cases hk : k < l.length
  · exact hk
  · rw [List.getElem?_eq_none (by omega)] at this; cases this
theorem index_at (c : UInt8) : ∀ (p r : List UInt8), c ∉ p → Lib.indexByte (p ++ c :: r) c = (p.length : Int) := by
  intro p r
  induction p with
  | nil => intro _; simp [Lib.indexByte]
  | cons x q ih =>
    intro h
    simp only [List.mem_cons, not_or] at h
    have hi := ih h.2
    rw [List.cons_append]
    simp only [Lib.indexByte]
    rw [if_neg (by simpa using fun e => h.1 e.symm), hi, if_neg (by simp), List.length_cons]
    omega
theorem not_slash (u : Nat) : (47 : UInt8) ∉ Lib.decDigits u := by
  intro hm
  have := List.all_eq_true.1 (Ad.dec_good u).1 _ hm
  revert this
  decide
theorem addr_not_slash (a : Nat) : (47 : UInt8) ∉ Ad.text a := by
  unfold Ad.text
  simp only [List.mem_append, List.mem_cons, not_or]
  exact ⟨not_slash _, by decide, not_slash _, by decide, not_slash _, by decide, not_slash _⟩
theorem dec_bits (u : Nat) (h : u ≤ 32) : Ad.numErr (Lib.decDigits u) 32 = 0 ∧ Ad.numOut (Lib.decDigits u) 32 = u := by
  obtain ⟨h1, h2, h3⟩ := Ad.dec_good u
  have hi : Lib.itoa (u : Int) = Lib.decDigits u := by
    unfold Lib.itoa
    rw [if_neg (by omega), Int.toNat_natCast]
  have hl : (Lib.decDigits u).length ≤ 5 := by
    by_cases a : u < 10
    · rw [Lib.decDigits, dif_pos a]; simp
    · rw [Lib.decDigits, dif_neg a, Lib.decDigits, dif_pos (by omega)]; simp
  have hn := (Ad.num_back _ (u : Int) (by omega) hl hi).1
  have he : Ad.numErr (Lib.decDigits u) 32 = 0 := by
    unfold Ad.numErr
    rw [if_pos ⟨hn, by rw [h2]; omega⟩]
  refine ⟨he, ?_⟩
  unfold Ad.numOut
  rw [if_pos he, h2]
/-- What Text writes is read as the network. -/
theorem par_text {a b : Nat} (ha : a < 4294967296) (hb : b ≤ 32) (he : err a (b : Int) = 0) : parErr (text a b) = 0 ∧ parAddr (text a b) = a ∧ parBits (text a b) = b := by
  have hs : slash (text a b) = ((Ad.text a).length : Int) := index_at 47 _ _ (addr_not_slash a)
  have hf : front (text a b) = Ad.text a := by
    unfold front
    rw [hs, Int.toNat_natCast]
    unfold text
    rw [List.take_left]
  have hk : back (text a b) = Lib.decDigits b := by
    unfold back
    rw [hs, Int.toNat_natCast]
    unfold text
    rw [List.drop_append, List.drop_eq_nil_of_le (by omega), List.nil_append, show (Ad.text a).length + 1 - (Ad.text a).length = 1 by omega]
    rfl
  obtain ⟨g1, g2⟩ := Ad.good_text a ha
  obtain ⟨n1, n2⟩ := dec_bits b hb
  have ho : Ad.addrOut (Ad.text a) = a := by unfold Ad.addrOut; rw [if_pos g1, g2]
  have hg : parGood (text a b) = true := by
    unfold parGood
    rw [hf, hk, g1, n1, n2, ho, he, hs, decide_eq_true (by omega : (0 : Int) ≤ ((Ad.text a).length : Int))]
    rfl
  obtain ⟨p1, p2, p3⟩ := par_ok hg
  rw [p1, p2, p3, hf, hk, ho, n2]
  exact ⟨rfl, rfl, rfl⟩
end Go.Proofs.YtjdflnnpamjjcaaDoor.Nt
