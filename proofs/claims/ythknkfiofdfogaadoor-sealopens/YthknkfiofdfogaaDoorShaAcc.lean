/- Plain words: how the reference gathers a block's words, byte by byte. -/
import Derived.Test.YthknkfiofdfogaaDoorShaWords
namespace Go.Proofs.YthknkfiofdfogaaDoor.Sh

def fold (l : List UInt8) : BitVec 32 := l.foldl (fun x c => x * 256 + BitVec.ofNat 32 c.toNat) 0
/-- The words behind i bytes. -/
def accW (b : List UInt8) (i : Nat) : List (BitVec 32) := (List.range 16).map fun j => fold (((b.take i).drop (4 * j)).take 4)
theorem accW_length (b : List UInt8) (i : Nat) : (accW b i).length = 16 := by simp [accW]
theorem accW_zero (b : List UInt8) : accW b 0 = List.replicate 16 0 := by simp [accW, fold]; rfl
theorem accW_get (b : List UInt8) (i j : Nat) (h : j < 16) : (accW b i).getD j 0 = fold (((b.take i).drop (4 * j)).take 4) := by
  unfold accW
  rw [List.getD_eq_getElem?_getD, List.getElem?_map, List.getElem?_range h]; rfl
theorem fold_snoc (l : List UInt8) (c : UInt8) : fold (l ++ [c]) = fold l * 256 + BitVec.ofNat 32 c.toNat := by simp [fold]
theorem accW_step (b : List UInt8) (i : Nat) (h : i < b.length) :
    (accW b i).set (i / 4) ((accW b i).getD (i / 4) 0 * 256 + BitVec.ofNat 32 b[i].toNat) = accW b (i + 1) := by
  have et : b.take (i + 1) = b.take i ++ [b[i]] := List.take_succ_eq_append_getElem h
  have hl : (b.take i).length = i := by simp; omega
  apply List.ext_getElem?
  intro j
  by_cases hj : j < 16
  · by_cases e : i / 4 = j
    · rw [List.getElem?_set, if_pos e, if_pos (by rw [accW_length]; omega), accW_get b i _ (by omega), e]
      unfold accW
      rw [List.getElem?_map, List.getElem?_range hj, Option.map_some, ← fold_snoc]
      congr 2
      have hD : ((b.take i).drop (4 * j)).length ≤ 3 := by simp; omega
      rw [et, List.drop_append_of_le_length (by omega)]
      generalize (b.take i).drop (4 * j) = D at hD
      rw [List.take_of_length_le (by omega), List.take_of_length_le (by simp; omega)]
    · rw [List.getElem?_set, if_neg e]
      unfold accW
      rw [List.getElem?_map, List.getElem?_map, List.getElem?_range hj, Option.map_some, Option.map_some]
      congr 2
      rw [et]
      by_cases hlt : j < i / 4
      · rw [List.drop_append_of_le_length (by omega), List.take_append_of_le_length (by simp; omega)]
      · rw [List.drop_eq_nil_of_le (by simp; omega), List.drop_eq_nil_of_le (by simp; omega)]
  · rw [List.getElem?_eq_none (by rw [List.length_set, accW_length]; omega), List.getElem?_eq_none (by rw [accW_length]; omega)]
theorem fold_word (a b c d : UInt8) : fold [a, b, c, d] = word a b c d := by
  have ha := a.toNat_lt
  have hb := b.toNat_lt
  have hc := c.toNat_lt
  have hd := d.toNat_lt
  apply BitVec.eq_of_toNat_eq
  have h0 : (0 : BitVec 32).toNat = 0 := rfl
  have h256 : (256 : BitVec 32).toNat = 256 := rfl
  simp only [fold, List.foldl_cons, List.foldl_nil, word, BitVec.toNat_add, BitVec.toNat_mul, BitVec.toNat_ofNat, h0, h256]
  omega
theorem accW_end (b : List UInt8) (h : b.length = 64) : accW b 64 = wordsOf b := by
  apply List.ext_getElem?
  intro j
  by_cases hj : j < 16
  · rw [wordsOf_get b j (by omega)]
    unfold accW
    rw [List.getElem?_map, List.getElem?_range hj, Option.map_some, show b.take 64 = b from List.take_of_length_le (by omega)]
    have e : (b.drop (4 * j)).take 4 = [b[4 * j], b[4 * j + 1], b[4 * j + 2], b[4 * j + 3]] := by
      rw [List.drop_eq_getElem_cons (by omega), List.take_succ_cons, List.drop_eq_getElem_cons (by omega), List.take_succ_cons, List.drop_eq_getElem_cons (by omega), List.take_succ_cons, List.drop_eq_getElem_cons (by omega), List.take_succ_cons, List.take_zero]
    rw [e, fold_word]
  · rw [List.getElem?_eq_none (by rw [accW_length]; omega), List.getElem?_eq_none (by rw [wordsOf_length b 16 (by omega)]; omega)]
end Go.Proofs.YthknkfiofdfogaaDoor.Sh
