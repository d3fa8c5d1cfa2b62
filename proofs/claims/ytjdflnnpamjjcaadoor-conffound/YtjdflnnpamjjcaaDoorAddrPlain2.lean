/- The plain words of chapter 6: addresses; nothing of the program is named here. -/
import Derived.Test.YtjdflnnpamjjcaaDoorAddrPlain
import Derived.Lib.SplitLaws
import Derived.Lib.IndexBytes
namespace Go.Proofs.YtjdflnnpamjjcaaDoor.Ad

/-- The pieces of a text between the bytes c. -/
def parts (c : UInt8) : List UInt8 → List (List UInt8)
  | [] => [[]]
  | x :: r => if x = c then [] :: parts c r else match parts c r with
    | [] => [[x]]
    | p :: ps => (x :: p) :: ps
theorem parts_ne (c : UInt8) : ∀ l, parts c l ≠ [] := by
  intro l
  induction l with
  | nil => simp [parts]
  | cons x r ih =>
    unfold parts
    split
    · simp
    · split <;> simp
theorem parts_plain (c : UInt8) : ∀ (l : List UInt8), c ∉ l → parts c l = [l] := by
  intro l
  induction l with
  | nil => intro _; rfl
  | cons x r ih =>
    intro h
    simp only [List.mem_cons, not_or] at h
    rw [parts, if_neg (fun e => h.1 e.symm), ih h.2]
theorem parts_front (c : UInt8) : ∀ (p l : List UInt8), c ∉ p → parts c (p ++ c :: l) = p :: parts c l := by
  intro p l
  induction p with
  | nil => intro _; rw [List.nil_append, parts, if_pos rfl]
  | cons x r ih =>
    intro h
    simp only [List.mem_cons, not_or] at h
    rw [List.cons_append, parts, if_neg (fun e => h.1 e.symm), ih h.2]
/-- The pieces, put together again. -/
def glue (c : UInt8) : List (List UInt8) → List UInt8
  | [] => []
  | [p] => p
  | p :: q :: r => p ++ c :: glue c (q :: r)
theorem glue_parts (c : UInt8) : ∀ l, glue c (parts c l) = l := by
  intro l
  induction l with
  | nil => rfl
  | cons x r ih =>
    unfold parts
    have hn := parts_ne c r
    split
    · rename_i hx
      match hp : parts c r, hn with
      | q :: t, _ =>
        rw [hp] at ih
        show [] ++ c :: glue c (q :: t) = _
        rw [ih, hx]; rfl
    · match hp : parts c r, hn with
      | [q], _ =>
        rw [hp] at ih
        show x :: q = _
        have : q = r := ih
        rw [this]
      | q :: t :: u, _ =>
        rw [hp] at ih
        show (x :: q) ++ c :: glue c (t :: u) = _
        have : q ++ c :: glue c (t :: u) = r := ih
        rw [List.cons_append, this]
theorem split_one (c : UInt8) : ∀ l : List UInt8, Lib.splitK [c] 0 (l.count c) l = parts c l := by
  intro l
  induction l with
  | nil => rfl
  | cons x r ih =>
    by_cases hx : x = c
    · subst hx
      rw [List.count_cons_self, Lib.splitK, parts, if_pos rfl, Lib.index_one]
      have e0 : Lib.indexByte (x :: r) x = 0 := by simp [Lib.indexByte]
      rw [e0, if_neg (by decide)]
      show [] :: Lib.splitK [x] 0 (r.count x) r = _
      rw [ih]
    · rw [List.count_cons_of_ne hx, parts, if_neg hx, ← ih]
      cases hk : r.count c with
      | zero => rfl
      | succ k =>
        have hmem : c ∈ r := List.count_pos_iff.1 (by omega)
        have hge := Lib.indexByte_ge r c
        have hne : Lib.indexByte r c ≠ -1 := by
          intro e
          obtain ⟨i, hi, he⟩ := List.mem_iff_getElem.1 hmem
          exact Lib.indexByte_none e i (by rw [List.getElem?_eq_getElem hi, he])
        have e1 : Lib.indexByte (x :: r) c = Lib.indexByte r c + 1 := by
          simp only [Lib.indexByte]
          rw [if_neg (by simpa using hx), if_neg (by simpa using hne)]
        rw [Lib.splitK, Lib.splitK, Lib.index_one, Lib.index_one, e1]
        obtain ⟨i, hi⟩ : ∃ i : Nat, Lib.indexByte r c = (i : Int) := ⟨(Lib.indexByte r c).toNat, by omega⟩
        rw [hi, if_neg (by simp; omega), if_neg (by simp)]
        rw [show ((i : Int) + 1).toNat = i + 1 by omega, Int.toNat_natCast]
        show (x :: r.take i) :: _ = (x :: r.take i) :: _
        rfl
theorem split_parts (c : UInt8) (l : List UInt8) : Lib.split l [c] = parts c l := by
  unfold Lib.split
  rw [Lib.count_one, split_one]

def good (l : List UInt8) : Bool := decide ((parts 46 l).length = 4) && (parts 46 l).all fun p => decide (numErr p 255 = 0)
def addrErr (l : List UInt8) : Nat := if good l = true then 0 else 3
def fold (ps : List (List UInt8)) (a : Nat) : Nat := ps.foldl (fun a p => a * 256 + val p) a
def addrOut (l : List UInt8) : Nat := if good l = true then fold (parts 46 l) 0 else 0
def text (a : Nat) : List UInt8 := Lib.decDigits (a / 16777216) ++ 46 :: (Lib.decDigits (a / 65536 % 256) ++ 46 :: (Lib.decDigits (a / 256 % 256) ++ 46 :: Lib.decDigits (a % 256)))

theorem dec_num (u : Nat) (h : u < 256) : numErr (Lib.decDigits u) 255 = 0 ∧ val (Lib.decDigits u) = u ∧ (46 : UInt8) ∉ Lib.decDigits u := by
  obtain ⟨h1, h2, h3⟩ := dec_good u
  have hn : isNum (Lib.decDigits u) = true := by
    have hi : Lib.itoa (u : Int) = Lib.decDigits u := by
      unfold Lib.itoa
      rw [if_neg (by omega), Int.toNat_natCast]
    have hl : (Lib.decDigits u).length ≤ 5 := by
      by_cases a : u < 10
      · rw [Lib.decDigits, dif_pos a]; simp
      · rw [Lib.decDigits, dif_neg a]
        by_cases b : u / 10 < 10
        · rw [Lib.decDigits, dif_pos b]; simp
        · rw [Lib.decDigits, dif_neg b, Lib.decDigits, dif_pos (by omega)]; simp
    exact (num_back _ (u : Int) (by omega) hl hi).1
  refine ⟨?_, h2, ?_⟩
  · unfold numErr
    rw [if_pos ⟨hn, by rw [h2]; omega⟩]
  · intro hm
    have := List.all_eq_true.1 h1 _ hm
    revert this
    decide
theorem parts_text (a : Nat) (h : a < 4294967296) : parts 46 (text a) = [Lib.decDigits (a / 16777216), Lib.decDigits (a / 65536 % 256), Lib.decDigits (a / 256 % 256), Lib.decDigits (a % 256)] := by
  unfold text
  rw [parts_front _ _ _ (dec_num _ (by omega)).2.2, parts_front _ _ _ (dec_num _ (by omega)).2.2, parts_front _ _ _ (dec_num _ (by omega)).2.2, parts_plain _ _ (dec_num _ (by omega)).2.2]
/-- What Text writes is read as the address. -/
theorem good_text (a : Nat) (h : a < 4294967296) : good (text a) = true ∧ fold (parts 46 (text a)) 0 = a := by
  unfold good
  rw [parts_text a h]
  constructor
  · simp only [List.length_cons, List.length_nil, List.all_cons, List.all_nil]
    rw [(dec_num (a / 16777216) (by omega)).1, (dec_num (a / 65536 % 256) (by omega)).1, (dec_num (a / 256 % 256) (by omega)).1, (dec_num (a % 256) (by omega)).1]
    rfl
  · unfold fold
    simp only [List.foldl_cons, List.foldl_nil]
    rw [(dec_num (a / 16777216) (by omega)).2.1, (dec_num (a / 65536 % 256) (by omega)).2.1, (dec_num (a / 256 % 256) (by omega)).2.1, (dec_num (a % 256) (by omega)).2.1]
    omega
theorem num_dec (l : List UInt8) (h : numErr l 255 = 0) : val l < 256 ∧ Lib.decDigits (val l) = l := by
  unfold numErr at h
  by_cases hc : isNum l = true ∧ (val l : Int) ≤ 255
  · obtain ⟨h1, h2, h3, h4⟩ := num_parts l hc.1
    exact ⟨by omega, dec_val l h1 h3 h4⟩
  · rw [if_neg hc] at h; cases h
/-- What is read as an address is what Text writes of it. -/
theorem text_good (l : List UInt8) (h : good l = true) : fold (parts 46 l) 0 < 4294967296 ∧ text (fold (parts 46 l) 0) = l := by
  unfold good at h
  simp only [Bool.and_eq_true, decide_eq_true_eq] at h
  have hg := glue_parts 46 l
  match hp : parts 46 l, h.1 with
  | [p, q, r, s], _ =>
    rw [hp] at h hg
    simp only [List.all_cons, List.all_nil, Bool.and_true, Bool.and_eq_true, decide_eq_true_eq] at h
    obtain ⟨_, h1, h2, h3, h4⟩ := h
    obtain ⟨a1, b1⟩ := num_dec p h1
    obtain ⟨a2, b2⟩ := num_dec q h2
    obtain ⟨a3, b3⟩ := num_dec r h3
    obtain ⟨a4, b4⟩ := num_dec s h4
    have hf : fold [p, q, r, s] 0 = ((val p * 256 + val q) * 256 + val r) * 256 + val s := by
      unfold fold
      simp only [List.foldl_cons, List.foldl_nil]
      omega
    rw [hf]
    refine ⟨by omega, ?_⟩
    unfold text
    rw [show (((val p * 256 + val q) * 256 + val r) * 256 + val s) / 16777216 = val p by omega, show (((val p * 256 + val q) * 256 + val r) * 256 + val s) / 65536 % 256 = val q by omega,
      show (((val p * 256 + val q) * 256 + val r) * 256 + val s) / 256 % 256 = val r by omega, show (((val p * 256 + val q) * 256 + val r) * 256 + val s) % 256 = val s by omega, b1, b2, b3, b4]
    exact hg
end Go.Proofs.YtjdflnnpamjjcaaDoor.Ad
