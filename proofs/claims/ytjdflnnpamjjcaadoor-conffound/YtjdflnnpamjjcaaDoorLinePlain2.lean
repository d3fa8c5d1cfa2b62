/- The plain words of chapter 11: splitting and joining are inverse; nothing of the program is named here. -/
import Derived.Test.YtjdflnnpamjjcaaDoorLinePlain
import Derived.Lib.Split
import Derived.Lib.IndexBytes
import Derived.Lib.IndexLaws
import Derived.WideShapes
namespace Go.Proofs.YtjdflnnpamjjcaaDoor.Ln

theorem inKey_not (c : UInt8) (h : inKey c = true) : c ≠ 61 ∧ c ≠ 10 := by
  unfold inKey at h
  simp only [Bool.or_eq_true, decide_eq_true_eq] at h
  constructor <;> (intro e; subst e; simp at h)
theorem inVal_not (c : UInt8) (h : inVal c = true) : c ≠ 10 := by
  unfold inVal at h
  simp only [decide_eq_true_eq] at h
  intro e; subst e; simp at h
theorem index_at (c : UInt8) : ∀ (p r : List UInt8), c ∉ p → Lib.indexByte (p ++ c :: r) c = (p.length : Int) := by
  intro p r
  induction p with
  | nil => intro _; simp [Lib.indexByte]
  | cons x q ih =>
    intro h
    simp only [List.mem_cons, not_or] at h
    have hi := ih h.2
    rw [List.cons_append]
    simp only [Lib.indexByte]
    rw [if_neg (by simpa using fun e => h.1 e.symm), hi, if_neg (by simp), List.length_cons]
    omega
theorem lineT_plain {x : L} (h : err x = 0) : (10 : UInt8) ∉ lineT x := by
  obtain ⟨_, h1, h2⟩ := err_zero h
  unfold lineT
  rw [List.mem_append, List.mem_cons]
  rintro (hk | hk | hk)
  · exact (inKey_not 10 (List.all_eq_true.1 h1 _ hk)).2 rfl
  · cases hk
  · exact inVal_not 10 (List.all_eq_true.1 h2 _ hk) rfl
def ofT (l : List UInt8) : ByteArray := ⟨l.toArray⟩
theorem ofT_data (l : List UInt8) : (ofT l).data.toList = l := rfl
theorem ofT_of (p : ByteArray) : ofT p.data.toList = p := rfl
theorem at_lineT {x : L} (h : err x = 0) : at_ (ofT (lineT x)) = (x.k.size : Int) := by
  obtain ⟨_, h1, _⟩ := err_zero h
  unfold at_
  rw [ofT_data]
  unfold lineT
  rw [index_at 61 x.k.data.toList x.v.data.toList (fun hk => (inKey_not 61 (List.all_eq_true.1 h1 _ hk)).1 rfl)]
  simp
theorem line_lineT {x : L} (h : err x = 0) : line (ofT (lineT x)) = x ∧ pErr (ofT (lineT x)) = 0 := by
  have ha := at_lineT h
  have hl : line (ofT (lineT x)) = x := by
    unfold line
    rw [ha, Int.toNat_natCast]
    have hs : (ofT (lineT x)).size = (lineT x).length := by simp [ofT, ByteArray.size]
    have hk : (ofT (lineT x)).extract 0 x.k.size = x.k := by
      apply WideShapes.bytes_inj
      rw [Lib.extract_from_zero, ofT_data]
      unfold lineT
      rw [List.take_append_of_le_length (by simp)]
      exact List.take_of_length_le (by simp)
    have hv : (ofT (lineT x)).extract (x.k.size + 1) (ofT (lineT x)).size = x.v := by
      apply WideShapes.bytes_inj
      rw [Lib.extract_to_end, ofT_data]
      unfold lineT
      rw [List.drop_append]
      simp
    rw [hk, hv]
  refine ⟨hl, ?_⟩
  unfold pErr
  rw [if_neg (by omega), hl, h]
/-- A piece that has the byte is the text of its line. -/
theorem lineT_line {p : ByteArray} (h : 0 ≤ at_ p) : lineT (line p) = p.data.toList := by
  obtain ⟨k, hk⟩ : ∃ k : Nat, at_ p = (k : Int) := ⟨(at_ p).toNat, by omega⟩
  obtain ⟨h1, _⟩ := Lib.indexByte_some (l := p.data.toList) (c := 61) (o := k) hk
  have hlt : k < p.data.toList.length := by
    by_cases hl : k < p.data.toList.length
    · exact hl
    · rw [List.getElem?_eq_none (by omega)] at h1; cases h1
  unfold line lineT
  rw [hk, Int.toNat_natCast, Lib.extract_from_zero, Lib.extract_to_end]
  rw [List.getElem?_eq_getElem hlt] at h1
  injection h1 with h1
  rw [← h1, ← List.drop_eq_getElem_cons hlt, List.take_append_drop]
theorem at_of_err {p : ByteArray} (h : pErr p = 0) : 0 ≤ at_ p ∧ err (line p) = 0 := by
  unfold pErr at h
  split at h
  · cases h
  · exact ⟨by omega, h⟩
/-- Splitting what was joined. -/
theorem split_join {l : List L} (h : jErr l = 0) : sBad (ofT (jOut l)) = (0, 0) ∧ sOut (ofT (jOut l)) = l := by
  unfold jErr at h
  split at h
  · cases h
  rename_i h60
  split at h
  · rename_i hf; exact absurd h hf
  rename_i hf
  have hf : fault l = 0 := by simpa using hf
  split at h
  · cases h
  rename_i hs
  have hall := fault_back l hf
  have ho : jOut l = jText l := by unfold jOut; rw [if_pos]; unfold jErr; rw [if_neg h60, if_neg (by simpa using hf), if_neg hs]
  rw [ho]
  have hz : (ofT (jText l)).size = (jText l).length := by simp [ofT, ByteArray.size]
  cases l with
  | nil => exact ⟨by decide, by decide⟩
  | cons x r =>
    have hp : pieces (ofT (jText (x :: r))) = (x :: r).map (fun y => ofT (lineT y)) := by
      unfold pieces jText
      rw [ofT_data, parts_glue 10 _ (by simp) (by
        intro p hp
        obtain ⟨y, hy, rfl⟩ := List.mem_map.1 hp
        exact lineT_plain (hall y hy)), List.map_map]
      rfl
    have hpos : 0 < (jText (x :: r)).length := by
      unfold jText
      have : ∃ t u, Ad.glue 10 ((x :: r).map lineT) = lineT x ++ t ∧ u = t := by
        cases r with
        | nil => exact ⟨[], [], by simp [Ad.glue], rfl⟩
        | cons y r => exact ⟨_, _, rfl, rfl⟩
      obtain ⟨t, _, e, _⟩ := this
      rw [e, List.length_append, lineT_length]
      omega
    have hb : sBad (ofT (jText (x :: r))) = (0, 0) := by
      unfold sBad
      rw [hz, if_neg hs, if_neg (by omega), hp, if_neg (by rw [List.length_map]; exact h60), wrong_good]
      intro p hq
      obtain ⟨y, hy, rfl⟩ := List.mem_map.1 hq
      exact (line_lineT (hall y hy)).2
    refine ⟨hb, ?_⟩
    unfold sOut
    rw [hb, hz, if_pos ⟨rfl, by omega⟩, hp, List.map_map, List.map_congr_left (g := id)]
    · simp
    · intro y hy
      exact (line_lineT (hall y hy)).1
/-- Joining what was split. -/
theorem join_split {s : ByteArray} (h : (sBad s).2 = 0) : (sBad s).1 = 0 ∧ jErr (sOut s) = 0 ∧ ofT (jOut (sOut s)) = s := by
  have h0 := h
  unfold sBad at h ⊢
  split at h
  · cases h
  rename_i h3
  rw [if_neg h3]
  split at h
  · rename_i hz
    rw [if_pos hz]
    have ho : sOut s = [] := by unfold sOut; rw [if_neg (fun e => e.2 hz)]
    rw [ho]
    refine ⟨rfl, by decide, ?_⟩
    have : s.data.toList = [] := List.length_eq_zero_iff.1 (by simpa using hz)
    apply WideShapes.bytes_inj
    rw [this]; rfl
  · rename_i hz
    rw [if_neg hz]
    split at h
    · cases h
    rename_i h6
    rw [if_neg h6]
    obtain ⟨g1, g2⟩ := wrong_back _ _ h
    have ho : sOut s = (pieces s).map line := by unfold sOut; rw [if_pos ⟨h0, hz⟩]
    have ht : jText (sOut s) = s.data.toList := by
      rw [ho]
      unfold jText
      rw [List.map_map, List.map_congr_left (f := lineT ∘ line) (g := (fun p : ByteArray => p.data.toList)) (fun p hp => lineT_line (at_of_err (g2 p hp)).1), pieces_data, Ad.glue_parts]
    have hs : s.data.toList.length = s.size := by simp
    have hj : jErr (sOut s) = 0 := by
      unfold jErr
      rw [if_neg (by rw [ho, List.length_map]; exact h6), if_neg, if_neg (by rw [ht, hs]; exact h3)]
      rw [ho, fault_good]
      · simp
      · intro x hx
        obtain ⟨p, hp, rfl⟩ := List.mem_map.1 hx
        exact (at_of_err (g2 p hp)).2
    refine ⟨g1, hj, ?_⟩
    unfold jOut
    rw [if_pos hj, ht]
    rfl
/-- What comes beside an error. -/
theorem split_err {s : ByteArray} (h : (sBad s).2 ≠ 0) : sOut s = [] ∧ (sBad s).1 ≤ 1 + s.data.toList.count 10 := by
  refine ⟨by unfold sOut; rw [if_neg (fun e => h e.1)], ?_⟩
  unfold sBad
  split
  · omega
  split
  · omega
  split
  · omega
  have := wrong_le (pieces s) 0
  rw [pieces_length] at this
  omega
end Go.Proofs.YtjdflnnpamjjcaaDoor.Ln
