/- The plain words of chapter 8, more: nodes in order part at a place; the errors of Check; how many networks there are. -/
import Derived.Test.YtldfamdjdkaloaaTriePlain4
namespace Go.Proofs.Ytldfamdjdkaloaa.Tr
open Nt

theorem sorted_take {l : List Node} (h : sorted l) (k : Nat) : sorted (l.take k) := List.Pairwise.sublist (List.take_sublist k l) h
theorem sorted_drop {l : List Node} (h : sorted l) (k : Nat) : sorted (l.drop k) := List.Pairwise.sublist (List.drop_sublist k l) h
theorem sorted_get {l : List Node} (h : sorted l) {i j : Nat} (hi : i < j) (hj : j < l.length) : lt (nw (l[i]'(by omega))) (nw l[j]) := List.pairwise_iff_getElem.1 h i j (by omega) hj hi
/-- Nodes within a network and behind it. -/
structure Within (t : Nw) (l : List Node) : Prop where
  t0 : 0 ≤ t.2
  holds : ∀ n ∈ l, H t (nw n)
  ne : ∀ n ∈ l, nw n ≠ t
theorem Within.mono {t : Nw} {l : List Node} (h : Within t l) (hs : sorted l) {i j : Nat} (hi : i ≤ j) (hj : j < l.length) (h1 : bitAt (l[i]'(by omega)).a t.2.toNat = 1) : bitAt l[j].a t.2.toNat = 1 := by
  rcases Nat.eq_or_lt_of_le hi with rfl | hi
  · exact h1
  · rcases bit_two l[j].a t.2.toNat with hb | hb
    · exfalso
      have e1 := half_holds (h.holds _ (List.getElem_mem (show i < l.length by omega))) (h.ne _ (List.getElem_mem _))
      have e2 := half_holds (h.holds _ (List.getElem_mem hj)) (h.ne _ (List.getElem_mem _))
      rw [show bitAt (nw (l[i]'(by omega))).1 t.2.toNat = 1 from h1] at e1
      rw [show bitAt (nw l[j]).1 t.2.toNat = 0 from hb] at e2
      exact lt_asymm (sorted_get hs hi hj) (lt_halves h.t0 e2 e1)
    · exact hb
/-- Where the ones begin. -/
def Ones (t : Nw) (l : List Node) (k : Nat) : Prop := k ≤ l.length ∧ (∀ i (_ : i < k) (h : i < l.length), bitAt l[i].a t.2.toNat = 0) ∧ ∀ i (_ : k ≤ i) (h : i < l.length), bitAt l[i].a t.2.toNat = 1
theorem Ones.left {t : Nw} {l : List Node} {k : Nat} (h : Ones t l k) (hw : ∀ n ∈ l, nw n ≠ t) : leftOf t l = l.take k := by
  conv => lhs; rw [← List.take_append_drop k l]
  unfold leftOf
  rw [List.filter_append]
  rw [List.filter_eq_self.2, List.filter_eq_nil_iff.2, List.append_nil]
  · intro n hn
    obtain ⟨i, hi, rfl⟩ := List.mem_iff_getElem.1 hn
    rw [List.getElem_drop]
    rw [List.length_drop] at hi
    rw [h.2.2 (k + i) (by omega) (by omega)]
    simp
  · intro n hn
    obtain ⟨i, hi, rfl⟩ := List.mem_iff_getElem.1 hn
    rw [List.length_take] at hi
    rw [List.getElem_take, h.2.1 i (by omega) (by omega)]
    simpa using hw _ (List.getElem_mem _)
theorem Ones.right {t : Nw} {l : List Node} {k : Nat} (h : Ones t l k) (hw : ∀ n ∈ l, nw n ≠ t) : rightOf t l = l.drop k := by
  conv => lhs; rw [← List.take_append_drop k l]
  unfold rightOf
  rw [List.filter_append]
  rw [List.filter_eq_nil_iff.2, List.filter_eq_self.2, List.nil_append]
  · intro n hn
    obtain ⟨i, hi, rfl⟩ := List.mem_iff_getElem.1 hn
    rw [List.getElem_drop]
    rw [List.length_drop] at hi
    rw [h.2.2 (k + i) (by omega) (by omega)]
    simpa using hw _ (List.getElem_mem _)
  · intro n hn
    obtain ⟨i, hi, rfl⟩ := List.mem_iff_getElem.1 hn
    rw [List.length_take] at hi
    rw [List.getElem_take, h.2.1 i (by omega) (by omega)]
    simp
/-- What is left behind the top. -/
def rest (l : List Node) : List Node := match l with
  | [] => []
  | x :: r => if nw x = topN (x :: r) then r else x :: r
theorem rest_facts {x : Node} {r : List Node} (hg : ∀ n ∈ x :: r, good (nw n)) (hs : sorted (x :: r)) :
    Within (topN (x :: r)) (rest (x :: r)) ∧ sorted (rest (x :: r)) ∧ ownerOf (topN (x :: r)) (x :: r) = (if nw x = topN (x :: r) then x.o else ByteArray.empty) ∧
      leftOf (topN (x :: r)) (x :: r) = leftOf (topN (x :: r)) (rest (x :: r)) ∧ rightOf (topN (x :: r)) (x :: r) = rightOf (topN (x :: r)) (rest (x :: r)) ∧ (rest (x :: r)).length ≤ (x :: r).length ∧ (∀ n ∈ rest (x :: r), n ∈ x :: r) := by
  have hh := topN_holds hg
  have t0 := (err_zero (topN_good (l := x :: r) (by simp) hg).2).1
  obtain ⟨s1, s2⟩ := List.pairwise_cons.1 hs
  rw [show rest (x :: r) = (if nw x = topN (x :: r) then r else x :: r) from rfl]
  generalize topN (x :: r) = t at *
  by_cases h : nw x = t
  · rw [if_pos h, if_pos h]
    refine ⟨⟨t0, fun n hn => hh n (List.mem_cons_of_mem _ hn), fun n hn e => ?_⟩, s2, ?_, ?_, ?_, by simp, fun n hn => List.mem_cons_of_mem _ hn⟩
    · have := s1 n hn; rw [h, e] at this; exact lt_irrefl _ this
    · exact owner_mem (sorted_once hs) (List.mem_cons_self ..) h _
    · unfold leftOf; rw [List.filter_cons_of_neg (by simp [h])]
    · unfold rightOf; rw [List.filter_cons_of_neg (by simp [h])]
  · have hne : ∀ n ∈ x :: r, nw n ≠ t := by
      intro n hn e
      rcases List.mem_cons.1 hn with rfl | hn
      · exact h e
      · have := s1 n hn
        rw [e] at this
        exact lt_asymm this (lt_of_H (hh x (List.mem_cons_self ..)) h)
    rw [if_neg h, if_neg h]
    exact ⟨⟨t0, hh, hne⟩, hs, owner_none hne _, rfl, rfl, Nat.le_refl _, fun n hn => hn⟩
/-- The first error of the nodes' networks. -/
def errs : List Node → Nat
  | [] => 0
  | x :: r => if err x.a x.b = 0 then errs r else err x.a x.b
theorem errs_zero {l : List Node} : errs l = 0 ↔ ∀ n ∈ l, err n.a n.b = 0 := by
  induction l with
  | nil => exact ⟨fun _ n hn => (List.not_mem_nil hn).elim, fun _ => rfl⟩
  | cons x r ih =>
    unfold errs
    by_cases h : err x.a x.b = 0
    · rw [if_pos h, ih]
      constructor
      · intro h' n hn
        rcases List.mem_cons.1 hn with rfl | hn
        · exact h
        · exact h' n hn
      · exact fun h' n hn => h' n (List.mem_cons_of_mem _ hn)
    · rw [if_neg h]
      exact ⟨fun h' => absurd h' h, fun h' => absurd (h' x (List.mem_cons_self ..)) h⟩
theorem errs_at {l : List Node} {k : Nat} (hk : k < l.length) (h0 : errs (l.take k) = 0) : errs (l.take (k + 1)) = err l[k].a l[k].b ∧ (err l[k].a l[k].b ≠ 0 → errs l = err l[k].a l[k].b) := by
  induction l generalizing k with
  | nil => simp at hk
  | cons x r ih =>
    cases k with
    | zero =>
      refine ⟨?_, ?_⟩
      · show errs [x] = _
        unfold errs
        by_cases h : err x.a x.b = 0
        · rw [if_pos h]; exact h.symm
        · rw [if_neg h]; rfl
      · intro h
        unfold errs
        exact if_neg h
    | succ k =>
      rw [List.take_succ_cons] at h0 ⊢
      have e : ∀ q, errs (x :: q) = if err x.a x.b = 0 then errs q else err x.a x.b := fun q => rfl
      rw [e] at h0
      rw [e, e]
      by_cases h : err x.a x.b = 0
      · rw [if_pos h] at h0
        rw [if_pos h, if_pos h]
        exact ih (by simpa using hk) h0
      · rw [if_neg h] at h0; exact absurd h0 h
abbrev trie (l : List Node) : List Node := grown 33 l
/-- P8.1. -/
def Fits (l : List Node) : Prop := once (owned l) ∧ trie (owned l) = l
theorem fits_sorted {l : List Node} (hg : ∀ n ∈ l, good (nw n)) (h : Fits l) : sorted (owned l) := by
  rw [← h.2]
  exact owned_sorted (grown_sorted _ _ (owned_good hg))
theorem fits_all_sorted {l : List Node} (hg : ∀ n ∈ l, good (nw n)) (h : Fits l) : sorted l := by
  rw [← h.2]
  exact grown_sorted _ _ (owned_good hg)
theorem fits_iff {l : List Node} (hg : ∀ n ∈ l, good (nw n)) : Fits l ↔ sorted (owned l) ∧ trie (owned l) = l :=
  ⟨fun h => ⟨fits_sorted hg h, h.2⟩, fun h => ⟨sorted_once h.1, h.2⟩⟩
open Classical in
noncomputable def fault (l : List Node) : Nat := if errs l = 0 then (if Fits l then 0 else 14) else errs l
theorem deep {l : List Node} : l ≠ [] → 33 ≤ 33 + (topN l).2.toNat := fun _ => by omega
/-- There are not many networks. -/
theorem nodup_le : ∀ (N : Nat) (l : List Nat), l.Nodup → (∀ x ∈ l, x < N) → l.length ≤ N := by
  intro N
  induction N with
  | zero => intro l _ h; cases l with
    | nil => simp
    | cons x r => exact absurd (h x (List.mem_cons_self ..)) (by omega)
  | succ N ih =>
    intro l hd h
    by_cases hc : N ∈ l
    · have h1 := ih (l.erase N) (hd.erase _) (fun x hx => by
        have h2 := h x (List.mem_of_mem_erase hx)
        have h3 : x ≠ N := by rintro rfl; exact (List.Nodup.mem_erase_iff hd).1 hx |>.1 rfl
        omega)
      rw [List.length_erase_of_mem hc] at h1
      omega
    · have := ih l hd (fun x hx => by
        have h2 := h x hx
        have h3 : x ≠ N := by rintro rfl; exact hc hx
        omega)
      omega
theorem once_le {l : List Node} (hg : ∀ n ∈ l, good (nw n)) (ho : once l) : l.length ≤ 141733920768 := by
  have h := nodup_le 141733920768 (l.map fun n => n.a * 33 + n.b.toNat) ?_ ?_
  · rwa [List.length_map] at h
  · refine List.Pairwise.map _ (fun n m h => h) ?_
    refine List.Pairwise.imp_of_mem (R := fun n m => nw n ≠ nw m) (fun {n m} hn hm h e => h ?_) ho
    obtain ⟨n0, n1, _⟩ := err_zero (hg n hn).2
    obtain ⟨m0, m1, _⟩ := err_zero (hg m hm).2
    change 0 ≤ n.b at n0
    change n.b ≤ 32 at n1
    change 0 ≤ m.b at m0
    change m.b ≤ 32 at m1
    exact Prod.ext (show n.a = m.a by omega) (show n.b = m.b by omega)
  · intro x hx
    obtain ⟨n, hn, rfl⟩ := List.mem_map.1 hx
    obtain ⟨n0, n1, _⟩ := err_zero (hg n hn).2
    have := (hg n hn).1
    change n.a < _ at this
    change n.b ≤ 32 at n1
    omega
end Go.Proofs.Ytldfamdjdkaloaa.Tr
