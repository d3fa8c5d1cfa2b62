/- The plain words of chapter 8: finding the longest network that has an address. -/
import Derived.Test.YtldfamdjdkaloaaTriePlain5
namespace Go.Proofs.Ytldfamdjdkaloaa.Tr
open Nt

/-- Does the node's network have the address? -/
def hasN (x : Nat) (n : Node) : Bool := has n.a n.b x
/-- The last owner so far (the program's way). -/
def lastO (x : Nat) (l : List Node) : ByteArray := l.foldl (fun o n => if hasN x n = true ∧ 0 < n.o.size then n.o else o) ByteArray.empty
/-- The longest so far (the reference's way). -/
def mostO (x : Nat) (l : List Node) : ByteArray × Int := l.foldl (fun p n => if hasN x n = true ∧ p.2 < n.b then (n.o, n.b) else p) (ByteArray.empty, -1)
theorem lastO_snoc (x : Nat) (l : List Node) (n : Node) : lastO x (l ++ [n]) = if hasN x n = true ∧ 0 < n.o.size then n.o else lastO x l := by unfold lastO; rw [List.foldl_append]; rfl
theorem mostO_snoc (x : Nat) (l : List Node) (n : Node) : mostO x (l ++ [n]) = if hasN x n = true ∧ (mostO x l).2 < n.b then (n.o, n.b) else mostO x l := by unfold mostO; rw [List.foldl_append]; rfl
theorem lastO_none {x : Nat} (l m : List Node) (h : ∀ n ∈ m, hasN x n = false) : lastO x (l ++ m) = lastO x l := by
  unfold lastO
  rw [List.foldl_append]
  generalize List.foldl _ _ l = o
  induction m generalizing o with
  | nil => rfl
  | cons n r ih =>
    rw [List.foldl_cons, if_neg (by rw [h n (List.mem_cons_self ..)]; simp)]
    exact ih (fun k hk => h k (List.mem_cons_of_mem _ hk)) o
/-- Of two networks that have an address the later one is longer. -/
theorem has_lt {x : Nat} {n m : Node} (hn : hasN x n = true) (hm : hasN x m = true) (h : lt (nw n) (nw m)) : n.b < m.b := by
  obtain ⟨n1, n2⟩ := has_iff.1 hn
  obtain ⟨m1, m2⟩ := has_iff.1 hm
  obtain ⟨n0, _, _⟩ := err_zero n1
  obtain ⟨m0, _, _⟩ := err_zero m1
  apply Decidable.byContradiction
  intro hc
  have hle : m.b.toNat ≤ n.b.toNat := by omega
  have h1 := cut_cut x hle
  rw [n2, m2] at h1
  have h2 := cut_le n.a m.b.toNat
  unfold lt nw at h
  simp only at h
  omega
theorem most_sorted {x : Nat} : ∀ {l : List Node}, sorted l → (∀ n ∈ l, good (nw n)) → single l → ((mostO x l = (ByteArray.empty, -1) ∧ lastO x l = ByteArray.empty) ∨ ∃ n ∈ l, hasN x n = true ∧ mostO x l = (n.o, n.b) ∧ lastO x l = n.o) := by
  intro l
  induction hn : l.length generalizing l with
  | zero =>
    intro _ _ _
    rw [List.eq_nil_of_length_eq_zero hn]
    exact .inl ⟨rfl, rfl⟩
  | succ k ih =>
    intro hs hg h1
    have hne : l ≠ [] := by intro h; rw [h] at hn; cases hn
    obtain ⟨r, m, rfl⟩ : ∃ r m, l = r ++ [m] := ⟨l.dropLast, l.getLast hne, (List.dropLast_concat_getLast hne).symm⟩
    have hsr := List.pairwise_append.1 hs
    have hr := ih (l := r) (by simpa using hn) hsr.1 (fun n hn => hg n (List.mem_append_left _ hn)) (fun n hn => h1 n (List.mem_append_left _ hn))
    have hm1 := h1 m (by simp)
    have gm := (err_zero (hg m (by simp)).2).1
    change 0 ≤ m.b at gm
    rw [mostO_snoc, lastO_snoc]
    by_cases hh : hasN x m = true
    · right
      refine ⟨m, by simp, hh, ?_, by rw [if_pos ⟨hh, hm1.1⟩]⟩
      rw [if_pos]
      refine ⟨hh, ?_⟩
      rcases hr with ⟨e, _⟩ | ⟨n, hn', hn2, e, _⟩
      · rw [e]; show (-1 : Int) < m.b; omega
      · rw [e]; exact has_lt hn2 hh (hsr.2.2 n hn' m (by simp))
    · rw [if_neg (fun h => hh h.1), if_neg (fun h => hh h.1)]
      rcases hr with hr | ⟨n, hn', hr⟩
      · exact .inl hr
      · exact .inr ⟨n, List.mem_append_left _ hn', hr⟩
theorem lastO_owned (x : Nat) (l : List Node) : lastO x (owned l) = lastO x l := by
  unfold lastO owned
  generalize ByteArray.empty = o
  induction l generalizing o with
  | nil => rfl
  | cons n r ih =>
    by_cases h : 0 < n.o.size
    · rw [List.filter_cons_of_pos (by simpa using h), List.map_cons, List.foldl_cons, List.foldl_cons]
      exact ih _
    · rw [List.filter_cons_of_neg (by simpa using h), List.foldl_cons, if_neg (fun hc => h hc.2)]
      exact ih o
/-- What Find gives: the owner, the error. -/
noncomputable def findO (x : Nat) (l : List Node) : ByteArray := open Classical in if errs l = 0 ∧ Fits l then lastO x l else ByteArray.empty
/-- Each node's network holds those of the nodes that its size counts. -/
def Nest (g : List Node) : Prop := ∀ i (h : i < g.length), 1 ≤ g[i].s ∧ (i : Int) + g[i].s ≤ g.length ∧ ∀ j (hj : j < g.length), i ≤ j → (j : Int) < (i : Int) + g[i].s → H (nw g[i]) (nw g[j])
theorem Nest.append {l m : List Node} (hl : Nest l) (hm : Nest m) : Nest (l ++ m) := by
  intro i hi
  rw [List.length_append] at hi
  by_cases h : i < l.length
  · obtain ⟨h1, h2, h3⟩ := hl i h
    rw [List.getElem_append_left h]
    refine ⟨h1, by rw [List.length_append]; omega, fun j hj hij hjs => ?_⟩
    rw [List.getElem_append_left (show j < l.length by omega)]
    exact h3 j (by omega) hij hjs
  · obtain ⟨h1, h2, h3⟩ := hm (i - l.length) (by omega)
    rw [List.getElem_append_right (by omega)]
    refine ⟨h1, by rw [List.length_append]; omega, fun j hj hij hjs => ?_⟩
    have hj' : j < l.length + m.length := by rw [List.length_append] at hj; exact hj
    rw [List.getElem_append_right (by omega)]
    exact h3 (j - l.length) (by omega) (by omega) (by omega)
theorem Nest.cons {n : Node} {m : List Node} (hm : Nest m) (hs : n.s = ((1 + m.length : Nat) : Int)) (hh : ∀ k ∈ n :: m, H (nw n) (nw k)) : Nest (n :: m) := by
  intro i hi
  cases i with
  | zero =>
    rw [List.getElem_cons_zero, hs]
    refine ⟨by omega, by rw [List.length_cons]; omega, fun j hj _ _ => hh _ (List.getElem_mem hj)⟩
  | succ i =>
    rw [List.length_cons] at hi
    obtain ⟨h1, h2, h3⟩ := hm i (by omega)
    rw [List.getElem_cons_succ]
    refine ⟨h1, by rw [List.length_cons]; omega, fun j hj hij hjs => ?_⟩
    cases j with
    | zero => omega
    | succ j =>
      rw [List.getElem_cons_succ]
      have hj' : j + 1 < m.length + 1 := by rw [List.length_cons] at hj; exact hj
      exact h3 j (by omega) (by omega) (by omega)
theorem grown_nest : ∀ (f : Nat) (l : List Node), (∀ n ∈ l, good (nw n)) → Nest (grown f l) := by
  intro f
  induction f with
  | zero => intro l _ i hi; unfold grown at hi; simp at hi
  | succ f ih =>
    intro l hg
    cases l with
    | nil => intro i hi; unfold grown at hi; simp at hi
    | cons x r =>
      have gt := topN_good (l := x :: r) (by simp) hg
      have gl := grown_in f (leftOf (topN (x :: r)) (x :: r)) (topN (x :: r)) (left_good hg) (fun m hm => topN_holds hg m (List.mem_filter.1 hm).1)
      have gr := grown_in f (rightOf (topN (x :: r)) (x :: r)) (topN (x :: r)) (right_good hg) (fun m hm => topN_holds hg m (List.mem_filter.1 hm).1)
      unfold grown
      refine Nest.cons ((ih _ (left_good hg)).append (ih _ (right_good hg))) rfl fun k hk => ?_
      rcases List.mem_cons.1 hk with rfl | hk
      · exact H_self gt
      · rcases List.mem_append.1 hk with hk | hk
        · exact gl k hk
        · exact gr k hk
/-- What does not have the address holds nothing that has it. -/
theorem H_has {x : Nat} {n m : Node} (h : H (nw n) (nw m)) (hm : hasN x m = true) : hasN x n = true := by
  obtain ⟨h1, h2, h3, h4⟩ := holds_iff.1 h
  obtain ⟨m1, m2⟩ := has_iff.1 hm
  obtain ⟨n0, _, _⟩ := err_zero h3
  refine has_iff.2 ⟨h3, ?_⟩
  change cut m.a n.b.toNat = n.a at h4
  change n.b ≤ m.b at h2
  change 0 ≤ n.b at n0
  rw [← h4, ← m2, cut_cut x (by omega)]
/-- A step of the program's walk past what does not have the address. -/
theorem lastO_skip {x : Nat} {g : List Node} (hn : Nest g) {i : Nat} (hi : i < g.length) (h : hasN x g[i] = false) {k : Nat} (hk : (k : Int) = (i : Int) + g[i].s) : lastO x (g.take k) = lastO x (g.take i) ∧ k ≤ g.length ∧ i < k := by
  obtain ⟨h1, h2, h3⟩ := hn i hi
  have hik : i < k := by omega
  have hkl : k ≤ g.length := by omega
  refine ⟨?_, hkl, hik⟩
  have e : g.take k = g.take i ++ (g.drop i).take (k - i) := by
    rw [show k = i + (k - i) by omega, List.take_add, show i + (k - i) - i = k - i by omega]
  rw [e]
  refine lastO_none _ _ fun n hm => ?_
  obtain ⟨j, hj, rfl⟩ := List.mem_iff_getElem.1 hm
  rw [List.length_take, List.length_drop] at hj
  rw [List.getElem_take, List.getElem_drop]
  cases hh : hasN x g[i + j] with
  | false => rfl
  | true =>
    have := H_has (h3 (i + j) (by omega) (by omega) (by omega)) hh
    rw [h] at this
    cases this
end Go.Proofs.Ytldfamdjdkaloaa.Tr
