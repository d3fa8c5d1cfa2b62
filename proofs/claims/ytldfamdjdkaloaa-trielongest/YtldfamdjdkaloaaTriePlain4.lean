/- The plain words of chapter 8, more: how nodes in order part, how many nodes a trie has, that its order of building does not matter. -/
import Derived.Test.YtldfamdjdkaloaaTriePlain3
namespace Go.Proofs.Ytldfamdjdkaloaa.Tr
open Nt

/-- Each network once. -/
def once (l : List Node) : Prop := l.Pairwise fun n m => nw n ≠ nw m
theorem sorted_once {l : List Node} (h : sorted l) : once l := List.Pairwise.imp (R := fun n m => lt (nw n) (nw m)) (fun {a b} (h : lt (nw a) (nw b)) (e : nw a = nw b) => lt_irrefl (nw b) (by rw [e] at h; exact h)) h
theorem owner_none {t : Nw} : ∀ {l : List Node}, (∀ n ∈ l, nw n ≠ t) → ∀ o, l.foldl (fun o n => if nw n = t then n.o else o) o = o := by
  intro l
  induction l with
  | nil => intro _ o; rfl
  | cons x r ih =>
    intro h o
    rw [List.foldl_cons, if_neg (h x (List.mem_cons_self ..))]
    exact ih (fun n hn => h n (List.mem_cons_of_mem _ hn)) o
theorem owner_mem {t : Nw} : ∀ {l : List Node}, once l → ∀ {n : Node}, n ∈ l → nw n = t → ∀ o, l.foldl (fun o n => if nw n = t then n.o else o) o = n.o := by
  intro l
  induction l with
  | nil => intro _ n hn; cases hn
  | cons x r ih =>
    intro h n hn e o
    obtain ⟨h1, h2⟩ := List.pairwise_cons.1 h
    rw [List.foldl_cons]
    rcases List.mem_cons.1 hn with rfl | hn
    · rw [if_pos e]
      exact owner_none (fun m hm hc => h1 m hm (e.trans hc.symm)) _
    · exact ih h2 hn e _
theorem once_perm {l m : List Node} (h : l.Perm m) (ho : once l) : once m := (h.pairwise_iff (fun {_ _} h => Ne.symm h)).1 ho
theorem owner_perm {l m : List Node} (h : l.Perm m) (ho : once l) (t : Nw) : ownerOf t l = ownerOf t m := by
  unfold ownerOf
  by_cases hc : ∃ n ∈ l, nw n = t
  · obtain ⟨n, hn, e⟩ := hc
    rw [owner_mem ho hn e, owner_mem (once_perm h ho) (h.mem_iff.1 hn) e]
  · rw [owner_none (fun n hn e => hc ⟨n, hn, e⟩), owner_none (fun n hn e => hc ⟨n, h.mem_iff.2 hn, e⟩)]
theorem top_perm {l m : List Node} (h : l.Perm m) (hg : ∀ n ∈ l, good (nw n)) : topN l = topN m := by
  by_cases hl : l = []
  · subst hl; rw [List.nil_perm.1 h]
  · have hm : m ≠ [] := fun e => hl (by rw [e] at h; exact List.perm_nil.1 h)
    have hg' : ∀ n ∈ m, good (nw n) := fun n hn => hg n (h.mem_iff.2 hn)
    exact H_anti (topN_least hm fun n hn => topN_holds hg n (h.mem_iff.2 hn)) (topN_least hl fun n hn => topN_holds hg' n (h.mem_iff.1 hn))
/-- The trie does not depend on the order of the networks. -/
theorem grown_perm : ∀ (f : Nat) {l m : List Node}, l.Perm m → once l → (∀ n ∈ l, good (nw n)) → grown f l = grown f m := by
  intro f
  induction f with
  | zero => intro l m _ _ _; unfold grown; rfl
  | succ f ih =>
    intro l m h ho hg
    cases l with
    | nil => rw [List.nil_perm.1 h]
    | cons x r =>
      cases m with
      | nil => exact absurd h.length_eq (by simp)
      | cons y q =>
        have ht := top_perm h hg
        have e1 := ih (h.filter fun n => decide (nw n ≠ topN (y :: q)) && decide (bitAt n.a (topN (y :: q)).2.toNat = 0)) (ho.filter _) (left_good hg)
        have e2 := ih (h.filter fun n => decide (nw n ≠ topN (y :: q)) && decide (bitAt n.a (topN (y :: q)).2.toNat ≠ 0)) (ho.filter _) (right_good hg)
        unfold grown
        rw [ht, owner_perm h ho]
        unfold leftOf rightOf
        rw [e1, e2]
/-- What is a top, and the halves: all there is. -/
theorem parts_perm (t : Nw) (l : List Node) : ((l.filter fun n => decide (nw n = t)) ++ (leftOf t l ++ rightOf t l)).Perm l := by
  have h1 := List.filter_append_perm (fun n => decide (nw n = t)) l
  have h2 := List.filter_append_perm (fun n => decide (bitAt n.a t.2.toNat = 0)) (l.filter fun n => !decide (nw n = t))
  refine List.Perm.trans ?_ h1
  refine List.Perm.append_left _ ?_
  refine List.Perm.trans ?_ h2
  unfold leftOf rightOf
  rw [List.filter_filter, List.filter_filter]
  refine List.Perm.of_eq ?_
  congr 1
  · apply List.filter_congr; intro n _; by_cases h : nw n = t <;> by_cases h' : bitAt n.a t.2.toNat = 0 <;> simp [h, h']
  · apply List.filter_congr; intro n _; by_cases h : nw n = t <;> by_cases h' : bitAt n.a t.2.toNat = 0 <;> simp [h, h']
theorem tops_once {t : Nw} {l : List Node} (ho : once l) : (l.filter fun n => decide (nw n = t)) = [] ∨ ∃ n ∈ l, nw n = t ∧ (l.filter fun n => decide (nw n = t)) = [n] := by
  cases h : l.filter fun n => decide (nw n = t) with
  | nil => exact .inl rfl
  | cons x r =>
    right
    have hx : x ∈ l.filter fun n => decide (nw n = t) := by rw [h]; exact List.mem_cons_self ..
    have ex : nw x = t := by simpa using (List.mem_filter.1 hx).2
    refine ⟨x, (List.mem_filter.1 hx).1, ex, ?_⟩
    have hp : once (x :: r) := by rw [← h]; exact ho.filter _
    cases r with
    | nil => rfl
    | cons y q =>
      have hy : y ∈ l.filter fun n => decide (nw n = t) := by rw [h]; simp
      have ey : nw y = t := by simpa using (List.mem_filter.1 hy).2
      exact absurd (ex.trans ey.symm) ((List.pairwise_cons.1 hp).1 y (List.mem_cons_self ..))
/-- Nodes that have owners, as if each were alone. -/
def single (l : List Node) : Prop := ∀ n ∈ l, 0 < n.o.size ∧ n.s = 1
theorem owned_single (l : List Node) : single (owned l) := by
  intro n hn
  unfold owned at hn
  obtain ⟨m, hm, rfl⟩ := List.mem_map.1 hn
  exact ⟨by simpa using (List.mem_filter.1 hm).2, rfl⟩
theorem owned_append (l m : List Node) : owned (l ++ m) = owned l ++ owned m := by unfold owned; rw [List.filter_append, List.map_append]
theorem owned_of_single {l : List Node} (h : single l) : owned l = l := by
  unfold owned
  rw [List.filter_eq_self.2 (fun n hn => by simpa using (h n hn).1)]
  refine (List.map_congr_left (g := id) fun n hn => ?_).trans (List.map_id l)
  obtain ⟨a, b, o, s⟩ := n
  have := (h _ hn).2
  simp at this
  subst this
  rfl
/-- The nodes of a trie that have owners are those that it was made of. -/
theorem owned_grown : ∀ (f : Nat) (l : List Node), (∀ n ∈ l, good (nw n)) → once l → single l → (l ≠ [] → 33 ≤ f + (topN l).2.toNat) → (owned (grown f l)).Perm l := by
  intro f
  induction f with
  | zero =>
    intro l hg _ _ hd
    cases l with
    | nil => exact List.Perm.refl _
    | cons x r =>
      exfalso
      have h1 := hd (by simp)
      have h2 := err_zero (topN_good (l := x :: r) (by simp) hg).2
      omega
  | succ f ih =>
    intro l hg ho hs hd
    cases l with
    | nil => exact List.Perm.refl _
    | cons x r =>
      have hd' := hd (by simp)
      have t0 := err_zero (topN_good (l := x :: r) (by simp) hg).2
      have hl := ih (leftOf (topN (x :: r)) (x :: r)) (left_good hg) (ho.filter _) (fun n hn => hs n (List.mem_filter.1 hn).1) (fun hne => by have := left_top hg hne; omega)
      have hr := ih (rightOf (topN (x :: r)) (x :: r)) (right_good hg) (ho.filter _) (fun n hn => hs n (List.mem_filter.1 hn).1) (fun hne => by have := right_top hg hne; omega)
      unfold grown
      rw [← List.singleton_append, owned_append, owned_append]
      refine List.Perm.trans (List.Perm.append ?_ (List.Perm.append hl hr)) (parts_perm (topN (x :: r)) (x :: r))
      rcases tops_once (t := topN (x :: r)) ho with h | ⟨n, hn, e, h⟩
      · rw [h]
        have hno : ∀ n ∈ x :: r, nw n ≠ topN (x :: r) := fun n hn e => by
          have : n ∈ (x :: r).filter fun n => decide (nw n = topN (x :: r)) := List.mem_filter.2 ⟨hn, by simpa using e⟩
          rw [h] at this; cases this
        rw [show ownerOf (topN (x :: r)) (x :: r) = ByteArray.empty from owner_none hno _]
        exact List.Perm.refl _
      · rw [h, show ownerOf (topN (x :: r)) (x :: r) = n.o from owner_mem ho hn e _]
        obtain ⟨h1, h2⟩ := hs n hn
        unfold owned
        rw [List.filter_cons_of_pos (by simpa using h1), ← e]
        refine List.Perm.of_eq ?_
        obtain ⟨a, b, o, s⟩ := n
        simp at h2
        subst h2
        rfl
theorem sorted_perm_eq : ∀ {l m : List Node}, l.Perm m → sorted l → sorted m → l = m := by
  intro l
  induction l with
  | nil => intro m h _ _; exact (List.nil_perm.1 h).symm
  | cons x r ih =>
    intro m h hl hm
    cases m with
    | nil => exact absurd h.length_eq (by simp)
    | cons y q =>
      obtain ⟨l1, l2⟩ := List.pairwise_cons.1 hl
      obtain ⟨m1, m2⟩ := List.pairwise_cons.1 hm
      have hxy : x = y := by
        rcases List.mem_cons.1 (h.mem_iff.1 (List.mem_cons_self ..)) with e | hx
        · exact e
        · rcases List.mem_cons.1 (h.mem_iff.2 (List.mem_cons_self ..)) with e | hy
          · exact e.symm
          · exact absurd (m1 x hx) (lt_asymm (l1 y hy))
      subst hxy
      rw [ih (List.Perm.cons_inv h) l2 m2]
/-- So of nodes in order they are these, in order. -/
theorem owned_grown_eq {f : Nat} {l : List Node} (hg : ∀ n ∈ l, good (nw n)) (hs : sorted l) (h1 : single l) (hd : l ≠ [] → 33 ≤ f + (topN l).2.toNat) : owned (grown f l) = l :=
  sorted_perm_eq (owned_grown f l hg (sorted_once hs) h1 hd) (owned_sorted (grown_sorted f l hg)) hs
/-- A trie has fewer than twice as many nodes as networks. -/
theorem grown_small : ∀ (f : Nat) (l : List Node), (∀ n ∈ l, good (nw n)) → l ≠ [] → (grown f l).length + 1 ≤ 2 * l.length := by
  intro f
  induction f with
  | zero => intro l _ hl; unfold grown; have := List.length_pos_iff.2 hl; simp; omega
  | succ f ih =>
    intro l hg hl
    cases l with
    | nil => exact absurd rfl hl
    | cons x r =>
      have hh := halves_le (topN (x :: r)) (x :: r)
      have hpos : 1 ≤ (x :: r).length := by simp
      have hbits := topN_holds hg
      have il := ih _ (left_good (t := topN (x :: r)) hg)
      have ir := ih _ (right_good (t := topN (x :: r)) hg)
      have tl := left_top hg
      have tr := right_top hg
      have sl : leftOf (topN (x :: r)) (x :: r) = x :: r → False := fun e => by have := tl (by rw [e]; simp); rw [e] at this; omega
      have sr : rightOf (topN (x :: r)) (x :: r) = x :: r → False := fun e => by have := tr (by rw [e]; simp); rw [e] at this; omega
      have ll : (leftOf (topN (x :: r)) (x :: r)).length < (x :: r).length := by
        refine Nat.lt_of_le_of_ne (List.length_filter_le _ _) fun e => sl ?_
        exact List.filter_eq_self.2 (List.length_filter_eq_length_iff.1 e)
      have rl : (rightOf (topN (x :: r)) (x :: r)).length < (x :: r).length := by
        refine Nat.lt_of_le_of_ne (List.length_filter_le _ _) fun e => sr ?_
        exact List.filter_eq_self.2 (List.length_filter_eq_length_iff.1 e)
      unfold grown
      generalize leftOf (topN (x :: r)) (x :: r) = L at *
      generalize rightOf (topN (x :: r)) (x :: r) = R at *
      generalize (x :: r).length = N at *
      rw [List.length_cons, List.length_append]
      have gnil : (grown f ([] : List Node)).length = 0 := by cases f <;> rfl
      by_cases h1 : L = []
      · by_cases h2 : R = []
        · rw [h1, h2, gnil]; omega
        · rw [h1, gnil]; have := ir h2; omega
      · by_cases h2 : R = []
        · rw [h2, gnil]; have := il h1; omega
        · have := il h1; have := ir h2; omega
theorem grown_two (f : Nat) (l : List Node) (hg : ∀ n ∈ l, good (nw n)) : (grown f l).length ≤ 2 * l.length := by
  by_cases h : l = []
  · subst h; cases f <;> simp [grown]
  · have := grown_small f l hg h; omega
end Go.Proofs.Ytldfamdjdkaloaa.Tr
