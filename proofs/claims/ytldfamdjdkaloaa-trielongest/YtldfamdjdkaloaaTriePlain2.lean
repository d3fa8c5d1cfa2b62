/- The plain words of chapter 8 (tries): nodes, the trie of a list of nodes; nothing of the program is named here. -/
import Derived.Test.YtldfamdjdkaloaaTriePlain
namespace Go.Proofs.Ytldfamdjdkaloaa

/-- A node: a network, its owner, how many nodes there are. -/
structure Tr.Node where
  a : Nat
  b : Int
  o : ByteArray
  s : Int
namespace Tr
/-- Those that have owners. -/
def owned (l : List Node) : List Node := (l.filter fun n => decide (0 < n.o.size)).map fun n => { n with s := 1 }
theorem owned_snoc (l : List Node) (n : Node) : owned (l ++ [n]) = owned l ++ (if 0 < n.o.size then [{ n with s := 1 }] else []) := by
  unfold owned
  rw [List.filter_append, List.map_append]
  congr 1
  by_cases h : 0 < n.o.size
  · rw [if_pos h, List.filter_cons_of_pos (by simpa using h)]; rfl
  · rw [if_neg h, List.filter_cons_of_neg (by simpa using h)]; rfl
theorem owned_le (l : List Node) : (owned l).length ≤ l.length := by
  unfold owned
  rw [List.length_map]
  exact List.length_filter_le _ _
def nw (n : Node) : Nw := (n.a, n.b)
/-- The smallest network that holds all nodes' networks. -/
def topN : List Node → Nw
  | [] => (0, 0)
  | x :: r => top (nw x) ((x :: r).map nw)
def ownerOf (t : Nw) (l : List Node) : ByteArray := l.foldl (fun o n => if nw n = t then n.o else o) ByteArray.empty
def leftOf (t : Nw) (l : List Node) : List Node := l.filter fun n => decide (nw n ≠ t) && decide (bitAt n.a t.2.toNat = 0)
def rightOf (t : Nw) (l : List Node) : List Node := l.filter fun n => decide (nw n ≠ t) && decide (bitAt n.a t.2.toNat ≠ 0)
/-- The trie of some nodes' networks, as deep as f. -/
def grown : Nat → List Node → List Node
  | 0, _ => []
  | _ + 1, [] => []
  | f + 1, x :: r =>
    ⟨(topN (x :: r)).1, (topN (x :: r)).2, ownerOf (topN (x :: r)) (x :: r), (1 + (grown f (leftOf (topN (x :: r)) (x :: r)) ++ grown f (rightOf (topN (x :: r)) (x :: r))).length : Nat)⟩ ::
      (grown f (leftOf (topN (x :: r)) (x :: r)) ++ grown f (rightOf (topN (x :: r)) (x :: r)))
theorem halves_le (t : Nw) : ∀ l : List Node, (leftOf t l).length + (rightOf t l).length ≤ l.length := by
  intro l
  induction l with
  | nil => exact Nat.le_refl _
  | cons x r ih =>
    unfold leftOf rightOf at *
    by_cases h1 : nw x ≠ t
    · by_cases h2 : bitAt x.a t.2.toNat = 0
      · rw [List.filter_cons_of_pos (by simp [h1, h2]), List.filter_cons_of_neg (by simp [h2])]
        simp only [List.length_cons]; omega
      · rw [List.filter_cons_of_neg (by simp [h2]), List.filter_cons_of_pos (by simp [h1, h2])]
        simp only [List.length_cons]; omega
    · rw [List.filter_cons_of_neg (by simp [h1]), List.filter_cons_of_neg (by simp [h1])]
      simp only [List.length_cons]; omega
theorem grown_le : ∀ (f : Nat) (l : List Node), (grown f l).length ≤ f * l.length := by
  intro f
  induction f with
  | zero => intro l; unfold grown; simp
  | succ f ih =>
    intro l
    cases l with
    | nil => unfold grown; simp
    | cons x r =>
      unfold grown
      generalize topN (x :: r) = t
      have h := halves_le t (x :: r)
      have h1 := ih (leftOf t (x :: r))
      have h2 := ih (rightOf t (x :: r))
      rw [List.length_cons, List.length_append]
      have h3 : f * (leftOf t (x :: r)).length + f * (rightOf t (x :: r)).length ≤ f * (x :: r).length := by rw [← Nat.mul_add]; exact Nat.mul_le_mul_left f h
      have h4 : (f + 1) * (x :: r).length = f * (x :: r).length + (x :: r).length := by rw [Nat.add_mul, Nat.one_mul]
      have h5 : 1 ≤ (x :: r).length := by simp
      omega
theorem topN_good {l : List Node} (hl : l ≠ []) (h : ∀ n ∈ l, good (nw n)) : good (topN l) := by
  match l, hl with
  | x :: r, _ =>
    refine top_good _ _ (h x (List.mem_cons_self ..)) (fun y hy => ?_)
    obtain ⟨n, hn, rfl⟩ := List.mem_map.1 hy
    exact h n hn
theorem topN_holds {l : List Node} (h : ∀ n ∈ l, good (nw n)) : ∀ n ∈ l, H (topN l) (nw n) := by
  match l with
  | [] => intro n hn; cases hn
  | x :: r =>
    intro n hn
    refine (top_holds ((x :: r).map nw) (nw x) (h x (List.mem_cons_self ..)) (fun y hy => ?_)).2 _ (List.mem_map_of_mem hn)
    obtain ⟨m, hm, rfl⟩ := List.mem_map.1 hy
    exact h m hm
theorem topN_least {l : List Node} (hl : l ≠ []) {p : Nw} (h : ∀ n ∈ l, H p (nw n)) : H p (topN l) := by
  match l, hl with
  | x :: r, _ =>
    refine top_least _ p _ (h x (List.mem_cons_self ..)) (fun y hy => ?_)
    obtain ⟨m, hm, rfl⟩ := List.mem_map.1 hy
    exact h m hm
theorem bit_two (a n : Nat) : bitAt a n = 0 ∨ bitAt a n = 1 := by unfold bitAt; omega
/-- The halves' own tops go on by a bit. -/
theorem left_top {l : List Node} (h : ∀ n ∈ l, good (nw n)) (hne : leftOf (topN l) l ≠ []) : (topN l).2 + 1 ≤ (topN (leftOf (topN l) l)).2 := by
  have hp : ∀ n ∈ leftOf (topN l) l, H (half (topN l) 0) (nw n) := by
    intro n hn
    unfold leftOf at hn
    rw [List.mem_filter, Bool.and_eq_true, decide_eq_true_eq, decide_eq_true_eq] at hn
    have := half_holds (topN_holds h n hn.1) hn.2.1
    rw [show bitAt (nw n).1 (topN l).2.toNat = 0 from hn.2.2] at this
    exact this
  exact (Nt.holds_iff.1 (topN_least hne hp)).2.1
theorem right_top {l : List Node} (h : ∀ n ∈ l, good (nw n)) (hne : rightOf (topN l) l ≠ []) : (topN l).2 + 1 ≤ (topN (rightOf (topN l) l)).2 := by
  have hp : ∀ n ∈ rightOf (topN l) l, H (half (topN l) 1) (nw n) := by
    intro n hn
    unfold rightOf at hn
    rw [List.mem_filter, Bool.and_eq_true, decide_eq_true_eq, decide_eq_true_eq] at hn
    have := half_holds (topN_holds h n hn.1) hn.2.1
    rw [show bitAt (nw n).1 (topN l).2.toNat = 1 from (bit_two _ _).resolve_left hn.2.2] at this
    exact this
  exact (Nt.holds_iff.1 (topN_least hne hp)).2.1
theorem left_good {l : List Node} {t : Nw} (h : ∀ n ∈ l, good (nw n)) : ∀ n ∈ leftOf t l, good (nw n) := fun n hn => h n (List.mem_filter.1 hn).1
theorem right_good {l : List Node} {t : Nw} (h : ∀ n ∈ l, good (nw n)) : ∀ n ∈ rightOf t l, good (nw n) := fun n hn => h n (List.mem_filter.1 hn).1
/-- Of a node that is not the top itself there is a bit behind the top's. -/
theorem top_lt {l : List Node} (h : ∀ n ∈ l, good (nw n)) {n : Node} (hn : n ∈ l) (hne : nw n ≠ topN l) : 0 ≤ (topN l).2 ∧ (topN l).2 < 32 := by
  obtain ⟨h1, h2, h3⟩ := longer (topN_holds h n hn) hne
  omega
end Tr
end Go.Proofs.Ytldfamdjdkaloaa
