/- The plain words of chapter 8, more: the order of networks, and that a trie's nodes are in it. -/
import Derived.Test.YtldfamdjdkaloaaTriePlain2
namespace Go.Proofs.Ytldfamdjdkaloaa.Tr
open Nt

/-- The order of networks. -/
def lt (x y : Nw) : Prop := x.1 < y.1 ∨ x.1 = y.1 ∧ x.2 < y.2
instance (x y : Nw) : Decidable (lt x y) := by unfold lt; exact inferInstance
theorem lt_irrefl (x : Nw) : ¬ lt x x := by unfold lt; omega
theorem lt_trans {x y z : Nw} (h1 : lt x y) (h2 : lt y z) : lt x z := by unfold lt at *; omega
theorem lt_asymm {x y : Nw} (h1 : lt x y) : ¬ lt y x := by unfold lt at *; omega
theorem lt_or {x y : Nw} (h : ¬ lt x y) (hne : x ≠ y) : lt y x := by
  unfold lt at *
  have : x.1 ≠ y.1 ∨ x.2 ≠ y.2 := by
    by_cases h1 : x.1 = y.1
    · exact .inr fun h2 => hne (Prod.ext h1 h2)
    · exact .inl h1
  omega
theorem order_lt {x y : Nw} : order x.1 x.2 y.1 y.2 < 0 ↔ lt x y := by
  unfold order lt
  split
  · next h => exact ⟨fun _ => h, fun _ => by decide⟩
  · next h => exact ⟨fun h' => by split at h' <;> omega, fun h' => absurd h' h⟩
theorem order_zero {x y : Nw} : order x.1 x.2 y.1 y.2 = 0 ↔ x = y := by
  unfold order
  constructor
  · intro h
    split at h
    · omega
    · split at h
      · next h2 => exact Prod.ext h2.1 h2.2
      · omega
  · rintro rfl
    rw [if_neg (by omega), if_pos ⟨rfl, rfl⟩]
/-- A network is ahead of what it holds. -/
theorem lt_of_H {t n : Nw} (h : H t n) (hne : n ≠ t) : lt t n := by
  obtain ⟨l1, _, _⟩ := longer h hne
  obtain ⟨_, _, _, h4⟩ := holds_iff.1 h
  have := cut_le n.1 t.2.toNat
  unfold lt
  omega
theorem half_bits {t x : Nw} {k : Nat} (h : H (half t k) x) : t.2 + 1 ≤ x.2 := (holds_iff.1 h).2.1
/-- The halves of a network lie one behind the other. -/
theorem lt_halves {t x y : Nw} (ht : 0 ≤ t.2) (h0 : H (half t 0) x) (h1 : H (half t 1) y) : lt x y := by
  obtain ⟨a1, a2, a3, a4⟩ := holds_iff.1 h0
  obtain ⟨b1, b2, b3, b4⟩ := holds_iff.1 h1
  obtain ⟨tn, htn⟩ : ∃ tn : Nat, t.2 = (tn : Int) := ⟨t.2.toNat, by omega⟩
  have e : ∀ k, (half t k).2.toNat = tn + 1 := by intro k; unfold half; rw [htn]; omega
  have hb := (err_zero b3).2.1
  have hlt : tn < 32 := by have : (half t 1).2 = (tn : Int) + 1 := by unfold half; rw [htn]
                           omega
  rw [e] at a4 b4
  have c0 : cut x.1 (tn + 1) = t.1 := by rw [a4]; unfold half; simp
  have c1 : cut y.1 (tn + 1) = t.1 + 2 ^ (31 - tn) := by rw [b4]; unfold half; rw [htn, Int.toNat_natCast]; simp
  have g1 := cut_le y.1 (tn + 1)
  have g0 : x.1 < cut x.1 (tn + 1) + 2 ^ (31 - tn) := by
    unfold cut
    rw [show 32 - (tn + 1) = 31 - tn by omega]
    have := Nat.div_add_mod x.1 (2 ^ (31 - tn))
    have h2 := Nat.mod_lt x.1 (Nat.two_pow_pos (31 - tn))
    rw [Nat.mul_comm] at this
    omega
  unfold lt
  left
  omega
theorem cut_le_cut {a b : Nat} (h : a ≤ b) (n : Nat) : cut a n ≤ cut b n := Nat.mul_le_mul_right _ (Nat.div_le_div_right h)

theorem left_half {l : List Node} (h : ∀ n ∈ l, good (nw n)) : ∀ n ∈ leftOf (topN l) l, H (half (topN l) 0) (nw n) := by
  intro n hn
  unfold leftOf at hn
  rw [List.mem_filter, Bool.and_eq_true, decide_eq_true_eq, decide_eq_true_eq] at hn
  have := half_holds (topN_holds h n hn.1) hn.2.1
  rw [show bitAt (nw n).1 (topN l).2.toNat = 0 from hn.2.2] at this
  exact this
theorem right_half {l : List Node} (h : ∀ n ∈ l, good (nw n)) : ∀ n ∈ rightOf (topN l) l, H (half (topN l) 1) (nw n) := by
  intro n hn
  unfold rightOf at hn
  rw [List.mem_filter, Bool.and_eq_true, decide_eq_true_eq, decide_eq_true_eq] at hn
  have := half_holds (topN_holds h n hn.1) hn.2.1
  rw [show bitAt (nw n).1 (topN l).2.toNat = 1 from (bit_two _ _).resolve_left hn.2.2] at this
  exact this
/-- All nodes of a trie lie within what holds all its networks. -/
theorem grown_in : ∀ (f : Nat) (l : List Node) (p : Nw), (∀ n ∈ l, good (nw n)) → (∀ n ∈ l, H p (nw n)) → ∀ n ∈ grown f l, H p (nw n) := by
  intro f
  induction f with
  | zero => intro l p _ _ n hn; unfold grown at hn; cases hn
  | succ f ih =>
    intro l p hg hp n hn
    cases l with
    | nil => unfold grown at hn; cases hn
    | cons x r =>
      unfold grown at hn
      rcases List.mem_cons.1 hn with rfl | hn
      · exact topN_least (by simp) hp
      · rcases List.mem_append.1 hn with hn | hn
        · exact ih _ p (left_good hg) (fun m hm => hp m (List.mem_filter.1 hm).1) n hn
        · exact ih _ p (right_good hg) (fun m hm => hp m (List.mem_filter.1 hm).1) n hn
theorem grown_good (f : Nat) (l : List Node) (hg : ∀ n ∈ l, good (nw n)) : ∀ n ∈ grown f l, good (nw n) := by
  revert l
  induction f with
  | zero => intro l _ n hn; unfold grown at hn; cases hn
  | succ f ih =>
    intro l hg n hn
    cases l with
    | nil => unfold grown at hn; cases hn
    | cons x r =>
      unfold grown at hn
      rcases List.mem_cons.1 hn with rfl | hn
      · exact topN_good (by simp) hg
      · rcases List.mem_append.1 hn with hn | hn
        · exact ih _ (left_good hg) n hn
        · exact ih _ (right_good hg) n hn
/-- In order, each greater than those ahead of it. -/
def sorted (l : List Node) : Prop := l.Pairwise fun n m => lt (nw n) (nw m)
theorem grown_sorted : ∀ (f : Nat) (l : List Node), (∀ n ∈ l, good (nw n)) → sorted (grown f l) := by
  intro f
  induction f with
  | zero => intro l _; unfold grown; exact List.Pairwise.nil
  | succ f ih =>
    intro l hg
    cases l with
    | nil => unfold grown; exact List.Pairwise.nil
    | cons x r =>
      have gt := topN_good (l := x :: r) (by simp) hg
      have t0 := (err_zero gt.2).1
      have hl := grown_in f _ _ (left_good hg) (left_half hg)
      have hr := grown_in f _ _ (right_good hg) (right_half hg)
      have gl := grown_in f (leftOf (topN (x :: r)) (x :: r)) (topN (x :: r)) (left_good hg) (fun m hm => topN_holds hg m (List.mem_filter.1 hm).1)
      have gr := grown_in f (rightOf (topN (x :: r)) (x :: r)) (topN (x :: r)) (right_good hg) (fun m hm => topN_holds hg m (List.mem_filter.1 hm).1)
      unfold grown
      refine List.Pairwise.cons ?_ (List.pairwise_append.2 ⟨ih _ (left_good hg), ih _ (right_good hg), fun n hn m hm => lt_halves t0 (hl n hn) (hr m hm)⟩)
      intro n hn
      show lt (topN (x :: r)) (nw n)
      rcases List.mem_append.1 hn with hn | hn
      · refine lt_of_H (gl n hn) fun e => ?_
        have := half_bits (hl n hn)
        rw [e] at this
        omega
      · refine lt_of_H (gr n hn) fun e => ?_
        have := half_bits (hr n hn)
        rw [e] at this
        omega
theorem owned_sorted {l : List Node} (h : sorted l) : sorted (owned l) := by
  unfold owned sorted
  rw [List.pairwise_map]
  exact (List.Pairwise.filter _ h).imp fun h => h
theorem owned_good {l : List Node} (h : ∀ n ∈ l, good (nw n)) : ∀ n ∈ owned l, good (nw n) := by
  intro n hn
  unfold owned at hn
  obtain ⟨m, hm, rfl⟩ := List.mem_map.1 hn
  exact h m (List.mem_filter.1 hm).1
/-- Of nodes in order the top is the join of the first and the last. -/
theorem top_ends {l : List Node} (hg : ∀ n ∈ l, good (nw n)) (hs : sorted l) {x z : Node} (hx : l.head? = some x) (hz : l.getLast? = some z) : topN l = join (nw x) (nw z) := by
  have hne : l ≠ [] := by intro h; rw [h] at hx; cases hx
  have mx : x ∈ l := List.mem_of_mem_head? (by rw [hx]; rfl)
  have mz : z ∈ l := List.mem_of_getLast? hz
  have gx := hg x mx
  have gz := hg z mz
  have hle : ∀ n ∈ l, (n = x ∨ lt (nw x) (nw n)) ∧ (n = z ∨ lt (nw n) (nw z)) := by
    intro n hn
    constructor
    · match l, hx, hs with
      | y :: r, hx, hs =>
        injection hx with hx
        subst hx
        rcases List.mem_cons.1 hn with h | h
        · exact .inl h
        · exact .inr ((List.pairwise_cons.1 hs).1 n h)
    · obtain ⟨r, rfl⟩ := List.getLast?_eq_some_iff.1 hz
      rcases List.mem_append.1 hn with h | h
      · exact .inr ((List.pairwise_append.1 hs).2.2 n h z (by simp))
      · exact .inl (by simpa using h)
  refine H_anti ?_ ?_
  · exact join_min (topN_holds hg x mx) (topN_holds hg z mz)
  · refine topN_least hne fun n hn => ?_
    obtain ⟨h1, h2⟩ := hle n hn
    have gn := hg n hn
    have jx := join_l gx gz
    have jz := join_r gx gz
    rcases h1 with rfl | h1
    · exact jx
    rcases h2 with rfl | h2
    · exact jz
    have gj := join_good' gx gz
    generalize join (nw x) (nw z) = j at *
    obtain ⟨x1, x2, x3, x4⟩ := holds_iff.1 jx
    obtain ⟨z1, z2, z3, z4⟩ := holds_iff.1 jz
    obtain ⟨j0, j1, j2⟩ := err_zero gj.2
    obtain ⟨n0, n1, n2⟩ := err_zero gn.2
    have hxn : (nw x).1 ≤ (nw n).1 := by unfold lt at h1; omega
    have hnz : (nw n).1 ≤ (nw z).1 := by unfold lt at h2; omega
    have hc : cut (nw n).1 j.2.toNat = j.1 := by
      have c1 := cut_le_cut hxn j.2.toNat
      have c2 := cut_le_cut hnz j.2.toNat
      omega
    refine holds_iff.2 ⟨gn.2, ?_, gj.2, hc⟩
    apply Decidable.byContradiction
    intro hlt
    have hk : (nw n).2.toNat ≤ j.2.toNat := by omega
    have e1 := cut_cut (nw n).1 hk
    have e2 := cut_cut (nw x).1 hk
    have e3 := cut_self n2
    have e4 := cut_le (nw x).1 (nw n).2.toNat
    rw [hc] at e1
    rw [x4] at e2
    unfold lt at h1
    omega
end Go.Proofs.Ytldfamdjdkaloaa.Tr
