/- Networks in order, by insertion. -/
import Derived.Test.YtjdflnnpamjjcaaDoorConfPlain
import Derived.WideShapes
import Derived.Test.YtjdflnnpamjjcaaDoorConfPlain4
import Derived.Test.YtjdflnnpamjjcaaDoorTriePlain
namespace Go.Proofs.YtjdflnnpamjjcaaDoor.Cf
open Go.Op

theorem less_total : ∀ x y : List UInt8, (bytesLess x y || x == y) = !bytesLess y x
  | [], [] => rfl
  | [], b :: y => rfl
  | a :: x, [] => rfl
  | a :: x, b :: y => by
    have ih := less_total x y
    show ((decide (a < b) || (a == b && bytesLess x y)) || (a == b && x == y)) = !(decide (b < a) || (b == a && bytesLess y x))
    by_cases h : a = b
    · subst h
      have h1 : decide (a < a) = false := decide_eq_false (by intro h; exact absurd h (by simp [UInt8.lt_irrefl]))
      rw [h1]
      simpa using ih
    · have e1 : (a == b) = false := by simpa using h
      have e2 : (b == a) = false := by simpa using fun e => h e.symm
      rw [e1, e2]
      have hn : a.toNat ≠ b.toNat := fun e => h (UInt8.toNat_inj.1 e)
      have hd : decide (a < b) = !decide (b < a) := by
        by_cases hlt : a < b
        · have : ¬ b < a := by rw [UInt8.lt_iff_toNat_lt] at *; omega
          rw [decide_eq_true hlt, decide_eq_false this]; rfl
        · have : b < a := by rw [UInt8.lt_iff_toNat_lt] at *; omega
          rw [decide_eq_false hlt, decide_eq_true this]; rfl
      simpa using hd
theorem less_irrefl : ∀ x : List UInt8, bytesLess x x = false
  | [] => rfl
  | a :: x => by
    show (decide (a < a) || (a == a && bytesLess x x)) = false
    rw [less_irrefl x, decide_eq_false (by simp [UInt8.lt_irrefl])]
    simp
theorem less_trans : ∀ x y z : List UInt8, bytesLess x y = true → bytesLess y z = true → bytesLess x z = true
  | x, [], _, h, _ => by cases x <;> cases h
  | x, b :: y, [], _, h => by cases h
  | [], _ :: _, _ :: _, _, _ => rfl
  | a :: x, b :: y, c :: z, h1, h2 => by
    have k1 : (decide (a < b) || (a == b && bytesLess x y)) = true := h1
    have k2 : (decide (b < c) || (b == c && bytesLess y z)) = true := h2
    clear h1 h2
    show (decide (a < c) || (a == c && bytesLess x z)) = true
    simp only [Bool.or_eq_true, decide_eq_true_eq, Bool.and_eq_true, beq_iff_eq] at *
    rcases k1 with g1 | ⟨rfl, g1⟩
    · rcases k2 with g2 | ⟨rfl, g2⟩
      · left; rw [UInt8.lt_iff_toNat_lt] at *; omega
      · exact .inl g1
    · rcases k2 with g2 | ⟨rfl, g2⟩
      · exact .inl g2
      · exact .inr ⟨rfl, less_trans x y z g1 g2⟩
/-- 'At most' as the code and the reference say it. -/
theorem leq_lt (x y : ByteArray) : (bytesLess x.toList y.toList || x.toList == y.toList) = !lt y x := less_total _ _
end Go.Proofs.YtjdflnnpamjjcaaDoor.Cf

namespace Go.Proofs.YtjdflnnpamjjcaaDoor
open Go.RowKit

theorem conf_key {x : Cf.C} (h : x.k.size ≠ 0) (he : Cf.keyErr x.k ≠ 0) : Cf.err x = Cf.keyErr x.k := by unfold Cf.err; rw [if_pos ⟨h, he⟩]
theorem conf_port {x : Cf.C} (h : x.k.size = 0 ∨ Cf.keyErr x.k = 0) (hp : x.p < 0 ∨ 65535 < x.p) : Cf.err x = 4 := by
  unfold Cf.err; rw [if_neg (fun hn => by rcases h with h | h; exact hn.1 h; exact hn.2 h), if_pos hp]
theorem conf_many {x : Cf.C} (h : x.k.size = 0 ∨ Cf.keyErr x.k = 0) (hp : ¬ (x.p < 0 ∨ 65535 < x.p)) (hn : 6 < x.ps.length) : Cf.err x = 1 := by
  unfold Cf.err; rw [if_neg (fun hn => by rcases h with h | h; exact hn.1 h; exact hn.2 h), if_neg hp, if_pos hn]
theorem conf_peers {x : Cf.C} (h : x.k.size = 0 ∨ Cf.keyErr x.k = 0) (hp : ¬ (x.p < 0 ∨ 65535 < x.p)) (hn : x.ps.length ≤ 6) : Cf.err x = Cf.pFrom x.k x.ps 0 := by
  unfold Cf.err; rw [if_neg (fun hn => by rcases h with h | h; exact hn.1 h; exact hn.2 h), if_neg hp, if_neg (by omega)]
  rfl
theorem key_order (K L : ByteArray) : (Op.bytesLess K.toList L.toList = true ∧ Cf.lt L K = false) ∨ (Op.bytesLess K.toList L.toList = false ∧ (K.toList == L.toList) = true ∧ Cf.lt L K = false) ∨ (Op.bytesLess K.toList L.toList = false ∧ (K.toList == L.toList) = false ∧ Cf.lt L K = true) := by
  have h := Cf.leq_lt K L
  cases h1 : Op.bytesLess K.toList L.toList with
  | true =>
    rw [h1] at h
    left
    refine ⟨rfl, ?_⟩
    cases h2 : Cf.lt L K with
    | false => rfl
    | true => rw [h2] at h; simp at h
  | false =>
    rw [h1] at h
    right
    cases h3 : (K.toList == L.toList) with
    | true =>
      left
      rw [h3] at h
      refine ⟨rfl, rfl, ?_⟩
      cases h2 : Cf.lt L K with
      | false => rfl
      | true => rw [h2] at h; simp at h
    | false =>
      right
      rw [h3] at h
      refine ⟨rfl, rfl, ?_⟩
      cases h2 : Cf.lt L K with
      | true => rfl
      | false => rw [h2] at h; simp at h
/-- The networks of the first peers, all of them right. -/
def MetOk (M : List (Nat × Int)) (k : Nat) : Prop := M.length ≤ 8 * k ∧ ∀ y ∈ M, Tr.good y

end Go.Proofs.YtjdflnnpamjjcaaDoor

namespace Go.Proofs.YtjdflnnpamjjcaaDoor.Nt

def lessN (x y : Nat × Int) : Bool := decide (x.1 < y.1 ∨ x.1 = y.1 ∧ x.2 < y.2)
theorem lessN_order (x y : Nat × Int) : order x.1 x.2 y.1 y.2 = if lessN x y then -1 else if x = y then 0 else 1 := by
  unfold order lessN
  by_cases h : x.1 < y.1 ∨ x.1 = y.1 ∧ x.2 < y.2
  · rw [if_pos h, decide_eq_true h]; rfl
  · rw [if_neg h, decide_eq_false h]
    by_cases h2 : x = y
    · subst h2; simp
    · have : ¬ (x.1 = y.1 ∧ x.2 = y.2) := fun hh => h2 (Prod.ext hh.1 hh.2)
      simp [h2, this]
/-- x set into a list behind all that it is not less than. -/
def insN (x : Nat × Int) (S : List (Nat × Int)) : List (Nat × Int) := S.filter (fun y => !lessN x y) ++ x :: S.filter (fun y => lessN x y)
def sortN (l : List (Nat × Int)) : List (Nat × Int) := l.foldl (fun S x => insN x S) []
/-- Each not less than the one before. -/
def upN (S : List (Nat × Int)) : Prop := S.Pairwise fun x y => lessN y x = false
theorem sortN_next (l : List (Nat × Int)) (i : Nat) (h : i < l.length) : sortN (l.take (i + 1)) = insN l[i] (sortN (l.take i)) := by
  unfold sortN
  rw [List.take_succ_eq_append_getElem h, List.foldl_append]
  rfl
theorem ins_perm (x : Nat × Int) (S : List (Nat × Int)) : (insN x S).Perm (x :: S) := by
  unfold insN
  refine List.perm_middle.trans (List.Perm.cons x ?_)
  have h := List.filter_append_perm (fun y => !lessN x y) S
  simp only [Bool.not_not] at h
  exact h
theorem sort_perm (l : List (Nat × Int)) : (sortN l).Perm l := by
  have : ∀ (l S : List (Nat × Int)), (l.foldl (fun S x => insN x S) S).Perm (l ++ S) := by
    intro l
    induction l with
    | nil => intro S; exact List.Perm.refl _
    | cons x r ih =>
      intro S
      rw [List.foldl_cons]
      refine (ih (insN x S)).trans ?_
      refine ((ins_perm x S).append_left r).trans ?_
      exact List.perm_middle
  have h := this l []
  rw [List.append_nil] at h
  exact h
theorem less_tr {x y z : Nat × Int} (h1 : lessN y x = false) (h2 : lessN z y = false) : lessN z x = false := by
  unfold lessN at *
  simp only [decide_eq_false_iff_not] at *
  omega
theorem ins_up {x : Nat × Int} {S : List (Nat × Int)} (h : upN S) : upN (insN x S) := by
  unfold insN upN
  refine List.pairwise_append.2 ⟨List.Pairwise.filter _ h, List.Pairwise.cons (fun y hy => ?_) (List.Pairwise.filter _ h), fun a ha b hb => ?_⟩
  · have hl : lessN x y = true := (List.mem_filter.1 hy).2
    unfold lessN at *
    simp only [decide_eq_false_iff_not, decide_eq_true_eq] at *
    omega
  · have h1 : lessN x a = false := by simpa using (List.mem_filter.1 ha).2
    rcases List.mem_cons.1 hb with rfl | hb
    · exact h1
    · have h2 : lessN x b = true := (List.mem_filter.1 hb).2
      unfold lessN at *
      simp only [decide_eq_false_iff_not, decide_eq_true_eq] at *
      omega
theorem sort_up (l : List (Nat × Int)) : upN (sortN l) := by
  have : ∀ (l S : List (Nat × Int)), upN S → upN (l.foldl (fun S x => insN x S) S) := by
    intro l
    induction l with
    | nil => intro S h; exact h
    | cons x r ih => intro S h; exact ih _ (ins_up h)
  exact this l [] List.Pairwise.nil
theorem sort_length (l : List (Nat × Int)) : (sortN l).length = l.length := (sort_perm l).length_eq
/-- Where the inner loop ends, x stands in its place. -/
theorem ins_split {x : Nat × Int} {S : List (Nat × Int)} {j : Nat} (h : upN S) (hj : j ≤ S.length) (h1 : ∀ y ∈ S.drop j, lessN x y = true) (h2 : ∀ h0 : 0 < j, lessN x (S[j - 1]'(by omega)) = false) : insN x S = S.take j ++ x :: S.drop j := by
  have ht : ∀ y ∈ S.take j, lessN x y = false := by
    intro y hy
    obtain ⟨k, hk, rfl⟩ := List.mem_take_iff_getElem.1 hy
    have hj0 : 0 < j := by omega
    by_cases hkj : k = j - 1
    · subst hkj; exact h2 hj0
    · exact less_tr (List.pairwise_iff_getElem.1 h k (j - 1) (by omega) (by omega) (by omega)) (h2 hj0)
  have e : S = S.take j ++ S.drop j := (List.take_append_drop j S).symm
  unfold insN
  have f1 : S.filter (fun y => !lessN x y) = S.take j := by
    conv => lhs; rw [e]
    rw [List.filter_append, List.filter_eq_self.2 (fun y hy => by rw [ht y hy]; rfl), List.filter_eq_nil_iff.2 (fun y hy => by rw [h1 y hy]; simp), List.append_nil]
  have f2 : S.filter (fun y => lessN x y) = S.drop j := by
    conv => lhs; rw [e]
    rw [List.filter_append, List.filter_eq_nil_iff.2 (fun y hy => by rw [ht y hy]; simp), List.filter_eq_self.2 (fun y hy => h1 y hy), List.nil_append]
  rw [f1, f2]
end Go.Proofs.YtjdflnnpamjjcaaDoor.Nt
