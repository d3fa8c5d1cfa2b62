/- Plain facts on networks: containment and joins; nothing of the program is named here. -/
import Derived.Test.YtjdflnnpamjjcaaDoorNetPlain
namespace Go.Proofs.YtjdflnnpamjjcaaDoor.Nt

theorem has_iff {n : Nat} {b : Int} {a : Nat} : has n b a = true ↔ err n b = 0 ∧ cut a b.toNat = n := by
  unfold has; simp
theorem holds_iff {n : Nat} {b : Int} {m : Nat} {c : Int} : holds n b m c = true ↔ err m c = 0 ∧ b ≤ c ∧ err n b = 0 ∧ cut m b.toNat = n := by
  unfold holds
  rw [Bool.and_eq_true, Bool.and_eq_true, has_iff, decide_eq_true_eq, decide_eq_true_eq, and_assoc]
theorem has_cut (a n : Nat) (hn : n ≤ 32) : has (cut a n) (n : Int) a = true := has_iff.2 ⟨err_of hn (cut_mod a n), by rw [Int.toNat_natCast]⟩
theorem holds_cut (a : Nat) {n m : Nat} (hm : m ≤ 32) (h : n ≤ m) : holds (cut a n) (n : Int) (cut a m) (m : Int) = true :=
  holds_iff.2 ⟨err_of hm (cut_mod a m), by omega, err_of (by omega) (cut_mod a n), by rw [Int.toNat_natCast, cut_cut a h]⟩
theorem holds_self {n : Nat} {b : Int} (h : err n b = 0) : holds n b n b = true := holds_iff.2 ⟨h, Int.le_refl _, h, cut_self (err_zero h).2.2⟩
theorem holds_trans {n : Nat} {b : Int} {m : Nat} {c : Int} {p : Nat} {d : Int} (h1 : holds n b m c = true) (h2 : holds m c p d = true) : holds n b p d = true := by
  obtain ⟨a1, a2, a3, a4⟩ := holds_iff.1 h1
  obtain ⟨b1, b2, b3, b4⟩ := holds_iff.1 h2
  refine holds_iff.2 ⟨b1, by omega, a3, ?_⟩
  have := (err_zero a3).1
  rw [← cut_cut p (n := c.toNat) (k := b.toNat) (by omega), b4, a4]
theorem holds_anti {n : Nat} {b : Int} {m : Nat} {c : Int} (h1 : holds n b m c = true) (h2 : holds m c n b = true) : n = m ∧ b = c := by
  obtain ⟨a1, a2, a3, a4⟩ := holds_iff.1 h1
  obtain ⟨b1, b2, b3, b4⟩ := holds_iff.1 h2
  have hb : b = c := by omega
  subst hb
  exact ⟨by rw [← a4, cut_self (err_zero a1).2.2], rfl⟩
theorem holds_or {n : Nat} {b : Int} {m : Nat} {c : Int} (hn : err n b = 0) (hm : err m c = 0) (h : has n b m = true) : holds n b m c = true ∨ holds m c n b = true := by
  obtain ⟨a1, a2⟩ := has_iff.1 h
  by_cases hbc : b ≤ c
  · exact .inl (holds_iff.2 ⟨hm, hbc, hn, a2⟩)
  · right
    have := (err_zero hm).1
    refine holds_iff.2 ⟨hn, by omega, hm, ?_⟩
    rw [← a2, cut_cut m (by omega), cut_self (err_zero hm).2.2]
theorem join_good {n : Nat} {b : Int} {m : Nat} {c : Int} (hn : err n b = 0) (hm : err m c = 0) : joinErr n b m c = 0 ∧ joinBits n b m c = common n m (min b.toNat c.toNat) ∧ joinAddr n b m c = cut n (common n m (min b.toNat c.toNat)) := by
  have h : joinErr n b m c = 0 := by unfold joinErr; rw [if_neg (by omega)]; exact hm
  exact ⟨h, by unfold joinBits; rw [if_pos h], by unfold joinAddr; rw [if_pos h]⟩
theorem join_comm {n : Nat} {b : Int} {m : Nat} {c : Int} (hn : err n b = 0) (hm : err m c = 0) (ln : n < 4294967296) (lm : m < 4294967296) : joinBits m c n b = joinBits n b m c ∧ joinAddr m c n b = joinAddr n b m c := by
  obtain ⟨_, h2, h3⟩ := join_good hn hm
  obtain ⟨_, g2, g3⟩ := join_good hm hn
  rw [h2, h3, g2, g3, Nat.min_comm, common_comm m n]
  exact ⟨rfl, (common_eq n m ln lm _).symm⟩
theorem join_le {n : Nat} {b : Int} {m : Nat} {c : Int} (hn : err n b = 0) (hm : err m c = 0) : (joinBits n b m c : Int) ≤ b ∧ (joinBits n b m c : Int) ≤ c ∧ joinBits n b m c ≤ 32 ∧ err (joinAddr n b m c) (joinBits n b m c : Int) = 0 := by
  obtain ⟨_, h2, h3⟩ := join_good hn hm
  have h := common_le n m (min b.toNat c.toNat)
  obtain ⟨x1, x2, _⟩ := err_zero hn
  obtain ⟨y1, y2, _⟩ := err_zero hm
  rw [h2, h3]
  exact ⟨by omega, by omega, by omega, err_of (by omega) (cut_mod _ _)⟩
/-- The join holds both. -/
theorem join_holds {n : Nat} {b : Int} {m : Nat} {c : Int} (hn : err n b = 0) (hm : err m c = 0) (ln : n < 4294967296) (lm : m < 4294967296) :
    holds (joinAddr n b m c) (joinBits n b m c : Int) n b = true ∧ holds (joinAddr n b m c) (joinBits n b m c : Int) m c = true := by
  obtain ⟨l1, l2, _, he⟩ := join_le hn hm
  obtain ⟨_, h2, h3⟩ := join_good hn hm
  refine ⟨holds_iff.2 ⟨hn, l1, he, ?_⟩, holds_iff.2 ⟨hm, l2, he, ?_⟩⟩
  · rw [Int.toNat_natCast, h3, h2]
  · rw [Int.toNat_natCast, h3, h2, common_eq n m ln lm]
/-- What holds both holds their join. -/
theorem join_least {n : Nat} {b : Int} {m : Nat} {c : Int} {p : Nat} {d : Int} (h1 : holds p d n b = true) (h2 : holds p d m c = true) : holds p d (joinAddr n b m c) (joinBits n b m c : Int) = true := by
  obtain ⟨a1, a2, a3, a4⟩ := holds_iff.1 h1
  obtain ⟨b1, b2, b3, b4⟩ := holds_iff.1 h2
  obtain ⟨_, _, _, he⟩ := join_le a1 b1
  obtain ⟨_, g2, g3⟩ := join_good a1 b1
  obtain ⟨d1, d2, _⟩ := err_zero a3
  have hm := common_max n m (min b.toNat c.toNat) d.toNat (by omega) (by rw [a4, b4])
  refine holds_iff.2 ⟨he, by rw [g2]; omega, a3, ?_⟩
  rw [g3, cut_cut n hm, a4]
end Go.Proofs.YtjdflnnpamjjcaaDoor.Nt
