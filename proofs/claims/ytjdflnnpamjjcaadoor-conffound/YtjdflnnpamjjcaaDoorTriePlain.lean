/- The plain words of chapter 8 (tries): joins of many networks, the trie of a set; nothing of the program is named here. -/
import Derived.Test.YtjdflnnpamjjcaaDoorNetFacts
namespace Go.Proofs.YtjdflnnpamjjcaaDoor.Tr
open Nt

abbrev Nw := Nat × Int
def good (x : Nw) : Prop := x.1 < 4294967296 ∧ err x.1 x.2 = 0
/-- x holds y. -/
def H (x y : Nw) : Prop := holds x.1 x.2 y.1 y.2 = true
def join (x y : Nw) : Nw := (joinAddr x.1 x.2 y.1 y.2, (joinBits x.1 x.2 y.1 y.2 : Int))
/-- The smallest network that holds x and all of l. -/
def top (x : Nw) (l : List Nw) : Nw := l.foldl join x
theorem H_trans {x y z : Nw} (h1 : H x y) (h2 : H y z) : H x z := holds_trans h1 h2
theorem H_self {x : Nw} (h : good x) : H x x := holds_self h.2
theorem H_anti {x y : Nw} (h1 : H x y) (h2 : H y x) : x = y := by
  obtain ⟨e1, e2⟩ := holds_anti h1 h2
  exact Prod.ext e1 e2
theorem join_good' {x y : Nw} (hx : good x) (hy : good y) : good (join x y) := by
  obtain ⟨_, _, _, he⟩ := join_le hx.2 hy.2
  refine ⟨?_, he⟩
  show joinAddr x.1 x.2 y.1 y.2 < _
  rw [(join_good hx.2 hy.2).2.2]
  exact cut_lt _ _ hx.1
theorem join_l {x y : Nw} (hx : good x) (hy : good y) : H (join x y) x := (join_holds hx.2 hy.2 hx.1 hy.1).1
theorem join_r {x y : Nw} (hx : good x) (hy : good y) : H (join x y) y := (join_holds hx.2 hy.2 hx.1 hy.1).2
theorem join_min {p x y : Nw} (h1 : H p x) (h2 : H p y) : H p (join x y) := join_least h1 h2
theorem top_good : ∀ (l : List Nw) (x : Nw), good x → (∀ y ∈ l, good y) → good (top x l) := by
  intro l
  induction l with
  | nil => intro x hx _; exact hx
  | cons y r ih =>
    intro x hx h
    exact ih (join x y) (join_good' hx (h y (List.mem_cons_self ..))) (fun z hz => h z (List.mem_cons_of_mem _ hz))
theorem top_holds : ∀ (l : List Nw) (x : Nw), good x → (∀ y ∈ l, good y) → H (top x l) x ∧ ∀ y ∈ l, H (top x l) y := by
  intro l
  induction l with
  | nil => intro x hx _; exact ⟨H_self hx, fun y hy => by cases hy⟩
  | cons y r ih =>
    intro x hx h
    have hy := h y (List.mem_cons_self ..)
    obtain ⟨h1, h2⟩ := ih (join x y) (join_good' hx hy) (fun z hz => h z (List.mem_cons_of_mem _ hz))
    refine ⟨H_trans h1 (join_l hx hy), fun z hz => ?_⟩
    rcases List.mem_cons.1 hz with rfl | hz
    · exact H_trans h1 (join_r hx hy)
    · exact h2 z hz
theorem top_least : ∀ (l : List Nw) (p x : Nw), H p x → (∀ y ∈ l, H p y) → H p (top x l) := by
  intro l
  induction l with
  | nil => intro p x h _; exact h
  | cons y r ih =>
    intro p x hx h
    exact ih p (join x y) (join_min hx (h y (List.mem_cons_self ..))) (fun z hz => h z (List.mem_cons_of_mem _ hz))
/-- What two networks that both hold all of a list, and are held by all that do, have in common: all. -/
theorem top_unique {l : List Nw} {x t : Nw} (hx : good x) (hl : ∀ y ∈ l, good y) (h1 : H t x) (h2 : ∀ y ∈ l, H t y) (h3 : ∀ p, H p x → (∀ y ∈ l, H p y) → H p t) : t = top x l := by
  obtain ⟨g1, g2⟩ := top_holds l x hx hl
  exact H_anti (top_least l t x h1 h2) (h3 _ g1 g2)
/-- The bit of an address behind the first n. -/
def bitAt (a n : Nat) : Nat := a / 2 ^ (31 - n) % 2
/-- A network within another, and not it, goes on by a bit at least. -/
theorem longer {t n : Nw} (h : H t n) (hne : n ≠ t) : t.2 < n.2 ∧ 0 ≤ t.2 ∧ n.2 ≤ 32 := by
  obtain ⟨h1, h2, h3, h4⟩ := holds_iff.1 h
  obtain ⟨a1, a2, a3⟩ := err_zero h1
  obtain ⟨b1, b2, b3⟩ := err_zero h3
  refine ⟨?_, b1, a2⟩
  by_cases hc : t.2 = n.2
  · exfalso
    apply hne
    rw [hc, cut_self a3] at h4
    exact Prod.ext h4 hc.symm
  · omega
/-- The two halves of a network. -/
def half (t : Nw) (k : Nat) : Nw := (t.1 + k * 2 ^ (31 - t.2.toNat), t.2 + 1)
theorem half_holds {t n : Nw} (h : H t n) (hne : n ≠ t) : H (half t (bitAt n.1 t.2.toNat)) n := by
  obtain ⟨l1, l2, l3⟩ := longer h hne
  obtain ⟨h1, h2, h3, h4⟩ := holds_iff.1 h
  obtain ⟨tn, htn⟩ : ∃ tn : Nat, t.2 = (tn : Int) := ⟨t.2.toNat, by omega⟩
  have hlt : tn < 32 := by omega
  have hc := cut_step n.1 tn hlt
  rw [htn, Int.toNat_natCast] at h4
  have ha : (half t (bitAt n.1 t.2.toNat)).1 = cut n.1 (tn + 1) := by
    unfold half bitAt
    rw [htn, Int.toNat_natCast, hc, h4]
  have hb : (half t (bitAt n.1 t.2.toNat)).2 = ((tn + 1 : Nat) : Int) := by
    unfold half
    rw [htn]
    rfl
  refine holds_iff.2 ⟨h1, by rw [hb]; omega, ?_, ?_⟩
  · rw [ha, hb]
    exact err_of (by omega) (cut_mod _ _)
  · rw [ha, hb, Int.toNat_natCast]
/-- So the smallest network of some that lie in one half goes on by a bit. -/
theorem half_top {t x : Nw} {l : List Nw} {k : Nat} (h : H (half t k) x) (hl : ∀ y ∈ l, H (half t k) y) : t.2 + 1 ≤ (top x l).2 := by
  have := (holds_iff.1 (top_least l _ x h hl)).2.1
  exact this
end Go.Proofs.YtjdflnnpamjjcaaDoor.Tr
