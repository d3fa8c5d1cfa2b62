/- The contract of the reference's NetOrder. -/
import Derived.Test.YthcdebdohlffpaaNetMem
import Derived.Laws.StructEq
namespace Go.Proofs.Ythcdebdohlffpaa
open Go.RowKit

theorem order_cases (a : Nat) (b : Int) (c : Nat) (d : Int) : (a < c ∧ Nt.order a b c d = -1) ∨ (a = c ∧ b < d ∧ Nt.order a b c d = -1) ∨ (a = c ∧ b = d ∧ Nt.order a b c d = 0) ∨ (a = c ∧ d < b ∧ Nt.order a b c d = 1) ∨ (c < a ∧ Nt.order a b c d = 1) := by
  unfold Nt.order
  by_cases h1 : a < c
  · rw [if_pos (.inl h1)]; exact .inl ⟨h1, rfl⟩
  · by_cases h2 : a = c
    · by_cases h3 : b < d
      · rw [if_pos (.inr ⟨h2, h3⟩)]; exact .inr (.inl ⟨h2, h3, rfl⟩)
      · rw [if_neg (by omega)]
        by_cases h4 : b = d
        · rw [if_pos ⟨h2, h4⟩]; exact .inr (.inr (.inl ⟨h2, h4, rfl⟩))
        · rw [if_neg (by omega)]; exact .inr (.inr (.inr (.inl ⟨h2, by omega, rfl⟩)))
    · rw [if_neg (by omega), if_neg (by omega)]; exact .inr (.inr (.inr (.inr ⟨by omega, rfl⟩)))
set_option maxHeartbeats 800000 in
theorem ref_NetOrder (a : Nat) (b : Int) (c : Nat) (d : Int) (w : World) :
    Calls Try.prog 18 #[netV a b, netV c d] w fun e w' => e = .returned (.int .i64 (Nt.order a b c d)) ∧ Below w.heap.size w w' := by
  have h2 := two_nets w (.int .u32 (a : Int)) (.int .i64 b) (.int .u32 (c : Int)) (.int .i64 d)
  have hA := h2.1
  clear h2
  unfold netV
  rcases order_cases a b c d with ⟨h, hr⟩ | ⟨rfl, h, hr⟩ | ⟨rfl, rfl, hr⟩ | ⟨rfl, h, hr⟩ | ⟨h, hr⟩
  · have Hr := Lib.hid hr
    clear hr
    have q1 : decide ((a : Int) < (c : Int)) = true := decide_eq_true (by omega)
    go_enter Try.func18, Try.ntmps18
    go_wp2
    go_ret
    exact ⟨by rw [Hr.out]; rfl, hA⟩
  · have Hr := Lib.hid hr
    clear hr
    have q2 : decide (b < d) = true := decide_eq_true h
    go_enter Try.func18, Try.ntmps18
    go_wp2
    go_ret
    exact ⟨by rw [Hr.out]; rfl, hA⟩
  · have Hr := Lib.hid hr
    clear hr
    go_enter Try.func18, Try.ntmps18
    go_wp2
    go_ret
    exact ⟨by rw [Hr.out]; rfl, hA⟩
  · have Hr := Lib.hid hr
    clear hr
    have q2 : decide (b < d) = false := decide_eq_false (by omega)
    have q3 : (b == d) = false := by simp; omega
    go_enter Try.func18, Try.ntmps18
    go_wp2
    go_ret
    exact ⟨by rw [Hr.out]; rfl, hA⟩
  · have Hr := Lib.hid hr
    clear hr
    have q1 : decide ((a : Int) < (c : Int)) = false := decide_eq_false (by omega)
    have q3 : ((a : Int) == (c : Int)) = false := by simp; omega
    go_enter Try.func18, Try.ntmps18
    go_wp2
    go_ret
    exact ⟨by rw [Hr.out]; rfl, hA⟩
end Go.Proofs.Ythcdebdohlffpaa
