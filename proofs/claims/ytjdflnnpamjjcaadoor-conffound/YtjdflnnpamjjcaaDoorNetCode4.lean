/- The contracts of the program's net.Compare (and of cmp.Compare and cmp.Or beneath it). -/
import Derived.Test.YtjdflnnpamjjcaaDoorNetCode1
import Derived.StillTailTactics
namespace Go.Proofs.YtjdflnnpamjjcaaDoor
open Go.RowKit

theorem new_two (w : World) (x y : Value) (t : TypeId) : (w.alloc (.cells #[x, y] t)).cell? ⟨w.heap.size, 0, none⟩ = some x ∧ (w.alloc (.cells #[x, y] t)).cell? ⟨w.heap.size, 1, none⟩ = some y := by
  have h : (w.alloc (.cells #[x, y] t)).ownsRow 0 t 1 (.slice (some ⟨w.heap.size, 0, none⟩) 2 2) 2 [x, y] :=
    ⟨rfl, .inr ⟨w.heap.size, 2, #[x, y], rfl, Nat.zero_le _, heap_alloc_last w _, Nat.le_refl _, by decide, rfl, rfl⟩⟩
  exact ⟨own_cell h rfl, own_cell h rfl⟩
def Nt.cmpI (x y : Int) : Int := if x < y then -1 else if y < x then 1 else 0
theorem cmp_nan32 (x : Int) (w : World) : Calls Tryd.prog 77 #[.int .u32 x] w fun e w' => e = .returned (.bool false) ∧ w' = w := by
  go_enter Tryd.func77, Tryd.ntmps77
  go_wp2
  go_ret
  exact ⟨by simp, rfl⟩
theorem cmp_nan (x : Int) (w : World) : Calls Tryd.prog 78 #[.int .i64 x] w fun e w' => e = .returned (.bool false) ∧ w' = w := by
  go_enter Tryd.func78, Tryd.ntmps78
  go_wp2
  go_ret
  exact ⟨by simp, rfl⟩
set_option maxHeartbeats 1000000 in
theorem cmp_u32 (x y : Int) (w : World) : Calls Tryd.prog 51 #[.int .u32 x, .int .u32 y] w fun e w' => e = .returned (.int .i64 (Nt.cmpI x y)) ∧ w' = w := by
  go_enter Tryd.func51, Tryd.ntmps51
  go_wp2_with (go_at_call 77; refine (cmp_nan32 _ _).mono ?_; rintro e w' ⟨rfl, hw⟩; rw [hw])
  all_goals (go_ret; refine ⟨?_, rfl⟩; unfold Nt.cmpI; (repeat' split) <;> first | rfl | (exfalso; omega))
set_option maxHeartbeats 1000000 in
theorem cmp_i64 (x y : Int) (w : World) : Calls Tryd.prog 52 #[.int .i64 x, .int .i64 y] w fun e w' => e = .returned (.int .i64 (Nt.cmpI x y)) ∧ w' = w := by
  go_enter Tryd.func52, Tryd.ntmps52
  go_wp2_with (go_at_call 78; refine (cmp_nan _ _).mono ?_; rintro e w' ⟨rfl, hw⟩; rw [hw])
  all_goals (go_ret; refine ⟨?_, rfl⟩; unfold Nt.cmpI; (repeat' split) <;> first | rfl | (exfalso; omega))

set_option maxHeartbeats 1000000 in
theorem cmp_or2 (x y : Int) (g : Nat) (w : World) (c0 : w.cell? ⟨g, 0, none⟩ = some (.int .i64 x)) (c1 : w.cell? ⟨g, 1, none⟩ = some (.int .i64 y)) :
    Calls Tryd.prog 50 #[.slice (some ⟨g, 0, none⟩) 2 2] w fun e w' => e = .returned (.int .i64 (if x ≠ 0 then x else y)) ∧ w' = w := by
  obtain ⟨r, hr⟩ : ∃ r, r = (if x ≠ 0 then x else y) := ⟨_, rfl⟩
  rw [← hr]
  have Hr := Lib.hid hr
  clear hr
  go_enter Tryd.func50, Tryd.ntmps50
  go_wp2
  go_loopw [8] (fun i wr => ∃ k : Nat, k ≤ 2 ∧ i = .int .i64 k ∧ (1 ≤ k → Hid (x = 0)) ∧ (2 ≤ k → Hid (y = 0)) ∧ wr = w) (fun i _ => 2 - (intOf i).toNat)
  case atStart => exact ⟨0, by omega, rfl, by omega, by omega, rfl⟩
  case round =>
    obtain ⟨k, hk, rfl, h1, h2, rfl⟩ := hrel
    have hk3 : k = 0 ∨ k = 1 ∨ k = 2 := by omega
    rcases hk3 with rfl | rfl | rfl
    · rw [show ((0 : Nat) : Int) = (0 : Int) from rfl]
      by_cases hx : x = 0
      · have hq : (x == 0) = true := by simp [hx]
        have Hx := Lib.hid hx
        clear h1 h2 hx
        go_wp2
        go_roundw
        case rel => exact ⟨1, by omega, by go_num, fun _ => Hx, by omega, trivial⟩
        case measure => simp [intOf]
      · have hq : (x == 0) = false := by simp [hx]
        have Hx := Lib.hid hx
        clear h1 h2 hx
        go_wp2
        go_ret
        exact ⟨by rw [Hr.out, if_pos Hx.out]; rfl, rfl⟩
    · rw [show ((1 : Nat) : Int) = (1 : Int) from rfl]
      have Hx := h1 (Nat.le_refl _)
      by_cases hy : y = 0
      · have hq : (y == 0) = true := by simp [hy]
        have Hy := Lib.hid hy
        clear h1 h2 hy
        go_wp2
        go_roundw
        case rel => exact ⟨2, by omega, by go_num, fun _ => Hx, fun _ => Hy, trivial⟩
        case measure => simp [intOf]
      · have hq : (y == 0) = false := by simp [hy]
        clear h1 h2 hy
        go_wp2
        go_ret
        exact ⟨by rw [Hr.out, if_neg (fun h => h Hx.out)]; rfl, rfl⟩
    · rw [show ((2 : Nat) : Int) = (2 : Int) from rfl]
      have Hx := h1 (by omega)
      have Hy := h2 (by omega)
      clear h1 h2
      go_wp2
      go_ret
      exact ⟨by rw [Hr.out, if_neg (fun h => h Hx.out), Hy.out]; rfl, rfl⟩

theorem cmp_order (a : Nat) (b : Int) (c : Nat) (d : Int) : (if Nt.cmpI (a : Int) (c : Int) ≠ 0 then Nt.cmpI (a : Int) (c : Int) else Nt.cmpI b d) = Nt.order a b c d := by
  unfold Nt.cmpI Nt.order
  by_cases h1 : a < c
  · rw [if_pos (show (a : Int) < c by omega), if_pos (by decide), if_pos (.inl h1)]
  · rw [if_neg (show ¬ (a : Int) < c by omega)]
    by_cases h2 : c < a
    · rw [if_pos (show (c : Int) < a by omega), if_pos (by decide), if_neg (by omega), if_neg (by omega)]
    · rw [if_neg (show ¬ (c : Int) < a by omega), if_neg (by decide)]
      have h3 : a = c := by omega
      by_cases h4 : b < d
      · rw [if_pos h4, if_pos (.inr ⟨h3, h4⟩)]
      · rw [if_neg h4, if_neg (show ¬ (a < c ∨ a = c ∧ b < d) by omega)]
        by_cases h5 : d < b
        · rw [if_pos h5, if_neg (by omega)]
        · rw [if_neg h5, if_pos ⟨h3, by omega⟩]

set_option maxRecDepth 20000 in
set_option maxHeartbeats 1600000 in
theorem net_Compare (a : Nat) (b : Int) (c : Nat) (d : Int) (w : World) (_ha : a < 4294967296) (_hc : c < 4294967296) (_b0 : -9223372036854775808 ≤ b) (_b1 : b ≤ 9223372036854775807) (_d0 : -9223372036854775808 ≤ d) (_d1 : d ≤ 9223372036854775807) :
    Calls Tryd.prog 32 #[netV a b, netV c d] w fun e w' => e = .returned (.int .i64 (Nt.order a b c d)) ∧ Below w.heap.size w w' := by
  have h2 := two_nets w (.int .u32 (a : Int)) (.int .i64 b) (.int .u32 (c : Int)) (.int .i64 d)
  obtain ⟨w1, hw1⟩ : ∃ w1, w1 = (w.alloc (.cells #[.int .u32 (a : Int), .int .i64 b] 44)).alloc (.cells #[.int .u32 (c : Int), .int .i64 d] 44) := ⟨_, rfl⟩
  rw [← hw1] at h2
  obtain ⟨hA, hz1, hg2, hg3⟩ := h2
  obtain ⟨c0, c1⟩ := net_cells hg2 (Below.refl _ _)
  obtain ⟨c2, c3⟩ := net_cells hg3 (Below.refl _ _)
  have HA := Lib.hid (fun W => cmp_u32 (a : Int) (c : Int) W)
  have HB := Lib.hid (fun W => cmp_i64 b d W)
  have Hr := Lib.hid (cmp_order a b c d)
  have q : ∀ ad : Addr, ({ heap := w1.heap, tape := w1.tape, drawn := w1.drawn + 1, os := w1.os, output := w1.output } : World).cell? ad = w1.cell? ad := fun _ => rfl
  unfold netV
  clear hg2 hg3
  generalize Nt.cmpI (a : Int) (c : Int) = x at *
  generalize Nt.cmpI b d = y at *
  go_enter Tryd.func32, Tryd.ntmps32
  go_wp2_with fail
  rw [← hw1]
  clear hw1
  refine wp_region_still_tail 10 (by kernel_rfl) (by kernel_rfl) ?_
  simp only [List.take_succ_cons, List.take_zero, List.drop_succ_cons, List.drop_zero]
  iterate 4 still_step
  still_call (HA.out _)
  iterate 4 still_step
  still_call (HB.out _)
  refine wpStill_nil ?_
  change wpList _ _ _ _ _ w1.drew
  have hAd := hA.drew
  generalize w1.drew = w2 at *
  clear q c0 c1 c2 c3 hA
  obtain ⟨k0, k1⟩ := new_two w2 (.int .i64 x) (.int .i64 y) 3
  have hB2 := hAd.alloc (by have := hAd.size; omega) (.cells #[.int .i64 x, .int .i64 y] 3)
  go_wp2_with fail
  refine (cmp_or2 x y _ _ k0 k1).mono ?_
  rintro e w3 ⟨rfl, hw3⟩
  rw [Hr.out, hw3]
  clear k0 k1
  go_wp2
  go_ret
  exact ⟨rfl, hB2⟩
end Go.Proofs.YtjdflnnpamjjcaaDoor
