/- The laws NetChecks, NetJoins and NetHolds walked. -/
import Derived.Test.YthcdebdohlffpaaNetCode
import Derived.Test.YthcdebdohlffpaaNetRef4
import Derived.Test.YthcdebdohlffpaaNetRef3b
import Derived.Deep.RegionHeld3
namespace Go.Proofs.Ythcdebdohlffpaa
open Go.RowKit

set_option maxRecDepth 20000 in
set_option maxHeartbeats 800000 in
theorem law_NetChecks (a : Nat) (b : Int) (x : Nat) (n : Int) (w : World) (ha : a < 4294967296) (hx : x < 4294967296) (b0 : -9223372036854775808 ≤ b) (b1 : b ≤ 9223372036854775807) (n0 : -9223372036854775808 ≤ n) (n1 : n ≤ 9223372036854775807) :
    Calls Try.prog 3 #[netV a b, .int .u32 (x : Int), .int .i64 n] w fun e w' => e = .returned (.bool true) ∧ Below w.heap.size w w' := by
  obtain ⟨w1, hw1⟩ : ∃ w1, w1 = w.alloc (.cells #[.int .u32 (a : Int), .int .i64 b] 24) := ⟨_, rfl⟩
  have hg1 : w1.heap[w.heap.size]? = some (.cells #[.int .u32 (a : Int), .int .i64 b] 24 (0, 0)) := by rw [hw1]; exact heap_alloc_last w _
  have hA : Below w.heap.size w w1 := by rw [hw1]; exact (Below.refl _ _).alloc (Nat.le_refl _) _
  have hz1 : w1.heap.size = w.heap.size + 1 := by rw [hw1]; simp
  have Hg1 := Lib.hid hg1
  have H1 := Lib.hid (fun W => net_Check a b W ha b0 b1)
  have H2 := Lib.hid (fun W => net_Of x n W hx n0 n1)
  have H3 := Lib.hid (fun W => ref_NetFault a b W ha)
  have H4 := Lib.hid (fun W => ref_NetOf x n W hx)
  clear hg1
  unfold netV at H1 H2 H3 H4 ⊢
  generalize Nt.err a b = r at *
  generalize Nt.ofAddr x n = A at *
  generalize Nt.ofBits n = B at *
  generalize Nt.ofErr n = q at *
  obtain ⟨c0, c1⟩ := net_cells Hg1.out (Below.refl _ _)
  go_enter Try.func3, Try.ntmps3
  go_wp2_with fail
  rw [← hw1]
  refine (H1.out _).mono ?_
  rintro e w2 ⟨rfl, hb2⟩
  clear c0 c1
  go_wp2_with fail
  refine (H2.out _).mono ?_
  rintro e w3 ⟨rfl, hb3⟩
  have hB3 := hb2.trans (hb3.mono hb2.size)
  have hz3 : w.heap.size < w3.heap.size := by have := hB3.size; omega
  obtain ⟨c0, c1⟩ := net_cells Hg1.out hB3
  go_wp2_with fail
  refine (H3.out _).mono ?_
  rintro e w4 ⟨rfl, hb4⟩
  have Hb4 := Lib.hid hb4
  have hB4 := (hB3.alloc hB3.size _).trans (hb4.mono (by simp; omega))
  clear c0 c1 hb4
  go_wp2_with fail
  refine (H4.out _).mono ?_
  rintro e w5 ⟨rfl, hb5⟩
  have hB5 := hB4.trans (hb5.mono hB4.size)
  obtain ⟨d0, d1⟩ := net_cells (heap_alloc_last w3 _) (Hb4.out.trans (hb5.mono Hb4.out.size))
  have hz5 : w3.heap.size < w5.heap.size := by have h1 := Hb4.out.size; have h2 := hb5.size; simp at h1; omega
  have hB6 := hA.trans (hB5.mono (by omega))
  go_wp2
  go_ret
  exact ⟨by simp, hB6.alloc hB6.size _⟩

set_option maxRecDepth 20000 in
set_option maxHeartbeats 800000 in
theorem law_NetJoins (a : Nat) (b : Int) (c : Nat) (d : Int) (w : World) (ha : a < 4294967296) (hc : c < 4294967296) (b0 : -9223372036854775808 ≤ b) (b1 : b ≤ 9223372036854775807) (d0 : -9223372036854775808 ≤ d) (d1 : d ≤ 9223372036854775807) :
    Calls Try.prog 5 #[netV a b, netV c d] w fun e w' => e = .returned (.bool true) ∧ Below w.heap.size w w' := by
  have h2 := two_nets w (.int .u32 (a : Int)) (.int .i64 b) (.int .u32 (c : Int)) (.int .i64 d)
  obtain ⟨w1, hw1⟩ : ∃ w1, w1 = (w.alloc (.cells #[.int .u32 (a : Int), .int .i64 b] 24)).alloc (.cells #[.int .u32 (c : Int), .int .i64 d] 24) := ⟨_, rfl⟩
  rw [← hw1] at h2
  obtain ⟨hA, hz1, hg2, hg3⟩ := h2
  have Hg := Lib.hid (And.intro hg2 hg3)
  have H1 := Lib.hid (fun W => net_Join a b c d W ha hc b0 b1 d0 d1)
  have H2 := Lib.hid (fun W => ref_NetJoined a b c d W ha hc)
  clear hg2 hg3
  unfold netV at H1 H2 ⊢
  generalize Nt.joinAddr a b c d = A at *
  generalize Nt.joinBits a b c d = B at *
  generalize Nt.joinErr a b c d = q at *
  obtain ⟨c0, c1⟩ := net_cells Hg.out.1 (Below.refl _ _)
  obtain ⟨c2, c3⟩ := net_cells Hg.out.2 (Below.refl _ _)
  go_enter Try.func5, Try.ntmps5
  go_wp2_with fail
  rw [← hw1]
  refine (H1.out _).mono ?_
  rintro e w2 ⟨rfl, hb2⟩
  have hz2 : w.heap.size < w2.heap.size := by have := hb2.size; omega
  have hz3 : w.heap.size + 1 < w2.heap.size := by have := hb2.size; omega
  clear c0 c1 c2 c3
  obtain ⟨c0, c1⟩ := net_cells Hg.out.1 hb2
  obtain ⟨c2, c3⟩ := net_cells Hg.out.2 hb2
  go_wp2_with fail
  refine (H2.out _).mono ?_
  rintro e w3 ⟨rfl, hb3⟩
  obtain ⟨e0, e1⟩ := net_cells (heap_alloc_last w2 _) hb3
  have hB3 := (hb2.alloc hb2.size _).trans (hb3.mono (by simp; omega))
  have hz5 : w2.heap.size < w3.heap.size := by have h1 := hb3.size; simp at h1; omega
  have hB6 := hA.trans (hB3.mono (by omega))
  clear c0 c1 c2 c3
  go_wp2
  go_ret
  exact ⟨by simp, hB6.alloc hB6.size _⟩

set_option maxRecDepth 20000 in
set_option maxHeartbeats 1600000 in
theorem law_NetHolds (a : Nat) (b : Int) (c : Nat) (d : Int) (x : Nat) (w : World) (ha : a < 4294967296) (hc : c < 4294967296) (hx : x < 4294967296) (b0 : -9223372036854775808 ≤ b) (b1 : b ≤ 9223372036854775807) (d0 : -9223372036854775808 ≤ d) (d1 : d ≤ 9223372036854775807) :
    Calls Try.prog 4 #[netV a b, netV c d, .int .u32 (x : Int)] w fun e w' => e = .returned (.bool true) ∧ Below w.heap.size w w' := by
  have h2 := two_nets w (.int .u32 (a : Int)) (.int .i64 b) (.int .u32 (c : Int)) (.int .i64 d)
  obtain ⟨w1, hw1⟩ : ∃ w1, w1 = (w.alloc (.cells #[.int .u32 (a : Int), .int .i64 b] 24)).alloc (.cells #[.int .u32 (c : Int), .int .i64 d] 24) := ⟨_, rfl⟩
  rw [← hw1] at h2
  obtain ⟨hA, hz1, hg2, hg3⟩ := h2
  have HS : Hid (∀ W, Below w1.heap.size w1 W → (W.cell? ⟨w.heap.size, 0, none⟩ = some (.int .u32 (a : Int)) ∧ W.cell? ⟨w.heap.size, 1, none⟩ = some (.int .i64 b) ∧ W.cell? ⟨w.heap.size + 1, 0, none⟩ = some (.int .u32 (c : Int)) ∧ W.cell? ⟨w.heap.size + 1, 1, none⟩ = some (.int .i64 d) ∧ Below w1.heap.size w1 W)) := Lib.hid fun W hW => ⟨(net_cells hg2 hW).1, (net_cells hg2 hW).2, (net_cells hg3 hW).1, (net_cells hg3 hW).2, hW⟩
  have H1 : Hid (∀ W, (W.cell? ⟨w.heap.size, 0, none⟩ = some (.int .u32 (a : Int)) ∧ W.cell? ⟨w.heap.size, 1, none⟩ = some (.int .i64 b) ∧ W.cell? ⟨w.heap.size + 1, 0, none⟩ = some (.int .u32 (c : Int)) ∧ W.cell? ⟨w.heap.size + 1, 1, none⟩ = some (.int .i64 d) ∧ Below w1.heap.size w1 W) → Calls Try.prog 13 #[.agg #[.int .u32 (a : Int), .int .i64 b], .int .u32 (x : Int)] W fun e W' => e = .returned (.bool (Nt.has a b x)) ∧ (W'.cell? ⟨w.heap.size, 0, none⟩ = some (.int .u32 (a : Int)) ∧ W'.cell? ⟨w.heap.size, 1, none⟩ = some (.int .i64 b) ∧ W'.cell? ⟨w.heap.size + 1, 0, none⟩ = some (.int .u32 (c : Int)) ∧ W'.cell? ⟨w.heap.size + 1, 1, none⟩ = some (.int .i64 d) ∧ Below w1.heap.size w1 W')) := Lib.hid fun W hW => (net_Has a b x W ha hx b0 b1).mono fun e W' ⟨he, hb⟩ => ⟨he, HS.out W' (hW.2.2.2.2.trans (hb.mono hW.2.2.2.2.size))⟩
  have H2 : Hid (∀ W, (W.cell? ⟨w.heap.size, 0, none⟩ = some (.int .u32 (a : Int)) ∧ W.cell? ⟨w.heap.size, 1, none⟩ = some (.int .i64 b) ∧ W.cell? ⟨w.heap.size + 1, 0, none⟩ = some (.int .u32 (c : Int)) ∧ W.cell? ⟨w.heap.size + 1, 1, none⟩ = some (.int .i64 d) ∧ Below w1.heap.size w1 W) → Calls Try.prog 14 #[.agg #[.int .u32 (a : Int), .int .i64 b], .agg #[.int .u32 (c : Int), .int .i64 d]] W fun e W' => e = .returned (.bool (Nt.holds a b c d)) ∧ (W'.cell? ⟨w.heap.size, 0, none⟩ = some (.int .u32 (a : Int)) ∧ W'.cell? ⟨w.heap.size, 1, none⟩ = some (.int .i64 b) ∧ W'.cell? ⟨w.heap.size + 1, 0, none⟩ = some (.int .u32 (c : Int)) ∧ W'.cell? ⟨w.heap.size + 1, 1, none⟩ = some (.int .i64 d) ∧ Below w1.heap.size w1 W')) := Lib.hid fun W hW => (net_Holds a b c d W ha hc b0 b1 d0 d1).mono fun e W' ⟨he, hb⟩ => ⟨he, HS.out W' (hW.2.2.2.2.trans (hb.mono hW.2.2.2.2.size))⟩
  have H3 : Hid (∀ W, (W.cell? ⟨w.heap.size, 0, none⟩ = some (.int .u32 (a : Int)) ∧ W.cell? ⟨w.heap.size, 1, none⟩ = some (.int .i64 b) ∧ W.cell? ⟨w.heap.size + 1, 0, none⟩ = some (.int .u32 (c : Int)) ∧ W.cell? ⟨w.heap.size + 1, 1, none⟩ = some (.int .i64 d) ∧ Below w1.heap.size w1 W) → Calls Try.prog 15 #[.agg #[.int .u32 (a : Int), .int .i64 b], .agg #[.int .u32 (c : Int), .int .i64 d]] W fun e W' => e = .returned (.int .i64 (Nt.order a b c d)) ∧ (W'.cell? ⟨w.heap.size, 0, none⟩ = some (.int .u32 (a : Int)) ∧ W'.cell? ⟨w.heap.size, 1, none⟩ = some (.int .i64 b) ∧ W'.cell? ⟨w.heap.size + 1, 0, none⟩ = some (.int .u32 (c : Int)) ∧ W'.cell? ⟨w.heap.size + 1, 1, none⟩ = some (.int .i64 d) ∧ Below w1.heap.size w1 W')) := Lib.hid fun W hW => (net_Compare a b c d W ha hc b0 b1 d0 d1).mono fun e W' ⟨he, hb⟩ => ⟨he, HS.out W' (hW.2.2.2.2.trans (hb.mono hW.2.2.2.2.size))⟩
  have H4 : Hid (∀ W, (W.cell? ⟨w.heap.size, 0, none⟩ = some (.int .u32 (a : Int)) ∧ W.cell? ⟨w.heap.size, 1, none⟩ = some (.int .i64 b) ∧ W.cell? ⟨w.heap.size + 1, 0, none⟩ = some (.int .u32 (c : Int)) ∧ W.cell? ⟨w.heap.size + 1, 1, none⟩ = some (.int .i64 d) ∧ Below w1.heap.size w1 W) → Calls Try.prog 16 #[.agg #[.int .u32 (a : Int), .int .i64 b], .int .u32 (x : Int)] W fun e W' => e = .returned (.bool (Nt.has a b x)) ∧ (W'.cell? ⟨w.heap.size, 0, none⟩ = some (.int .u32 (a : Int)) ∧ W'.cell? ⟨w.heap.size, 1, none⟩ = some (.int .i64 b) ∧ W'.cell? ⟨w.heap.size + 1, 0, none⟩ = some (.int .u32 (c : Int)) ∧ W'.cell? ⟨w.heap.size + 1, 1, none⟩ = some (.int .i64 d) ∧ Below w1.heap.size w1 W')) := Lib.hid fun W hW => (ref_NetHas a b x W ha hx).mono fun e W' ⟨he, hb⟩ => ⟨he, HS.out W' (hW.2.2.2.2.trans (hb.mono hW.2.2.2.2.size))⟩
  have H5 : Hid (∀ W, (W.cell? ⟨w.heap.size, 0, none⟩ = some (.int .u32 (a : Int)) ∧ W.cell? ⟨w.heap.size, 1, none⟩ = some (.int .i64 b) ∧ W.cell? ⟨w.heap.size + 1, 0, none⟩ = some (.int .u32 (c : Int)) ∧ W.cell? ⟨w.heap.size + 1, 1, none⟩ = some (.int .i64 d) ∧ Below w1.heap.size w1 W) → Calls Try.prog 17 #[.agg #[.int .u32 (a : Int), .int .i64 b], .agg #[.int .u32 (c : Int), .int .i64 d]] W fun e W' => e = .returned (.bool (Nt.holds a b c d)) ∧ (W'.cell? ⟨w.heap.size, 0, none⟩ = some (.int .u32 (a : Int)) ∧ W'.cell? ⟨w.heap.size, 1, none⟩ = some (.int .i64 b) ∧ W'.cell? ⟨w.heap.size + 1, 0, none⟩ = some (.int .u32 (c : Int)) ∧ W'.cell? ⟨w.heap.size + 1, 1, none⟩ = some (.int .i64 d) ∧ Below w1.heap.size w1 W')) := Lib.hid fun W hW => (ref_NetHolds a b c d W ha hc).mono fun e W' ⟨he, hb⟩ => ⟨he, HS.out W' (hW.2.2.2.2.trans (hb.mono hW.2.2.2.2.size))⟩
  have H6 : Hid (∀ W, (W.cell? ⟨w.heap.size, 0, none⟩ = some (.int .u32 (a : Int)) ∧ W.cell? ⟨w.heap.size, 1, none⟩ = some (.int .i64 b) ∧ W.cell? ⟨w.heap.size + 1, 0, none⟩ = some (.int .u32 (c : Int)) ∧ W.cell? ⟨w.heap.size + 1, 1, none⟩ = some (.int .i64 d) ∧ Below w1.heap.size w1 W) → Calls Try.prog 18 #[.agg #[.int .u32 (a : Int), .int .i64 b], .agg #[.int .u32 (c : Int), .int .i64 d]] W fun e W' => e = .returned (.int .i64 (Nt.order a b c d)) ∧ (W'.cell? ⟨w.heap.size, 0, none⟩ = some (.int .u32 (a : Int)) ∧ W'.cell? ⟨w.heap.size, 1, none⟩ = some (.int .i64 b) ∧ W'.cell? ⟨w.heap.size + 1, 0, none⟩ = some (.int .u32 (c : Int)) ∧ W'.cell? ⟨w.heap.size + 1, 1, none⟩ = some (.int .i64 d) ∧ Below w1.heap.size w1 W')) := Lib.hid fun W hW => (ref_NetOrder a b c d W).mono fun e W' ⟨he, hb⟩ => ⟨he, HS.out W' (hW.2.2.2.2.trans (hb.mono hW.2.2.2.2.size))⟩
  clear hg2 hg3
  unfold netV
  generalize Nt.has a b x = p at *
  generalize Nt.holds a b c d = q at *
  generalize Nt.order a b c d = r at *
  obtain ⟨c0, c1, c2, c3, _⟩ := HS.out w1 (Below.refl _ _)
  go_enter Try.func4, Try.ntmps4
  go_wp2_with fail
  rw [← hw1]
  clear hw1
  go_region_held3 (fun W => W.cell? ⟨w.heap.size, 0, none⟩ = some (.int .u32 (a : Int)) ∧ W.cell? ⟨w.heap.size, 1, none⟩ = some (.int .i64 b) ∧ W.cell? ⟨w.heap.size + 1, 0, none⟩ = some (.int .u32 (c : Int)) ∧ W.cell? ⟨w.heap.size + 1, 1, none⟩ = some (.int .i64 d) ∧ Below w1.heap.size w1 W) (first | assumption | (exact ⟨c0, c1, c2, c3, (Below.refl _ _).drew⟩))
    (first
      | (go_at_call 13; refine (H1.out _ (by first | assumption | exact ⟨c0, c1, c2, c3, (Below.refl _ _).drew⟩)).mono ?_; rintro e w2 ⟨rfl, hS2⟩)
      | (go_at_call 14; refine (H2.out _ (by first | assumption | exact ⟨c0, c1, c2, c3, (Below.refl _ _).drew⟩)).mono ?_; rintro e w3 ⟨rfl, hS3⟩)
      | (go_at_call 15; refine (H3.out _ (by first | assumption | exact ⟨c0, c1, c2, c3, (Below.refl _ _).drew⟩)).mono ?_; rintro e w4 ⟨rfl, hS4⟩))
  clear c0 c1 c2 c3
  obtain ⟨c0, c1, c2, c3, hB4⟩ := hS4
  clear hS2 hS3
  go_wp2_with fail
  go_region_held3 (fun W => W.cell? ⟨w.heap.size, 0, none⟩ = some (.int .u32 (a : Int)) ∧ W.cell? ⟨w.heap.size, 1, none⟩ = some (.int .i64 b) ∧ W.cell? ⟨w.heap.size + 1, 0, none⟩ = some (.int .u32 (c : Int)) ∧ W.cell? ⟨w.heap.size + 1, 1, none⟩ = some (.int .i64 d) ∧ Below w1.heap.size w1 W) (first | assumption | (exact ⟨c0, c1, c2, c3, hB4.drew⟩))
    (first
      | (go_at_call 16; refine (H4.out _ (by first | assumption | exact ⟨c0, c1, c2, c3, hB4.drew⟩)).mono ?_; rintro e w5 ⟨rfl, hS5⟩)
      | (go_at_call 17; refine (H5.out _ (by first | assumption | exact ⟨c0, c1, c2, c3, hB4.drew⟩)).mono ?_; rintro e w6 ⟨rfl, hS6⟩)
      | (go_at_call 18; refine (H6.out _ (by first | assumption | exact ⟨c0, c1, c2, c3, hB4.drew⟩)).mono ?_; rintro e w7 ⟨rfl, hS7⟩))
  have hB7 := hA.trans (hS7.2.2.2.2.mono (by omega))
  clear c0 c1 c2 c3 hB4 hS5 hS6 hS7
  go_wp2
  go_ret
  exact ⟨by simp, hB7⟩
end Go.Proofs.Ythcdebdohlffpaa
