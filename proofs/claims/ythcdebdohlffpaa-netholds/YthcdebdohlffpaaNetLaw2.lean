/- The law NetCut walked. -/
import Derived.Test.YthcdebdohlffpaaNetCode
import Derived.Test.YthcdebdohlffpaaNetRef4
import Derived.Test.YthcdebdohlffpaaNetFacts
import Derived.Test.YthcdebdohlffpaaKeepPick
namespace Go.Proofs.Ythcdebdohlffpaa
open Go.RowKit

set_option maxRecDepth 20000 in
set_option maxHeartbeats 1600000 in
theorem law_NetCut (a : Nat) (n m : Int) (w : World) (ha : a < 4294967296) (n0 : -9223372036854775808 ≤ n) (n1 : n ≤ 9223372036854775807) (m0 : -9223372036854775808 ≤ m) (m1 : m ≤ 9223372036854775807) :
    Calls Try.prog 8 #[.int .u32 (a : Int), .int .i64 n, .int .i64 m] w fun e w' => e = .returned (.bool true) ∧ Below w.heap.size w w' := by
  have HN := Lib.hid (fun W => keep_picked n 33 W n0 n1 (by decide) (by decide))
  have HM := Lib.hid (fun W => keep_picked m 33 W m0 m1 (by decide) (by decide))
  have hp := pick_lt n 33 (by decide)
  have hq := pick_lt m 33 (by decide)
  generalize pick n 33 = p at *
  generalize pick m 33 = q at *
  have H1 := Lib.hid (fun W => net_Of a (p : Int) W ha (by omega) (by omega))
  have H2 := Lib.hid (fun W => net_Of a (q : Int) W ha (by omega) (by omega))
  obtain ⟨o1, o2, o3⟩ := of_good a p (by omega)
  obtain ⟨r1, r2, r3⟩ := of_good a q (by omega)
  rw [o1, o2, o3] at H1
  rw [r1, r2, r3] at H2
  have lp := Nt.cut_lt a p ha
  have lq := Nt.cut_lt a q ha
  have H3 := Lib.hid (fun W => net_Has (Nt.cut a p) (p : Int) a W lp ha (by omega) (by omega))
  have H4 := Lib.hid (fun W => net_Has (Nt.cut a q) (q : Int) a W lq ha (by omega) (by omega))
  have H5 := Lib.hid (fun W => net_Check (Nt.cut a p) (p : Int) W lp (by omega) (by omega))
  have H6 := Lib.hid (fun W => net_Holds (Nt.cut a p) (p : Int) (Nt.cut a q) (q : Int) W lp lq (by omega) (by omega) (by omega) (by omega))
  rw [Nt.has_cut a p (by omega)] at H3
  rw [Nt.has_cut a q (by omega)] at H4
  rw [Nt.err_of (by omega) (Nt.cut_mod a p)] at H5
  have Hh := Lib.hid (fun (h : p ≤ q) => Nt.holds_cut a (m := q) (by omega) h)
  clear o1 o2 o3 r1 r2 r3
  unfold netV at H1 H2 H3 H4 H5 H6
  generalize Nt.cut a p = A at *
  generalize Nt.cut a q = B at *
  go_enter Try.func8, Try.ntmps8
  go_wp2_with fail
  refine (HN.out _).mono ?_
  rintro e w1 ⟨rfl, hw1⟩
  subst hw1
  go_wp2_with fail
  refine (HM.out _).mono ?_
  rintro e w1 ⟨rfl, hw1⟩
  subst hw1
  go_wp2_with fail
  refine (H1.out _).mono ?_
  rintro e w2 ⟨rfl, hb2⟩
  go_wp2_with fail
  refine (H2.out _).mono ?_
  rintro e w3 ⟨rfl, hb3⟩
  obtain ⟨W3, hW3⟩ : ∃ W3, W3 = w3.alloc (.cells #[.int .u32 (B : Int), .int .i64 (q : Int)] 24) := ⟨_, rfl⟩
  have hz3 : w2.heap.size < w3.heap.size := by have := hb3.size; simp at this; omega
  have gx : W3.heap[w2.heap.size]? = some (.cells #[.int .u32 (A : Int), .int .i64 (p : Int)] 24 (0, 0)) := by
    rw [hW3, Below.heap_alloc _ _ _ hz3, hb3.block _ (by simp)]
    exact heap_alloc_last w2 _
  have gy : W3.heap[w3.heap.size]? = some (.cells #[.int .u32 (B : Int), .int .i64 (q : Int)] 24 (0, 0)) := by rw [hW3]; exact heap_alloc_last w3 _
  have hB3 : Below w.heap.size w W3 := by
    rw [hW3]
    have h1 := (hb2.alloc hb2.size (.cells #[.int .u32 (A : Int), .int .i64 (p : Int)] 24)).trans (hb3.mono (by have := hb2.size; simp; omega))
    exact h1.alloc h1.size _
  have Hc : Hid (∀ W, Below W3.heap.size W3 W → W.cell? ⟨w2.heap.size, 0, none⟩ = some (.int .u32 (A : Int)) ∧ W.cell? ⟨w2.heap.size, 1, none⟩ = some (.int .i64 (p : Int)) ∧ W.cell? ⟨w3.heap.size, 0, none⟩ = some (.int .u32 (B : Int)) ∧ W.cell? ⟨w3.heap.size, 1, none⟩ = some (.int .i64 (q : Int))) :=
    Lib.hid fun W hW => ⟨(net_cells gx hW).1, (net_cells gx hW).2, (net_cells gy hW).1, (net_cells gy hW).2⟩
  clear gx gy
  have HW3 := Lib.hid hW3
  clear hW3
  obtain ⟨c0, c1⟩ := net_cells (heap_alloc_last w2 _) hb3
  go_wp2_with fail
  rw [← HW3.out]
  clear HW3 c0 c1
  refine (H3.out _).mono ?_
  rintro e w4 ⟨rfl, hb4⟩
  obtain ⟨c0, c1, c2, c3⟩ := Hc.out w4 hb4
  go_wp2_with fail
  refine (H4.out _).mono ?_
  rintro e w5 ⟨rfl, hb5⟩
  have hB5 := hb4.trans (hb5.mono hb4.size)
  clear c0 c1 c2 c3
  obtain ⟨c0, c1, c2, c3⟩ := Hc.out w5 hB5
  go_wp2_with fail
  refine (H5.out _).mono ?_
  rintro e w6 ⟨rfl, hb6⟩
  have hB6 := hB5.trans (hb6.mono hB5.size)
  clear c0 c1 c2 c3
  obtain ⟨c0, c1, c2, c3⟩ := Hc.out w6 hB6
  by_cases hpq : p ≤ q
  · have d1 : decide ((q : Int) < (p : Int)) = false := decide_eq_false (by omega)
    rw [Hh.out hpq] at H6
    go_wp2_with fail
    refine (H6.out _).mono ?_
    rintro e w7 ⟨rfl, hb7⟩
    have hB7 := hB6.trans (hb7.mono hB6.size)
    go_wp2
    go_ret
    exact ⟨by simp, hB3.trans (hB7.mono hB3.size)⟩
  · have d1 : decide ((q : Int) < (p : Int)) = true := decide_eq_true (by omega)
    go_wp2
    go_ret
    exact ⟨by simp, hB3.trans (hB6.mono hB3.size)⟩
end Go.Proofs.Ythcdebdohlffpaa
