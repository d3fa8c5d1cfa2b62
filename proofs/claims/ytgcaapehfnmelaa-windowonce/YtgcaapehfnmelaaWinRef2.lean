/- The contract of the reference's WindowTake. -/
import Derived.Test.YtgcaapehfnmelaaWinRef
import Derived.BigRegion
import Derived.Laws.ResultCell
import Derived.Laws.Rows
namespace Go.Proofs.Ytgcaapehfnmelaa
open Go.RowKit

def takeV (so : Bool) (la : Int) (b : Nat) (n : Int) : Value := if Wn.takeErr so la b n = 0 then seenV true (Wn.last so la n) (Wn.takeBits so la b n) else seenV false 0 0
/-- A block of three cells, known whole, as a row. -/
theorem own_three {w : World} {base g : Nat} {x y z : Value} (hg : w.heap[g]? = some (.cells #[x, y, z] 24 (0, 0))) (hb : base ≤ g) :
    w.ownsRow base 24 1 (.slice (some ⟨g, 0, none⟩) 3 3) 3 [x, y, z] :=
  ⟨rfl, .inr ⟨g, 3, #[x, y, z], rfl, hb, hg, Nat.le_refl _, by decide, rfl, rfl⟩⟩
theorem row_set {w : World} {base g : Nat} {x y z : Value} (h : w.ownsRow base 24 1 (.slice (some ⟨g, 0, none⟩) 3 3) 3 [x, y, z]) (v : Nat) :
    (w.setCell ⟨g, 2, none⟩ (.int .u64 (v : Int))).ownsRow base 24 1 (.slice (some ⟨g, 0, none⟩) 3 3) 3 [x, y, .int .u64 (v : Int)] := (h.stored 2 (.int .u64 (v : Int))).1
theorem u64_shl (t : TypeId) (i : Nat) (hi : i < 64) : binOp .shl t (.int .u64 1) (.int .i64 (i : Int)) = pure (.int .u64 ((2 ^ i : Nat) : Int)) := by
  rw [binOp_shl, shift_shl .u64 .i64 _ (i : Int) (by omega) (by show (i : Int) ≤ 64; omega)]
  have h : (2 : Nat) ^ i < 2 ^ 64 := Nat.pow_lt_pow_right (by decide) hi
  have e : (1 : Int) * 2 ^ ((i : Int)).toNat = ((2 ^ i : Nat) : Int) := by rw [Int.toNat_natCast, Int.one_mul, Int.natCast_pow]; rfl
  rw [e, IntKind.wrap_u64]
  generalize (2 : Nat) ^ i = y at h ⊢
  congr 2
  omega
theorem u64_in (v : Nat) (h : v < 18446744073709551616) : IntKind.u64.wrap (v : Int) = (v : Int) := by rw [IntKind.wrap_u64]; omega

theorem three_cells {w : World} {base g : Nat} {x y z : Value} (h : w.ownsRow base 24 1 (.slice (some ⟨g, 0, none⟩) 3 3) 3 [x, y, z]) :
    w.cell? ⟨g, 0, none⟩ = some x ∧ w.cell? ⟨g, 1, none⟩ = some y ∧ w.cell? ⟨g, 2, none⟩ = some z := ⟨own_cell h rfl, own_cell h rfl, own_cell h rfl⟩
theorem take_cases (so : Bool) (la : Int) (b : Nat) (n : Int) : (Wn.hasErr so la b n ≠ 0 ∧ (Wn.hasErr so la b n = 4 ∨ Wn.hasErr so la b n = 14) ∧ Wn.takeErr so la b n = Wn.hasErr so la b n ∧ takeV so la b n = seenV false 0 0) ∨
    (Wn.hasErr so la b n = 0 ∧ Wn.hasOut so la b n = true ∧ Wn.takeErr so la b n = 10 ∧ takeV so la b n = seenV false 0 0) ∨
    (Wn.hasErr so la b n = 0 ∧ Wn.hasOut so la b n = false ∧ Wn.takeErr so la b n = 0 ∧ takeV so la b n = seenV true (Wn.last so la n) (Wn.takeBits so la b n)) := by
  rcases hasErr_cases so la b n with ⟨h, h2, he, ho⟩ | ⟨h, h2, he, ho⟩ | ⟨h, h1, h2, he, ho⟩
  · have hx : Wn.hasErr so la b n ≠ 0 := by rw [he]; exact h
    have ht : Wn.takeErr so la b n = Wn.hasErr so la b n := by unfold Wn.takeErr; rw [if_pos hx]
    exact .inl ⟨hx, by rw [he]; exact h2, ht, by unfold takeV; rw [if_neg (by rw [ht]; exact hx)]⟩
  · have hx : Wn.hasErr so la b n ≠ 0 := by rw [he]; decide
    have ht : Wn.takeErr so la b n = Wn.hasErr so la b n := by unfold Wn.takeErr; rw [if_pos hx]
    exact .inl ⟨hx, .inl he, ht, by unfold takeV; rw [if_neg (by rw [ht]; exact hx)]⟩
  · cases hh : Wn.has so la b n
    · have ht : Wn.takeErr so la b n = 0 := by unfold Wn.takeErr; rw [if_neg (by rw [he]; decide), hh]; rfl
      exact .inr (.inr ⟨he, ho.trans hh, ht, by unfold takeV; rw [if_pos ht]⟩)
    · have ht : Wn.takeErr so la b n = 10 := by unfold Wn.takeErr; rw [if_neg (by rw [he]; decide), hh]; rfl
      exact .inr (.inl ⟨he, ho.trans hh, ht, by unfold takeV; rw [if_neg (by rw [ht]; decide)]⟩)
theorem three_set {w : World} {base g : Nat} {x y z : Value} (h : w.ownsRow base 24 1 (.slice (some ⟨g, 0, none⟩) 3 3) 3 [x, y, z]) (x' y' z' : Value) :
    (((w.setCell ⟨g, 0, none⟩ x').setCell ⟨g, 1, none⟩ y').setCell ⟨g, 2, none⟩ z').ownsRow base 24 1 (.slice (some ⟨g, 0, none⟩) 3 3) 3 [x', y', z'] :=
  ((((h.stored 0 x').1).stored 1 y').1.stored 2 z').1
theorem three_block {w : World} {base g : Nat} {x y z : Value} (h : w.ownsRow base 24 1 (.slice (some ⟨g, 0, none⟩) 3 3) 3 [x, y, z]) : w.heap[g]? = some (.cells #[x, y, z] 24 (0, 0)) := by
  rcases h.2 with ⟨hv, _⟩ | ⟨g', cap, cur, hv, _, hg, _, _, hs, ht⟩
  · cases hv
  · injection hv with h1 _ h3
    have h1' : g = g' := by injection h1 with h1; injection h1
    subst h1'; subst h3
    rw [List.take_of_length_le (by simp; omega)] at ht
    rw [hg]
    congr 2
    apply Array.ext'
    rw [ht]
theorem own_below3 {w w' : World} {base g : Nat} {xs : List Value} (h : w.ownsRow base 24 1 (.slice (some ⟨g, 0, none⟩) 3 3) 3 xs) (hb : Below w.heap.size w w') : w'.ownsRow base 24 1 (.slice (some ⟨g, 0, none⟩) 3 3) 3 xs :=
  h.kept (row := none) ⟨hb.os, hb.tape, hb.output, hb.size, fun j hj _ => hb.block j hj⟩ (.inr (by simp [Value.ownBlock]))
theorem size_seen : (Try.prog.info? 24).map (·.size) = some 3 := by kernel_rfl
/-- A state and an error, out of the result's own cells. -/
theorem seen_ret {fn : Func} {w : World} {base g : Nat} {x y z : Value} {p u : Nat} {e : Int} {tmps : Array Value} (h : fn.results = #[.cell p 24, .tmp u]) (hp : tmps.getD p undef = .pointer (some ⟨g, 0, none⟩)) (hu : tmps.getD u undef = .int .i64 e)
    (R : w.ownsRow base 24 1 (.slice (some ⟨g, 0, none⟩) 3 3) 3 [x, y, z]) : (results fn tmps).run Try.prog w = .ok (.tuple #[.agg #[x, y, z], .int .i64 e]) w := by
  have hl := run_loadVar_row (P := Try.prog) w g 24 24 #[x, y, z] (0, 0) _ (three_block R) Try.underlying24 rfl size_seen
  rw [results_cell_tmp h, hp, hu]
  simp [asAddr, hl]
theorem ret_seen_err {x y : Value} {a b : Int} (h : x = y) (g : a = b) : Ending.returned (.tuple #[x, .int .i64 a]) = .returned (.tuple #[y, .int .i64 b]) := by rw [h, g]

set_option maxRecDepth 100000 in
set_option maxHeartbeats 4000000 in
theorem ref_WindowTake (so : Bool) (la : Int) (b : Nat) (n : Int) (w : World) (l0 : -9223372036854775808 ≤ la) (l1 : la ≤ 9223372036854775807) (hb : b < 18446744073709551616) (n0 : -9223372036854775808 ≤ n) (n1 : n ≤ 9223372036854775807) :
    Calls Try.prog 13 #[seenV so la b, .int .i64 n] w fun e w' => e = .returned (.tuple #[takeV so la b n, .int .i64 (Wn.takeErr so la b n : Int)]) ∧ Below w.heap.size w w' := by
  have hH := fun W => ref_WindowHas so la b n W l0 l1 hb n0 n1
  obtain ⟨W0, hW0⟩ : ∃ W0, W0 = (w.alloc (.cells #[.bool so, .int .i64 la, .int .u64 (b : Int)] 24)).alloc (.cells #[.bool false, .int .i64 0, .int .u64 0] 24) := ⟨_, rfl⟩
  have hA : Below w.heap.size w W0 := by rw [hW0]; exact ((Below.refl _ _).alloc (Nat.le_refl _) _).alloc (by simp) _
  have hz0 : W0.heap.size = w.heap.size + 2 := by rw [hW0]; simp
  have hg2 : W0.heap[w.heap.size]? = some (.cells #[.bool so, .int .i64 la, .int .u64 (b : Int)] 24) := by
    rw [hW0, Below.heap_alloc _ _ _ (by simp)]; exact heap_alloc_last w _
  have hg4 : W0.heap[w.heap.size + 1]? = some (.cells #[.bool false, .int .i64 0, .int .u64 0] 24) := by
    have := heap_alloc_last (w.alloc (.cells #[.bool so, .int .i64 la, .int .u64 (b : Int)] 24)) (.cells #[.bool false, .int .i64 0, .int .u64 0] 24)
    rw [show (w.alloc (.cells #[.bool so, .int .i64 la, .int .u64 (b : Int)] 24)).heap.size = w.heap.size + 1 by simp] at this
    rw [hW0]; exact this
  have Hg2 := Lib.hid hg2
  have Hg4 := Lib.hid hg4
  clear hg2 hg4
  unfold seenV at hH ⊢
  rcases take_cases so la b n with ⟨h, h2, he, hv⟩ | ⟨h, h2, he, hv⟩ | ⟨h, h2, he, hv⟩
  · rcases h2 with h3 | h3 <;>
    · have He := Lib.hid (he.trans h3)
      have Hv := Lib.hid hv
      rw [h3] at hH
      clear h h3 he hv
      go_enter Try.func13, Try.ntmps13
      go_wp2_with fail
      rw [← hW0]
      refine (hH _).mono ?_
      rintro e w1 ⟨rfl, hb1⟩
      have R4 := own_three (base := w.heap.size) ((hb1.block (w.heap.size + 1) (by omega)).trans Hg4.out) (by omega)
      have hB1 := hA.trans (hb1.mono (by omega))
      obtain ⟨r0, r1, r2⟩ := three_cells R4
      have f0 := R4.frozenAt 0
      have f1 := R4.frozenAt 1
      have f2 := R4.frozenAt 2
      generalize Wn.hasOut so la b n = hO at *
      have R5 := three_set R4 (.bool false) (.int .i64 0) (.int .u64 0)
      go_wp2
      exact bodyPost_ret (seen_ret Try.results13 rfl rfl R5) rfl ⟨ret_seen_err (by rw [Hv.out]; rfl) (by rw [He.out]; rfl), ((hB1.setCell (by simp) _).setCell (by simp) _).setCell (by simp) _⟩
  · have He := Lib.hid he
    have Hv := Lib.hid hv
    rw [h, h2] at hH
    clear h h2 he hv
    go_enter Try.func13, Try.ntmps13
    go_wp2_with fail
    rw [← hW0]
    refine (hH _).mono ?_
    rintro e w1 ⟨rfl, hb1⟩
    have R4 := own_three (base := w.heap.size) ((hb1.block (w.heap.size + 1) (by omega)).trans Hg4.out) (by omega)
    have hB1 := hA.trans (hb1.mono (by omega))
    obtain ⟨r0, r1, r2⟩ := three_cells R4
    have f0 := R4.frozenAt 0
    have f1 := R4.frozenAt 1
    have f2 := R4.frozenAt 2
    rw [show ((0 : Nat) : Int) = (0 : Int) from rfl]
    have R5 := three_set R4 (.bool false) (.int .i64 0) (.int .u64 0)
    go_wp2
    exact bodyPost_ret (seen_ret Try.results13 rfl rfl R5) rfl ⟨ret_seen_err (by rw [Hv.out]; rfl) (by rw [He.out]; rfl), ((hB1.setCell (by simp) _).setCell (by simp) _).setCell (by simp) _⟩
  · have hn' : 0 ≤ n ∧ n ≤ 1099511627776 := by
      rcases hasErr_cases so la b n with ⟨x, _, y, _⟩ | ⟨_, _, y, _⟩ | ⟨_, x, y, _, _⟩
      · exact absurd (y.symm.trans h) x
      · rw [h] at y; cases y
      · exact ⟨x, y⟩
    obtain ⟨hn0, hn1⟩ := hn'
    have He := Lib.hid he
    have Hv := Lib.hid hv
    have hE : Wn.err so la b = 0 := by
      rcases hasErr_cases so la b n with ⟨x, _, y, _⟩ | ⟨_, _, y, _⟩ | ⟨x, _, _, _, _⟩
      · exact absurd (y.symm.trans h) x
      · rw [h] at y; cases y
      · exact x
    rw [h, h2] at hH
    clear h h2 he hv
    cases so
    · have HL := Lib.hid (show Wn.last false la n = n by unfold Wn.last; rw [if_neg (by simp)])
      clear hE
      go_enter Try.func13, Try.ntmps13
      go_wp2_with fail
      rw [← hW0]
      refine (hH _).mono ?_
      rintro e w1 ⟨rfl, hb1⟩
      have R4 := own_three (base := w.heap.size) ((hb1.block (w.heap.size + 1) (by omega)).trans Hg4.out) (by omega)
      have R2 := own_three (base := w.heap.size) ((hb1.block w.heap.size (by omega)).trans Hg2.out) (Nat.le_refl _)
      have hB1 := hA.trans (hb1.mono (by omega))
      have hz1 : w.heap.size + 2 ≤ w1.heap.size := by have := hb1.size; omega
      obtain ⟨r0, r1, r2⟩ := three_cells R4
      obtain ⟨s0, s1, s2⟩ := three_cells R2
      have HR4 := Lib.hid R4
      have HR2 := Lib.hid R2
      clear R4 R2 hb1
      rw [show ((0 : Nat) : Int) = (0 : Int) from rfl]
      go_wp2
      clear r0 r1 r2 s0 s1 s2
      go_loopw [10] (fun i wr => ∃ k : Nat, k ≤ 64 ∧ i = .int .i64 k ∧ wr.ownsRow w1.heap.size 24 1 (.slice (some ⟨w1.heap.size, 0, none⟩) 3 3) 3 [.bool true, .int .i64 n, .int .u64 (Wn.bitsOf (Wn.came false la b n) k : Int)] ∧ Below w1.heap.size w1 wr) (fun i _ => 64 - (intOf i).toNat)
      case atStart => exact ⟨0, by decide, rfl, own_three (heap_alloc_last w1 _) (Nat.le_refl _), (Below.refl _ _).alloc (Nat.le_refl _) _⟩
      case round =>
        obtain ⟨k, hk, rfl, hR, hB⟩ := hrel
        have hz := hB.size
        by_cases hlt : k < 64
        · obtain ⟨t0, t1, t2⟩ := three_cells hR
          have f2 := hR.frozenAt 2
          have R2 := own_below3 HR2.out hB
          obtain ⟨s0, s1, s2⟩ := three_cells R2
          have hsl := u64_shl 22 k hlt
          by_cases hq : n - (k : Int) = n
          · have hf : Wn.came false la b n k = true := by unfold Wn.came; rw [HL.out, decide_eq_true hq]; rfl
            have hq' : (n - (k : Int) == n) = true := by simp [hq]
            have Hs := Lib.hid (row_set hR (Wn.bitsOf (Wn.came false la b n) (k + 1)))
            have hv : Wn.bitsOf (Wn.came false la b n) (k + 1) = Wn.bitsOf (Wn.came false la b n) k + 2 ^ k := by rw [Wn.bitsOf, hf, if_pos rfl]
            rw [hv] at Hs
            have hw := u64_in (Wn.bitsOf (Wn.came false la b n) k + 2 ^ k) (by have := Wn.bitsOf_lt (Wn.came false la b n) (k + 1); have h64 : 2 ^ (k + 1) ≤ 2 ^ 64 := Nat.pow_le_pow_right (by decide) (by omega); omega)
            rw [Int.natCast_add] at hw Hs
            have Hf := Lib.hid hv
            clear hf hv
            generalize Wn.bitsOf (Wn.came false la b n) k = x at *
            generalize (2 ^ k : Nat) = y at *
            go_wp2_with fail
            go_region
            go_wp2
            go_roundw
            case rel => exact ⟨k + 1, by omega, by go_num, by rw [Hf.out, Int.natCast_add]; exact Hs.out.drew, (hB.setCell (Nat.le_refl _) _).drew⟩
            case measure => simp [intOf]; omega
          · have hf : Wn.came false la b n k = false := by unfold Wn.came; rw [HL.out, decide_eq_false hq]; rfl
            have hq' : (n - (k : Int) == n) = false := by simpa using hq
            have hv : Wn.bitsOf (Wn.came false la b n) (k + 1) = Wn.bitsOf (Wn.came false la b n) k := by rw [Wn.bitsOf, hf]; rfl
            have Hf := Lib.hid hv
            clear hf hv
            generalize Wn.bitsOf (Wn.came false la b n) k = x at *
            go_wp2
            go_roundw
            case rel => exact ⟨k + 1, by omega, by go_num, by rw [Hf.out]; exact hR, hB⟩
            case measure => simp [intOf]; omega
        · obtain rfl : k = 64 := by omega
          have R2 := own_below3 HR4.out hB
          obtain ⟨u0, u1, u2⟩ := three_cells R2
          have f0 := R2.frozenAt 0
          have f1 := R2.frozenAt 1
          have f2 := R2.frozenAt 2
          obtain ⟨t0, t1, t2⟩ := three_cells hR
          have hB2 := hB1.trans (hB.mono hB1.size)
          have R5 := three_set R2 (.bool true) (.int .i64 n) (.int .u64 (Wn.bitsOf (Wn.came false la b n) 64 : Int))
          have Hv2 : Hid (takeV false la b n = .agg #[.bool true, .int .i64 n, .int .u64 (Wn.bitsOf (Wn.came false la b n) 64 : Int)]) := Lib.hid (by rw [Hv.out, HL.out]; rfl)
          rw [show ((64 : Nat) : Int) = (64 : Int) from rfl]
          generalize Wn.bitsOf (Wn.came false la b n) 64 = x at *
          clear hR
          go_wp2
          exact bodyPost_ret (seen_ret Try.results13 rfl rfl R5) rfl ⟨ret_seen_err (by rw [Hv2.out]) (by rw [He.out]; rfl), ((hB2.setCell (by simp) _).setCell (by simp) _).setCell (by simp) _⟩
    · obtain ⟨hl0, hl1⟩ : 0 ≤ la ∧ la ≤ 1099511627776 := by
        rcases Wn.err_cases true la b with h | h | h | h | h | h
        · exact absurd h.1 (by decide)
        · exact absurd h.1 (by decide)
        · have := h.2.2; rw [hE] at this; cases this
        · exact ⟨h.2.1, h.2.2.1⟩
        · exact ⟨h.2.1, h.2.2.1⟩
        · exact ⟨h.2.1, h.2.2.1⟩
      clear hE
      by_cases hnl : n < la
      · have HL := Lib.hid (show Wn.last true la n = la from (by unfold Wn.last; rw [if_pos ⟨rfl, hnl⟩]))
        go_enter Try.func13, Try.ntmps13
        go_wp2_with fail
        rw [← hW0]
        refine (hH _).mono ?_
        rintro e w1 ⟨rfl, hb1⟩
        have R4 := own_three (base := w.heap.size) ((hb1.block (w.heap.size + 1) (by omega)).trans Hg4.out) (by omega)
        have R2 := own_three (base := w.heap.size) ((hb1.block w.heap.size (by omega)).trans Hg2.out) (Nat.le_refl _)
        have hB1 := hA.trans (hb1.mono (by omega))
        have hz1 : w.heap.size + 2 ≤ w1.heap.size := by have := hb1.size; omega
        obtain ⟨r0, r1, r2⟩ := three_cells R4
        obtain ⟨s0, s1, s2⟩ := three_cells R2
        have HR4 := Lib.hid R4
        have HR2 := Lib.hid R2
        clear R4 R2 hb1
        rw [show ((0 : Nat) : Int) = (0 : Int) from rfl]
        go_wp2
        clear r0 r1 r2 s0 s1 s2
        go_loopw [10] (fun i wr => ∃ k : Nat, k ≤ 64 ∧ i = .int .i64 k ∧ wr.ownsRow w1.heap.size 24 1 (.slice (some ⟨w1.heap.size, 0, none⟩) 3 3) 3 [.bool true, .int .i64 la, .int .u64 (Wn.bitsOf (Wn.came true la b n) k : Int)] ∧ Below w1.heap.size w1 wr) (fun i _ => 64 - (intOf i).toNat)
        case atStart => exact ⟨0, by decide, rfl, own_three (heap_alloc_last w1 _) (Nat.le_refl _), (Below.refl _ _).alloc (Nat.le_refl _) _⟩
        case round =>
          obtain ⟨k, hk, rfl, hR, hB⟩ := hrel
          have hz := hB.size
          by_cases hlt : k < 64
          · obtain ⟨t0, t1, t2⟩ := three_cells hR
            have f2 := hR.frozenAt 2
            have R2 := own_below3 HR2.out hB
            obtain ⟨s0, s1, s2⟩ := three_cells R2
            have hsl := u64_shl 22 k hlt
            have hcm : Wn.came true la b n k = (decide (la - (k : Int) = n) || (decide (la - (k : Int) ≤ la) && decide (la - (la - (k : Int)) < 64) && b.testBit (la - (la - (k : Int))).toNat)) := by unfold Wn.came; rw [HL.out]; simp
            obtain ⟨d, hd⟩ : ∃ d : Int, d = la - (k : Int) := ⟨_, rfl⟩
            rw [← hd] at hcm
            have hd0 : -9223372036854775808 ≤ d ∧ d ≤ 9223372036854775807 := by omega
            have hdd : la - (k : Int) = d := hd.symm
            clear hd
            by_cases hle : d ≤ la
            · by_cases h64 : la - d < 64
              · obtain ⟨j, hj⟩ : ∃ j : Nat, la - d = (j : Int) := ⟨(la - d).toNat, by omega⟩
                have hjl : j < 64 := by omega
                rw [show (la - d).toNat = j by omega] at hcm
                have hs := u64_shr 22 b j (by omega)
                have hbt := u64_bit b j hb
                generalize b / 2 ^ j = q at *
                by_cases hq : d = n
                · have hf : Wn.came true la b n k = true := by rw [hcm, decide_eq_true hq]; rfl
                  have hq' : (d == n) = true := by simp [hq]
                  clear hcm hbt
                  have Hs := Lib.hid (row_set hR (Wn.bitsOf (Wn.came true la b n) (k + 1)))
                  have hv : Wn.bitsOf (Wn.came true la b n) (k + 1) = Wn.bitsOf (Wn.came true la b n) k + 2 ^ k := by rw [Wn.bitsOf, hf, if_pos rfl]
                  rw [hv] at Hs
                  have hw := u64_in (Wn.bitsOf (Wn.came true la b n) k + 2 ^ k) (by have := Wn.bitsOf_lt (Wn.came true la b n) (k + 1); have h64 : 2 ^ (k + 1) ≤ 2 ^ 64 := Nat.pow_le_pow_right (by decide) (by omega); omega)
                  rw [Int.natCast_add] at hw Hs
                  have Hf := Lib.hid hv
                  clear hf hv
                  generalize Wn.bitsOf (Wn.came true la b n) k = x at *
                  generalize (2 ^ k : Nat) = y at *
                  go_wp2_with fail
                  go_region
                  go_wp2
                  go_roundw
                  case rel => exact ⟨k + 1, by omega, by go_num, by rw [Hf.out, Int.natCast_add]; exact Hs.out.drew, (hB.setCell (Nat.le_refl _) _).drew⟩
                  case measure => simp [intOf]; omega
                · have hq' : (d == n) = false := by simpa using hq
                  cases hT : b.testBit j
                  · have hf : Wn.came true la b n k = false := by rw [hcm, decide_eq_false hq, hT]; simp
                    rw [hT] at hbt
                    have hbt' : bits .and .u64 (q : Int) 1 = 0 := hbt
                    clear hcm hbt hT
                    have hv : Wn.bitsOf (Wn.came true la b n) (k + 1) = Wn.bitsOf (Wn.came true la b n) k := by rw [Wn.bitsOf, hf]; rfl
                    have Hf := Lib.hid hv
                    clear hf hv
                    generalize Wn.bitsOf (Wn.came true la b n) k = x at *
                    go_wp2
                    go_roundw
                    case rel => exact ⟨k + 1, by omega, by go_num, by rw [Hf.out]; exact hR, hB⟩
                    case measure => simp [intOf]; omega
                  · have hf : Wn.came true la b n k = true := by rw [hcm, hT, decide_eq_true hle, decide_eq_true h64]; simp
                    rw [hT] at hbt
                    have hbt' : bits .and .u64 (q : Int) 1 = 1 := hbt
                    clear hcm hbt hT
                    have Hs := Lib.hid (row_set hR (Wn.bitsOf (Wn.came true la b n) (k + 1)))
                    have hv : Wn.bitsOf (Wn.came true la b n) (k + 1) = Wn.bitsOf (Wn.came true la b n) k + 2 ^ k := by rw [Wn.bitsOf, hf, if_pos rfl]
                    rw [hv] at Hs
                    have hw := u64_in (Wn.bitsOf (Wn.came true la b n) k + 2 ^ k) (by have := Wn.bitsOf_lt (Wn.came true la b n) (k + 1); have h64 : 2 ^ (k + 1) ≤ 2 ^ 64 := Nat.pow_le_pow_right (by decide) (by omega); omega)
                    rw [Int.natCast_add] at hw Hs
                    have Hf := Lib.hid hv
                    clear hf hv
                    generalize Wn.bitsOf (Wn.came true la b n) k = x at *
                    generalize (2 ^ k : Nat) = y at *
                    go_wp2_with fail
                    go_region
                    go_wp2
                    go_roundw
                    case rel => exact ⟨k + 1, by omega, by go_num, by rw [Hf.out, Int.natCast_add]; exact Hs.out.drew, (hB.setCell (Nat.le_refl _) _).drew⟩
                    case measure => simp [intOf]; omega
              · exact absurd (show la - d < 64 by omega) h64
            · exact absurd (show d ≤ la by omega) hle
          · obtain rfl : k = 64 := by omega
            have R2 := own_below3 HR4.out hB
            obtain ⟨u0, u1, u2⟩ := three_cells R2
            have f0 := R2.frozenAt 0
            have f1 := R2.frozenAt 1
            have f2 := R2.frozenAt 2
            obtain ⟨t0, t1, t2⟩ := three_cells hR
            have hB2 := hB1.trans (hB.mono hB1.size)
            have R5 := three_set R2 (.bool true) (.int .i64 la) (.int .u64 (Wn.bitsOf (Wn.came true la b n) 64 : Int))
            have Hv2 : Hid (takeV true la b n = .agg #[.bool true, .int .i64 la, .int .u64 (Wn.bitsOf (Wn.came true la b n) 64 : Int)]) := Lib.hid (by rw [Hv.out, HL.out]; rfl)
            rw [show ((64 : Nat) : Int) = (64 : Int) from rfl]
            generalize Wn.bitsOf (Wn.came true la b n) 64 = x at *
            clear hR
            go_wp2
            exact bodyPost_ret (seen_ret Try.results13 rfl rfl R5) rfl ⟨ret_seen_err (by rw [Hv2.out]) (by rw [He.out]; rfl), ((hB2.setCell (by simp) _).setCell (by simp) _).setCell (by simp) _⟩
      · have HL := Lib.hid (show Wn.last true la n = n from (by unfold Wn.last; rw [if_neg (by omega)]))
        go_enter Try.func13, Try.ntmps13
        go_wp2_with fail
        rw [← hW0]
        refine (hH _).mono ?_
        rintro e w1 ⟨rfl, hb1⟩
        have R4 := own_three (base := w.heap.size) ((hb1.block (w.heap.size + 1) (by omega)).trans Hg4.out) (by omega)
        have R2 := own_three (base := w.heap.size) ((hb1.block w.heap.size (by omega)).trans Hg2.out) (Nat.le_refl _)
        have hB1 := hA.trans (hb1.mono (by omega))
        have hz1 : w.heap.size + 2 ≤ w1.heap.size := by have := hb1.size; omega
        obtain ⟨r0, r1, r2⟩ := three_cells R4
        obtain ⟨s0, s1, s2⟩ := three_cells R2
        have HR4 := Lib.hid R4
        have HR2 := Lib.hid R2
        clear R4 R2 hb1
        rw [show ((0 : Nat) : Int) = (0 : Int) from rfl]
        go_wp2
        clear r0 r1 r2 s0 s1 s2
        go_loopw [10] (fun i wr => ∃ k : Nat, k ≤ 64 ∧ i = .int .i64 k ∧ wr.ownsRow w1.heap.size 24 1 (.slice (some ⟨w1.heap.size, 0, none⟩) 3 3) 3 [.bool true, .int .i64 n, .int .u64 (Wn.bitsOf (Wn.came true la b n) k : Int)] ∧ Below w1.heap.size w1 wr) (fun i _ => 64 - (intOf i).toNat)
        case atStart => exact ⟨0, by decide, rfl, own_three (heap_alloc_last w1 _) (Nat.le_refl _), (Below.refl _ _).alloc (Nat.le_refl _) _⟩
        case round =>
          obtain ⟨k, hk, rfl, hR, hB⟩ := hrel
          have hz := hB.size
          by_cases hlt : k < 64
          · obtain ⟨t0, t1, t2⟩ := three_cells hR
            have f2 := hR.frozenAt 2
            have R2 := own_below3 HR2.out hB
            obtain ⟨s0, s1, s2⟩ := three_cells R2
            have hsl := u64_shl 22 k hlt
            have hcm : Wn.came true la b n k = (decide (n - (k : Int) = n) || (decide (n - (k : Int) ≤ la) && decide (la - (n - (k : Int)) < 64) && b.testBit (la - (n - (k : Int))).toNat)) := by unfold Wn.came; rw [HL.out]; simp
            obtain ⟨d, hd⟩ : ∃ d : Int, d = n - (k : Int) := ⟨_, rfl⟩
            rw [← hd] at hcm
            have hd0 : -9223372036854775808 ≤ d ∧ d ≤ 9223372036854775807 := by omega
            have hdd : n - (k : Int) = d := hd.symm
            clear hd
            by_cases hle : d ≤ la
            · by_cases h64 : la - d < 64
              · obtain ⟨j, hj⟩ : ∃ j : Nat, la - d = (j : Int) := ⟨(la - d).toNat, by omega⟩
                have hjl : j < 64 := by omega
                rw [show (la - d).toNat = j by omega] at hcm
                have hs := u64_shr 22 b j (by omega)
                have hbt := u64_bit b j hb
                generalize b / 2 ^ j = q at *
                by_cases hq : d = n
                · have hf : Wn.came true la b n k = true := by rw [hcm, decide_eq_true hq]; rfl
                  have hq' : (d == n) = true := by simp [hq]
                  clear hcm hbt
                  have Hs := Lib.hid (row_set hR (Wn.bitsOf (Wn.came true la b n) (k + 1)))
                  have hv : Wn.bitsOf (Wn.came true la b n) (k + 1) = Wn.bitsOf (Wn.came true la b n) k + 2 ^ k := by rw [Wn.bitsOf, hf, if_pos rfl]
                  rw [hv] at Hs
                  have hw := u64_in (Wn.bitsOf (Wn.came true la b n) k + 2 ^ k) (by have := Wn.bitsOf_lt (Wn.came true la b n) (k + 1); have h64 : 2 ^ (k + 1) ≤ 2 ^ 64 := Nat.pow_le_pow_right (by decide) (by omega); omega)
                  rw [Int.natCast_add] at hw Hs
                  have Hf := Lib.hid hv
                  clear hf hv
                  generalize Wn.bitsOf (Wn.came true la b n) k = x at *
                  generalize (2 ^ k : Nat) = y at *
                  go_wp2_with fail
                  go_region
                  go_wp2
                  go_roundw
                  case rel => exact ⟨k + 1, by omega, by go_num, by rw [Hf.out, Int.natCast_add]; exact Hs.out.drew, (hB.setCell (Nat.le_refl _) _).drew⟩
                  case measure => simp [intOf]; omega
                · have hq' : (d == n) = false := by simpa using hq
                  cases hT : b.testBit j
                  · have hf : Wn.came true la b n k = false := by rw [hcm, decide_eq_false hq, hT]; simp
                    rw [hT] at hbt
                    have hbt' : bits .and .u64 (q : Int) 1 = 0 := hbt
                    clear hcm hbt hT
                    have hv : Wn.bitsOf (Wn.came true la b n) (k + 1) = Wn.bitsOf (Wn.came true la b n) k := by rw [Wn.bitsOf, hf]; rfl
                    have Hf := Lib.hid hv
                    clear hf hv
                    generalize Wn.bitsOf (Wn.came true la b n) k = x at *
                    go_wp2
                    go_roundw
                    case rel => exact ⟨k + 1, by omega, by go_num, by rw [Hf.out]; exact hR, hB⟩
                    case measure => simp [intOf]; omega
                  · have hf : Wn.came true la b n k = true := by rw [hcm, hT, decide_eq_true hle, decide_eq_true h64]; simp
                    rw [hT] at hbt
                    have hbt' : bits .and .u64 (q : Int) 1 = 1 := hbt
                    clear hcm hbt hT
                    have Hs := Lib.hid (row_set hR (Wn.bitsOf (Wn.came true la b n) (k + 1)))
                    have hv : Wn.bitsOf (Wn.came true la b n) (k + 1) = Wn.bitsOf (Wn.came true la b n) k + 2 ^ k := by rw [Wn.bitsOf, hf, if_pos rfl]
                    rw [hv] at Hs
                    have hw := u64_in (Wn.bitsOf (Wn.came true la b n) k + 2 ^ k) (by have := Wn.bitsOf_lt (Wn.came true la b n) (k + 1); have h64 : 2 ^ (k + 1) ≤ 2 ^ 64 := Nat.pow_le_pow_right (by decide) (by omega); omega)
                    rw [Int.natCast_add] at hw Hs
                    have Hf := Lib.hid hv
                    clear hf hv
                    generalize Wn.bitsOf (Wn.came true la b n) k = x at *
                    generalize (2 ^ k : Nat) = y at *
                    go_wp2_with fail
                    go_region
                    go_wp2
                    go_roundw
                    case rel => exact ⟨k + 1, by omega, by go_num, by rw [Hf.out, Int.natCast_add]; exact Hs.out.drew, (hB.setCell (Nat.le_refl _) _).drew⟩
                    case measure => simp [intOf]; omega
              · exact absurd (show la - d < 64 by omega) h64
            · by_cases hq : d = n
              · have hf : Wn.came true la b n k = true := by rw [hcm, decide_eq_true hq]; rfl
                have hq' : (d == n) = true := by simp [hq]
                clear hcm
                have Hs := Lib.hid (row_set hR (Wn.bitsOf (Wn.came true la b n) (k + 1)))
                have hv : Wn.bitsOf (Wn.came true la b n) (k + 1) = Wn.bitsOf (Wn.came true la b n) k + 2 ^ k := by rw [Wn.bitsOf, hf, if_pos rfl]
                rw [hv] at Hs
                have hw := u64_in (Wn.bitsOf (Wn.came true la b n) k + 2 ^ k) (by have := Wn.bitsOf_lt (Wn.came true la b n) (k + 1); have h64 : 2 ^ (k + 1) ≤ 2 ^ 64 := Nat.pow_le_pow_right (by decide) (by omega); omega)
                rw [Int.natCast_add] at hw Hs
                have Hf := Lib.hid hv
                clear hf hv
                generalize Wn.bitsOf (Wn.came true la b n) k = x at *
                generalize (2 ^ k : Nat) = y at *
                go_wp2_with fail
                go_region
                go_wp2
                go_roundw
                case rel => exact ⟨k + 1, by omega, by go_num, by rw [Hf.out, Int.natCast_add]; exact Hs.out.drew, (hB.setCell (Nat.le_refl _) _).drew⟩
                case measure => simp [intOf]; omega
              · have hf : Wn.came true la b n k = false := by rw [hcm, decide_eq_false hq, decide_eq_false hle]; simp
                have hq' : (d == n) = false := by simpa using hq
                clear hcm
                have hv : Wn.bitsOf (Wn.came true la b n) (k + 1) = Wn.bitsOf (Wn.came true la b n) k := by rw [Wn.bitsOf, hf]; rfl
                have Hf := Lib.hid hv
                clear hf hv
                generalize Wn.bitsOf (Wn.came true la b n) k = x at *
                go_wp2
                go_roundw
                case rel => exact ⟨k + 1, by omega, by go_num, by rw [Hf.out]; exact hR, hB⟩
                case measure => simp [intOf]; omega
          · obtain rfl : k = 64 := by omega
            have R2 := own_below3 HR4.out hB
            obtain ⟨u0, u1, u2⟩ := three_cells R2
            have f0 := R2.frozenAt 0
            have f1 := R2.frozenAt 1
            have f2 := R2.frozenAt 2
            obtain ⟨t0, t1, t2⟩ := three_cells hR
            have hB2 := hB1.trans (hB.mono hB1.size)
            have R5 := three_set R2 (.bool true) (.int .i64 n) (.int .u64 (Wn.bitsOf (Wn.came true la b n) 64 : Int))
            have Hv2 : Hid (takeV true la b n = .agg #[.bool true, .int .i64 n, .int .u64 (Wn.bitsOf (Wn.came true la b n) 64 : Int)]) := Lib.hid (by rw [Hv.out, HL.out]; rfl)
            rw [show ((64 : Nat) : Int) = (64 : Int) from rfl]
            generalize Wn.bitsOf (Wn.came true la b n) 64 = x at *
            clear hR
            go_wp2
            exact bodyPost_ret (seen_ret Try.results13 rfl rfl R5) rfl ⟨ret_seen_err (by rw [Hv2.out]) (by rw [He.out]; rfl), ((hB2.setCell (by simp) _).setCell (by simp) _).setCell (by simp) _⟩
end Go.Proofs.Ytgcaapehfnmelaa
