/- The contracts of the program's window.Check, window.Has and window.Take. -/
import Derived.Test.YtgcaapehfnmelaaWinRef2
import Derived.Test.YtgcaapehfnmelaaWinBits
import Derived.Laws.StructEq
namespace Go.Proofs.Ytgcaapehfnmelaa
open Go.RowKit

theorem u64_shr_any (t : TypeId) (b : Nat) (y : Int) (h : 0 ≤ y) : binOp .shr t (.int .u64 (b : Int)) (.int .i64 y) = pure (.int .u64 ((b / 2 ^ (min y.toNat 64) : Nat) : Int)) := by
  rw [binOp_shr, shift_shr_any .u64 .i64 _ y h, show IntKind.u64.bits = 64 from rfl]
  generalize min y.toNat 64 = k
  simp only [Int.natCast_ediv, Int.natCast_pow]
  rfl
theorem u64_shl_any (t : TypeId) (b : Nat) (y : Int) (h : 0 ≤ y) : binOp .shl t (.int .u64 (b : Int)) (.int .i64 y) = pure (.int .u64 (((b * 2 ^ (min y.toNat 64)) % 18446744073709551616 : Nat) : Int)) := by
  rw [binOp_shl, shift_shl_any .u64 .i64 _ y h, show IntKind.u64.bits = 64 from rfl]
  generalize min y.toNat 64 = k
  have e : (b : Int) * 2 ^ k = ((b * 2 ^ k : Nat) : Int) := by rw [Int.natCast_mul, Int.natCast_pow]; rfl
  rw [e, IntKind.wrap_u64]
  generalize b * 2 ^ k = x
  congr 2
theorem u64_or (a c : Nat) (ha : a < 18446744073709551616) (hc : c < 18446744073709551616) : bits .or .u64 (a : Int) (c : Int) = ((a ||| c : Nat) : Int) := by
  show IntKind.u64.wrap ((BitVec.ofInt 64 (a : Int) ||| BitVec.ofInt 64 (c : Int)).toNat : Int) = _
  have h : a ||| c < 2 ^ 64 := Nat.or_lt_two_pow (by omega) (by omega)
  rw [BitVec.toNat_or, ofInt64 a ha, ofInt64 c hc, IntKind.wrap_u64]
  generalize a ||| c = x at *
  omega

theorem win_inRange (n : Int) (w : World) : Calls Try.prog 18 #[.int .i64 n] w fun e w' => e = .returned (.bool (decide (0 ≤ n ∧ n ≤ 1099511627776))) ∧ w' = w := by
  go_enter Try.func18, Try.ntmps18
  go_wp2
  all_goals
    go_ret
    exact ⟨by simp <;> omega, rfl⟩

set_option maxHeartbeats 400000 in
theorem win_Check (so : Bool) (la : Int) (b : Nat) (w : World) (l0 : -9223372036854775808 ≤ la) (l1 : la ≤ 9223372036854775807) (hb : b < 18446744073709551616) :
    Calls Try.prog 8 #[seenV so la b] w fun e w' => e = .returned (.int .i64 (Wn.err so la b : Int)) ∧ Below w.heap.size w w' := by
  have hA : Below w.heap.size w (w.alloc (.cells #[.bool so, .int .i64 la, .int .u64 (b : Int)] 24)) := (Below.refl _ _).alloc (Nat.le_refl _) _
  unfold seenV
  rcases Wn.err_cases so la b with ⟨rfl, h, he⟩ | ⟨rfl, rfl, rfl, he⟩ | ⟨rfl, h, he⟩ | ⟨rfl, h1, h2, h3, he⟩ | ⟨rfl, h1, h2, h3, h4, he⟩ | ⟨rfl, h1, h2, h3, h4, he⟩
  · have He := Lib.hid he
    clear he
    by_cases hl : la = 0
    · subst hl
      have hbz : ((b : Int) == 0) = false := by simp; omega
      go_enter Try.func8, Try.ntmps8
      go_wp2
      go_ret
      exact ⟨by rw [He.out]; rfl, hA⟩
    · have hlz : (la == 0) = false := by simp; omega
      go_enter Try.func8, Try.ntmps8
      go_wp2
      go_ret
      exact ⟨by rw [He.out]; rfl, hA⟩
  · have He := Lib.hid he
    clear he
    go_enter Try.func8, Try.ntmps8
    go_wp2
    go_ret
    exact ⟨by rw [He.out]; rfl, hA⟩
  · have He := Lib.hid he
    have hR := fun W => win_inRange la W
    rw [decide_eq_false (show ¬ (0 ≤ la ∧ la ≤ 1099511627776) by omega)] at hR
    clear he
    go_enter Try.func8, Try.ntmps8
    go_wp2_with fail
    refine (hR _).mono ?_
    rintro e w1 ⟨rfl, rfl⟩
    go_wp2
    go_ret
    exact ⟨by rw [He.out]; rfl, hA⟩
  · have He := Lib.hid he
    have hR := fun W => win_inRange la W
    rw [decide_eq_true (show (0 ≤ la ∧ la ≤ 1099511627776) by omega)] at hR
    have ha : bits .and .u64 (b : Int) 1 = 0 := by rw [u64_and_one b hb, h3]; rfl
    clear he h3
    go_enter Try.func8, Try.ntmps8
    go_wp2_with fail
    refine (hR _).mono ?_
    rintro e w1 ⟨rfl, rfl⟩
    go_wp2
    go_ret
    exact ⟨by rw [He.out]; rfl, hA⟩
  all_goals
    have He := Lib.hid he
    have hR := fun W => win_inRange la W
    rw [decide_eq_true (show (0 ≤ la ∧ la ≤ 1099511627776) by omega)] at hR
    have ha : bits .and .u64 (b : Int) 1 = 1 := by rw [u64_and_one b hb, h3]; rfl
    have hs := u64_shr_any 22 b (la + 1) (by omega)
    rw [Wn.bad_shr b la h1 hb] at h4
    generalize b / 2 ^ (min (la + 1).toNat 64) = q at *
    simp at h4
    have hq : ((q : Int) == 0) = decide (q = 0) := by
      by_cases h5 : q = 0
      · subst h5; rfl
      · rw [decide_eq_false h5]; simp; omega
    simp only [h4, decide_true, decide_false] at hq
    clear he h3
    go_enter Try.func8, Try.ntmps8
    go_wp2_with fail
    refine (hR _).mono ?_
    rintro e w1 ⟨rfl, rfl⟩
    go_wp2
    go_ret
    exact ⟨by rw [He.out]; rfl, hA⟩

set_option maxHeartbeats 400000 in
theorem win_Has (so : Bool) (la : Int) (b : Nat) (n : Int) (w : World) (l0 : -9223372036854775808 ≤ la) (l1 : la ≤ 9223372036854775807) (hb : b < 18446744073709551616) (n0 : -9223372036854775808 ≤ n) (n1 : n ≤ 9223372036854775807) :
    Calls Try.prog 9 #[seenV so la b, .int .i64 n] w fun e w' => e = .returned (.tuple #[.bool (Wn.hasOut so la b n), .int .i64 (Wn.hasErr so la b n : Int)]) ∧ Below w.heap.size w w' := by
  have hA : Below w.heap.size w (w.alloc (.cells #[.bool so, .int .i64 la, .int .u64 (b : Int)] 24)) := (Below.refl _ _).alloc (Nat.le_refl _) _
  have hF := fun W => win_Check so la b W l0 l1 hb
  have hR := fun W => win_inRange n W
  unfold seenV at hF ⊢
  rcases hasErr_cases so la b n with ⟨h, h2, he, ho⟩ | ⟨h, h2, he, ho⟩ | ⟨h, h1, h2, he, ho⟩
  · have Ho := Lib.hid ho
    rcases h2 with h3 | h3 <;>
    · have He := Lib.hid (he.trans h3)
      rw [h3] at hF
      clear he ho h h3
      go_enter Try.func9, Try.ntmps9
      go_wp2_with fail
      refine (hF _).mono ?_
      rintro e w1 ⟨rfl, hb1⟩
      go_wp2
      go_ret2
      exact ⟨ret_bool_errW (by rw [Ho.out]) (by rw [He.out]; rfl), hA.trans (hb1.mono (by simp))⟩
  · have Ho := Lib.hid ho
    have He := Lib.hid he
    rw [h] at hF
    rw [decide_eq_false (show ¬ (0 ≤ n ∧ n ≤ 1099511627776) by omega)] at hR
    clear he ho h
    go_enter Try.func9, Try.ntmps9
    go_wp2_with fail
    refine (hF _).mono ?_
    rintro e w1 ⟨rfl, hb1⟩
    rw [show ((0 : Nat) : Int) = (0 : Int) from rfl]
    go_wp2_with fail
    refine (hR _).mono ?_
    rintro e w2 ⟨rfl, rfl⟩
    go_wp2
    go_ret2
    exact ⟨ret_bool_errW (by rw [Ho.out]) (by rw [He.out]; rfl), hA.trans (hb1.mono (by simp))⟩
  · have Ho := Lib.hid ho
    have He := Lib.hid he
    have Hc := Lib.hid (Wn.err_cases so la b)
    have H0 := Lib.hid h
    rw [h] at hF
    rw [decide_eq_true (show (0 ≤ n ∧ n ≤ 1099511627776) from ⟨h1, h2⟩)] at hR
    clear he ho h
    cases so
    · have Hr := Lib.hid (show Wn.has false la b n = false from rfl)
      go_enter Try.func9, Try.ntmps9
      go_wp2_with fail
      refine (hF _).mono ?_
      rintro e w1 ⟨rfl, hb1⟩
      have cA : w1.cell? ⟨w.heap.size, 0, none⟩ = some (.bool false) := (hb1.cell (p := ⟨w.heap.size, 0, none⟩) (by simp)).trans (by rw [cell_of_row _ _ _ _ _ _ (heap_alloc_last w _)]; rfl)
      rw [show ((0 : Nat) : Int) = (0 : Int) from rfl]
      go_wp2_with fail
      refine (hR _).mono ?_
      rintro e w2 ⟨rfl, rfl⟩
      go_wp2
      go_ret2
      exact ⟨ret_bool_errW (by rw [Ho.out, Hr.out]) (by rw [He.out]; rfl), hA.trans (hb1.mono (by simp))⟩
    · obtain ⟨hl0, hl1⟩ : 0 ≤ la ∧ la ≤ 1099511627776 := by
        rcases Hc.out with h | h | h | h | h | h
        · exact absurd h.1 (by decide)
        · exact absurd h.1 (by decide)
        · have := h.2.2; rw [H0.out] at this; omega
        · exact ⟨h.2.1, h.2.2.1⟩
        · exact ⟨h.2.1, h.2.2.1⟩
        · exact ⟨h.2.1, h.2.2.1⟩
      clear Hc
      by_cases hnl : la < n
      · have Hr := Lib.hid (show Wn.has true la b n = false by unfold Wn.has; rw [decide_eq_false (show ¬ n ≤ la by omega)]; rfl)
        go_enter Try.func9, Try.ntmps9
        go_wp2_with fail
        refine (hF _).mono ?_
        rintro e w1 ⟨rfl, hb1⟩
        have cA : w1.cell? ⟨w.heap.size, 0, none⟩ = some (.bool true) := (hb1.cell (p := ⟨w.heap.size, 0, none⟩) (by simp)).trans (by rw [cell_of_row _ _ _ _ _ _ (heap_alloc_last w _)]; rfl)
        have cB : w1.cell? ⟨w.heap.size, 1, none⟩ = some (.int .i64 la) := (hb1.cell (p := ⟨w.heap.size, 1, none⟩) (by simp)).trans (by rw [cell_of_row _ _ _ _ _ _ (heap_alloc_last w _)]; rfl)
        rw [show ((0 : Nat) : Int) = (0 : Int) from rfl]
        go_wp2_with fail
        refine (hR _).mono ?_
        rintro e w2 ⟨rfl, rfl⟩
        go_wp2
        go_ret2
        exact ⟨ret_bool_errW (by rw [Ho.out, Hr.out]) (by rw [He.out]; rfl), hA.trans (hb1.mono (by simp))⟩
      · by_cases ho : n ≤ la - 64
        · have Hr := Lib.hid (show Wn.has true la b n = true by unfold Wn.has; rw [decide_eq_true (show n ≤ la by omega), decide_eq_true ho]; rfl)
          go_enter Try.func9, Try.ntmps9
          go_wp2_with fail
          refine (hF _).mono ?_
          rintro e w1 ⟨rfl, hb1⟩
          have cA : w1.cell? ⟨w.heap.size, 0, none⟩ = some (.bool true) := (hb1.cell (p := ⟨w.heap.size, 0, none⟩) (by simp)).trans (by rw [cell_of_row _ _ _ _ _ _ (heap_alloc_last w _)]; rfl)
          have cB : w1.cell? ⟨w.heap.size, 1, none⟩ = some (.int .i64 la) := (hb1.cell (p := ⟨w.heap.size, 1, none⟩) (by simp)).trans (by rw [cell_of_row _ _ _ _ _ _ (heap_alloc_last w _)]; rfl)
          rw [show ((0 : Nat) : Int) = (0 : Int) from rfl]
          go_wp2_with fail
          refine (hR _).mono ?_
          rintro e w2 ⟨rfl, rfl⟩
          go_wp2
          go_ret2
          exact ⟨ret_bool_errW (by rw [Ho.out, Hr.out]) (by rw [He.out]; rfl), hA.trans (hb1.mono (by simp))⟩
        · have hs := u64_shr_any 22 b (la - n) (by omega)
          rw [show min (la - n).toNat 64 = (la - n).toNat by omega] at hs
          have hbt := u64_bit b (la - n).toNat hb
          generalize b / 2 ^ (la - n).toNat = q at *
          cases hT : b.testBit (la - n).toNat
          all_goals
            rw [hT] at hbt
            have Hr := Lib.hid (show Wn.has true la b n = b.testBit (la - n).toNat by unfold Wn.has; rw [decide_eq_true (show n ≤ la by omega), decide_eq_false ho]; simp)
            rw [hT] at Hr
            clear hT
          · have hbt' : bits .and .u64 (q : Int) 1 = 0 := hbt
            clear hbt
            go_enter Try.func9, Try.ntmps9
            go_wp2_with fail
            refine (hF _).mono ?_
            rintro e w1 ⟨rfl, hb1⟩
            have cA : w1.cell? ⟨w.heap.size, 0, none⟩ = some (.bool true) := (hb1.cell (p := ⟨w.heap.size, 0, none⟩) (by simp)).trans (by rw [cell_of_row _ _ _ _ _ _ (heap_alloc_last w _)]; rfl)
            have cB : w1.cell? ⟨w.heap.size, 1, none⟩ = some (.int .i64 la) := (hb1.cell (p := ⟨w.heap.size, 1, none⟩) (by simp)).trans (by rw [cell_of_row _ _ _ _ _ _ (heap_alloc_last w _)]; rfl)
            have cC : w1.cell? ⟨w.heap.size, 2, none⟩ = some (.int .u64 (b : Int)) := (hb1.cell (p := ⟨w.heap.size, 2, none⟩) (by simp)).trans (by rw [cell_of_row _ _ _ _ _ _ (heap_alloc_last w _)]; rfl)
            rw [show ((0 : Nat) : Int) = (0 : Int) from rfl]
            go_wp2_with fail
            refine (hR _).mono ?_
            rintro e w2 ⟨rfl, rfl⟩
            go_wp2
            go_ret2
            exact ⟨ret_bool_errW (by rw [Ho.out, Hr.out]; exact decide_eq_false (by omega)) (by rw [He.out]; rfl), hA.trans (hb1.mono (by simp))⟩
          · have hbt' : bits .and .u64 (q : Int) 1 = 1 := hbt
            clear hbt
            go_enter Try.func9, Try.ntmps9
            go_wp2_with fail
            refine (hF _).mono ?_
            rintro e w1 ⟨rfl, hb1⟩
            have cA : w1.cell? ⟨w.heap.size, 0, none⟩ = some (.bool true) := (hb1.cell (p := ⟨w.heap.size, 0, none⟩) (by simp)).trans (by rw [cell_of_row _ _ _ _ _ _ (heap_alloc_last w _)]; rfl)
            have cB : w1.cell? ⟨w.heap.size, 1, none⟩ = some (.int .i64 la) := (hb1.cell (p := ⟨w.heap.size, 1, none⟩) (by simp)).trans (by rw [cell_of_row _ _ _ _ _ _ (heap_alloc_last w _)]; rfl)
            have cC : w1.cell? ⟨w.heap.size, 2, none⟩ = some (.int .u64 (b : Int)) := (hb1.cell (p := ⟨w.heap.size, 2, none⟩) (by simp)).trans (by rw [cell_of_row _ _ _ _ _ _ (heap_alloc_last w _)]; rfl)
            rw [show ((0 : Nat) : Int) = (0 : Int) from rfl]
            go_wp2_with fail
            refine (hR _).mono ?_
            rintro e w2 ⟨rfl, rfl⟩
            go_wp2
            go_ret2
            exact ⟨ret_bool_errW (by rw [Ho.out, Hr.out]) (by rw [He.out]; rfl), hA.trans (hb1.mono (by simp))⟩

set_option maxRecDepth 100000 in
set_option maxHeartbeats 4000000 in
theorem win_Take (so : Bool) (la : Int) (b : Nat) (n : Int) (w : World) (l0 : -9223372036854775808 ≤ la) (l1 : la ≤ 9223372036854775807) (hb : b < 18446744073709551616) (n0 : -9223372036854775808 ≤ n) (n1 : n ≤ 9223372036854775807) :
    Calls Try.prog 12 #[seenV so la b, .int .i64 n] w fun e w' => e = .returned (.tuple #[takeV so la b n, .int .i64 (Wn.takeErr so la b n : Int)]) ∧ Below w.heap.size w w' := by
  have hH := fun W => win_Has so la b n W l0 l1 hb n0 n1
  obtain ⟨W0, hW0⟩ : ∃ W0, W0 = (w.alloc (.cells #[.bool so, .int .i64 la, .int .u64 (b : Int)] 24)).alloc (.cells #[.bool false, .int .i64 0, .int .u64 0] 24) := ⟨_, rfl⟩
  have hA : Below w.heap.size w W0 := by rw [hW0]; exact ((Below.refl _ _).alloc (Nat.le_refl _) _).alloc (by simp) _
  have hz0 : W0.heap.size = w.heap.size + 2 := by rw [hW0]; simp
  have hg2 : W0.heap[w.heap.size]? = some (.cells #[.bool so, .int .i64 la, .int .u64 (b : Int)] 24) := by
    rw [hW0, Below.heap_alloc _ _ _ (by simp)]; exact heap_alloc_last w _
  have hg4 : W0.heap[w.heap.size + 1]? = some (.cells #[.bool false, .int .i64 0, .int .u64 0] 24) := by
    have := heap_alloc_last (w.alloc (.cells #[.bool so, .int .i64 la, .int .u64 (b : Int)] 24)) (.cells #[.bool false, .int .i64 0, .int .u64 0] 24)
    rw [show (w.alloc (.cells #[.bool so, .int .i64 la, .int .u64 (b : Int)] 24)).heap.size = w.heap.size + 1 by simp] at this
    rw [hW0]; exact this
  have Hg2 := Lib.hid hg2
  have Hg4 := Lib.hid hg4
  clear hg2 hg4
  unfold seenV at hH ⊢
  rcases take_cases so la b n with ⟨h, h2, he, hv⟩ | ⟨h, h2, he, hv⟩ | ⟨h, h2, he, hv⟩
  · rcases h2 with h3 | h3 <;>
    · have He := Lib.hid (he.trans h3)
      have Hv := Lib.hid hv
      rw [h3] at hH
      clear h h3 he hv
      go_enter Try.func12, Try.ntmps12
      go_wp2_with fail
      rw [← hW0]
      refine (hH _).mono ?_
      rintro e w1 ⟨rfl, hb1⟩
      have R4 := own_three (base := w.heap.size) ((hb1.block (w.heap.size + 1) (by omega)).trans Hg4.out) (by omega)
      have hB1 := hA.trans (hb1.mono (by omega))
      obtain ⟨r0, r1, r2⟩ := three_cells R4
      have f0 := R4.frozenAt 0
      have f1 := R4.frozenAt 1
      have f2 := R4.frozenAt 2
      generalize Wn.hasOut so la b n = hO at *
      have R5 := three_set R4 (.bool false) (.int .i64 0) (.int .u64 0)
      go_wp2
      exact bodyPost_ret (seen_ret Try.results12 rfl rfl R5) rfl ⟨ret_seen_err (by rw [Hv.out]; rfl) (by rw [He.out]; rfl), ((hB1.setCell (by simp) _).setCell (by simp) _).setCell (by simp) _⟩
  · have He := Lib.hid he
    have Hv := Lib.hid hv
    rw [h, h2] at hH
    clear h h2 he hv
    go_enter Try.func12, Try.ntmps12
    go_wp2_with fail
    rw [← hW0]
    refine (hH _).mono ?_
    rintro e w1 ⟨rfl, hb1⟩
    have R4 := own_three (base := w.heap.size) ((hb1.block (w.heap.size + 1) (by omega)).trans Hg4.out) (by omega)
    have hB1 := hA.trans (hb1.mono (by omega))
    obtain ⟨r0, r1, r2⟩ := three_cells R4
    have f0 := R4.frozenAt 0
    have f1 := R4.frozenAt 1
    have f2 := R4.frozenAt 2
    rw [show ((0 : Nat) : Int) = (0 : Int) from rfl]
    have R5 := three_set R4 (.bool false) (.int .i64 0) (.int .u64 0)
    go_wp2
    exact bodyPost_ret (seen_ret Try.results12 rfl rfl R5) rfl ⟨ret_seen_err (by rw [Hv.out]; rfl) (by rw [He.out]; rfl), ((hB1.setCell (by simp) _).setCell (by simp) _).setCell (by simp) _⟩
  · obtain ⟨hE, hn0, hn1, hO⟩ : Wn.err so la b = 0 ∧ 0 ≤ n ∧ n ≤ 1099511627776 ∧ Wn.hasOut so la b n = Wn.has so la b n := by
      rcases hasErr_cases so la b n with ⟨x, _, y, _⟩ | ⟨_, _, y, _⟩ | ⟨x, y, z, _, u⟩
      · exact absurd (y.symm.trans h) x
      · rw [h] at y; cases y
      · exact ⟨x, y, z, u⟩
    have hN : Wn.has so la b n = false := hO.symm.trans h2
    have He := Lib.hid he
    have Hv := Lib.hid hv
    rw [h, h2] at hH
    clear h h2 he hv hO
    cases so
    · have HL := Lib.hid (show takeV false la b n = .agg #[.bool true, .int .i64 n, .int .u64 1] by rw [Hv.out, Wn.takeBits_none]; unfold Wn.last; rw [if_neg (by simp)]; rfl)
      clear hE hN
      go_enter Try.func12, Try.ntmps12
      go_wp2_with fail
      rw [← hW0]
      refine (hH _).mono ?_
      rintro e w1 ⟨rfl, hb1⟩
      have R4 := own_three (base := w.heap.size) ((hb1.block (w.heap.size + 1) (by omega)).trans Hg4.out) (by omega)
      have R2 := own_three (base := w.heap.size) ((hb1.block w.heap.size (by omega)).trans Hg2.out) (Nat.le_refl _)
      have hB1 := hA.trans (hb1.mono (by omega))
      obtain ⟨r0, r1, r2⟩ := three_cells R4
      obtain ⟨s0, s1, s2⟩ := three_cells R2
      have f0 := R4.frozenAt 0
      have f1 := R4.frozenAt 1
      have f2 := R4.frozenAt 2
      have R5 := Lib.hid (three_set R4 (.bool true) (.int .i64 n) (.int .u64 1))
      clear R4 R2 hb1
      rw [show ((0 : Nat) : Int) = (0 : Int) from rfl]
      go_wp2
      exact bodyPost_ret (seen_ret Try.results12 rfl rfl R5.out) rfl ⟨ret_seen_err (by rw [HL.out]) (by rw [He.out]; rfl), ((hB1.setCell (by simp) _).setCell (by simp) _).setCell (by simp) _⟩
    · obtain ⟨hl0, hl1⟩ : 0 ≤ la ∧ la ≤ 1099511627776 := by
        rcases Wn.err_cases true la b with h | h | h | h | h | h
        · exact absurd h.1 (by decide)
        · exact absurd h.1 (by decide)
        · have := h.2.2; rw [hE] at this; cases this
        · exact ⟨h.2.1, h.2.2.1⟩
        · exact ⟨h.2.1, h.2.2.1⟩
        · exact ⟨h.2.1, h.2.2.1⟩
      clear hE
      by_cases hnl : la < n
      · have hs := u64_shl_any 22 b (n - la) (by omega)
        have HL := Lib.hid (show takeV true la b n = .agg #[.bool true, .int .i64 n, .int .u64 (((b * 2 ^ (min (n - la).toNat 64)) % 18446744073709551616 ||| 1 : Nat) : Int)] by
          rw [Hv.out, Wn.takeBits_ahead la b n hnl]; unfold Wn.last; rw [if_neg (fun hc => by omega)]; rfl)
        have hx : (b * 2 ^ (min (n - la).toNat 64)) % 18446744073709551616 < 18446744073709551616 := Nat.mod_lt _ (by decide)
        generalize (b * 2 ^ (min (n - la).toNat 64)) % 18446744073709551616 = x at *
        have ho : bits .or .u64 (x : Int) 1 = ((x ||| 1 : Nat) : Int) := u64_or x 1 hx (by decide)
        generalize (x ||| 1 : Nat) = y at *
        clear hN
        go_enter Try.func12, Try.ntmps12
        go_wp2_with fail
        rw [← hW0]
        refine (hH _).mono ?_
        rintro e w1 ⟨rfl, hb1⟩
        have R4 := own_three (base := w.heap.size) ((hb1.block (w.heap.size + 1) (by omega)).trans Hg4.out) (by omega)
        have R2 := own_three (base := w.heap.size) ((hb1.block w.heap.size (by omega)).trans Hg2.out) (Nat.le_refl _)
        have hB1 := hA.trans (hb1.mono (by omega))
        obtain ⟨r0, r1, r2⟩ := three_cells R4
        obtain ⟨s0, s1, s2⟩ := three_cells R2
        have f0 := R4.frozenAt 0
        have f1 := R4.frozenAt 1
        have f2 := R4.frozenAt 2
        have R5 := Lib.hid (three_set R4 (.bool true) (.int .i64 n) (.int .u64 (y : Int)))
        clear R4 R2 hb1
        rw [show ((0 : Nat) : Int) = (0 : Int) from rfl]
        go_wp2
        exact bodyPost_ret (seen_ret Try.results12 rfl rfl R5.out) rfl ⟨ret_seen_err (by rw [HL.out]) (by rw [He.out]; rfl), ((hB1.setCell (by simp) _).setCell (by simp) _).setCell (by simp) _⟩
      · have hd : la < n + 64 := by
          unfold Wn.has at hN
          rw [decide_eq_true (show n ≤ la by omega)] at hN
          by_cases h : n ≤ la - 64
          · rw [decide_eq_true h] at hN; cases hN
          · omega
        have hs := u64_shl 22 (la - n).toNat (by omega)
        rw [Int.toNat_of_nonneg (show 0 ≤ la - n by omega)] at hs
        have HL := Lib.hid (show takeV true la b n = .agg #[.bool true, .int .i64 la, .int .u64 ((b ||| 2 ^ (la - n).toNat : Nat) : Int)] by
          rw [Hv.out, Wn.takeBits_behind la b n (by omega) hd hb]
          have hl : Wn.last true la n = la := by
            unfold Wn.last
            by_cases h3 : n < la
            · rw [if_pos ⟨rfl, h3⟩]
            · rw [if_neg (fun hc => h3 hc.2)]; omega
          rw [hl]; rfl)
        have hx : 2 ^ (la - n).toNat < 18446744073709551616 := Nat.lt_of_lt_of_eq (Nat.pow_lt_pow_right (show 1 < 2 by decide) (show (la - n).toNat < 64 by omega)) (by decide)
        generalize (2 ^ (la - n).toNat : Nat) = x at *
        have ho : bits .or .u64 (b : Int) (x : Int) = ((b ||| x : Nat) : Int) := u64_or b x hb hx
        generalize (b ||| x : Nat) = y at *
        clear hN
        go_enter Try.func12, Try.ntmps12
        go_wp2_with fail
        rw [← hW0]
        refine (hH _).mono ?_
        rintro e w1 ⟨rfl, hb1⟩
        have R4 := own_three (base := w.heap.size) ((hb1.block (w.heap.size + 1) (by omega)).trans Hg4.out) (by omega)
        have R2 := own_three (base := w.heap.size) ((hb1.block w.heap.size (by omega)).trans Hg2.out) (Nat.le_refl _)
        have hB1 := hA.trans (hb1.mono (by omega))
        obtain ⟨r0, r1, r2⟩ := three_cells R4
        obtain ⟨s0, s1, s2⟩ := three_cells R2
        have f0 := R4.frozenAt 0
        have f1 := R4.frozenAt 1
        have f2 := R4.frozenAt 2
        have g2 := R2.frozenAt 2
        have HR4 := Lib.hid (three_set (World.ownsRow.kept R4 (R2.stored 2 (.int .u64 (y : Int))).2 (.inr (by simp [Value.ownBlock]))) (.bool true) (.int .i64 la) (.int .u64 (y : Int)))
        clear R4 R2 hb1
        rw [show ((0 : Nat) : Int) = (0 : Int) from rfl]
        go_wp2_with fail
        go_region
        go_wp2
        exact bodyPost_ret (seen_ret Try.results12 rfl rfl HR4.out.drew) rfl ⟨ret_seen_err (by rw [HL.out]) (by rw [He.out]; rfl), ((((hB1.setCell (by simp) _).setCell (by simp) _).setCell (by simp) _).setCell (by simp) _).drew⟩
end Go.Proofs.Ytgcaapehfnmelaa
