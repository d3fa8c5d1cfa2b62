/- The contracts of the reference's WindowFault and WindowHas. -/
import Derived.Test.YtgcaapehfnmelaaRows
import Derived.Test.YtgcaapehfnmelaaMem
import Derived.Test.YtgcaapehfnmelaaWinPlain
import Derived.Deep.WholeRow
namespace Go.Proofs.Ytgcaapehfnmelaa
open Go.RowKit

def seenV (so : Bool) (la : Int) (b : Nat) : Value := .agg #[.bool so, .int .i64 la, .int .u64 (b : Int)]
theorem u64_shr (t : TypeId) (b i : Nat) (hi : i ≤ 64) : binOp .shr t (.int .u64 (b : Int)) (.int .i64 (i : Int)) = pure (.int .u64 ((b / 2 ^ i : Nat) : Int)) := by
  rw [binOp_shr, shift_shr .u64 .i64 _ (i : Int) (by omega) (by show (i : Int) ≤ 64; omega)]
  simp only [Int.toNat_natCast, Int.natCast_ediv, Int.natCast_pow]
  rfl
theorem ofInt64 (a : Nat) (ha : a < 18446744073709551616) : (BitVec.ofInt 64 (a : Int)).toNat = a := by
  rw [BitVec.ofInt_natCast, BitVec.toNat_ofNat, Nat.mod_eq_of_lt (by omega)]
theorem u64_and_one (a : Nat) (ha : a < 18446744073709551616) : bits .and .u64 (a : Int) 1 = ((a % 2 : Nat) : Int) := by
  show IntKind.u64.wrap ((BitVec.ofInt 64 (a : Int) &&& BitVec.ofInt 64 (1 : Int)).toNat : Int) = _
  rw [BitVec.toNat_and, ofInt64 a ha, show (BitVec.ofInt 64 (1 : Int)).toNat = 1 from rfl, Nat.and_one_is_mod, IntKind.wrap_u64]
  omega
theorem u64_bit (b i : Nat) (hb : b < 18446744073709551616) : bits .and .u64 ((b / 2 ^ i : Nat) : Int) 1 = ((if b.testBit i then 1 else 0 : Nat) : Int) := by
  have h : b / 2 ^ i < 18446744073709551616 := Nat.lt_of_le_of_lt (Nat.div_le_self _ _) hb
  rw [u64_and_one _ h]
  have e : b.testBit i = decide (b / 2 ^ i % 2 = 1) := by rw [Nat.testBit_eq_decide_div_mod_eq]
  rw [e]
  rcases Nat.mod_two_eq_zero_or_one (b / 2 ^ i) with h2 | h2 <;> rw [h2] <;> rfl

set_option maxHeartbeats 400000 in
theorem ref_WindowFault (so : Bool) (la : Int) (b : Nat) (w : World) (l0 : -9223372036854775808 ≤ la) (l1 : la ≤ 9223372036854775807) (hb : b < 18446744073709551616) :
    Calls Try.prog 10 #[seenV so la b] w fun e w' => e = .returned (.int .i64 (Wn.err so la b : Int)) ∧ Below w.heap.size w w' := by
  have hA : Below w.heap.size w (w.alloc (.cells #[.bool so, .int .i64 la, .int .u64 (b : Int)] 24)) := (Below.refl _ _).alloc (Nat.le_refl _) _
  unfold seenV
  rcases Wn.err_cases so la b with ⟨rfl, h, he⟩ | ⟨rfl, rfl, rfl, he⟩ | ⟨rfl, h, he⟩ | ⟨rfl, h1, h2, h3, he⟩ | ⟨rfl, h1, h2, h3, h4, he⟩ | ⟨rfl, h1, h2, h3, h4, he⟩
  · have He := Lib.hid he
    clear he
    by_cases hl : la = 0
    · subst hl
      have hbz : ((b : Int) != 0) = true := by simp; omega
      go_enter Try.func10, Try.ntmps10
      go_wp2
      go_ret
      exact ⟨by rw [He.out]; rfl, hA⟩
    · have hlz : (la != 0) = true := by simp; omega
      go_enter Try.func10, Try.ntmps10
      go_wp2
      go_ret
      exact ⟨by rw [He.out]; rfl, hA⟩
  · have He := Lib.hid he
    clear he
    go_enter Try.func10, Try.ntmps10
    go_wp2
    go_ret
    exact ⟨by rw [He.out]; rfl, hA⟩
  · have He := Lib.hid he
    clear he
    go_enter Try.func10, Try.ntmps10
    go_wp2
    all_goals
      go_ret
      exact ⟨by rw [He.out]; rfl, hA⟩
  · have He := Lib.hid he
    have d1 : decide (la < 0) = false := by simp; omega
    have d2 : decide ((1099511627776 : Int) < la) = false := by simp; omega
    have ha : bits .and .u64 (b : Int) 1 = 0 := by rw [u64_and_one b hb, h3]; rfl
    clear he h3
    go_enter Try.func10, Try.ntmps10
    go_wp2
    go_ret
    exact ⟨by rw [He.out]; rfl, hA⟩
  all_goals
    have Hb : Hid (Wn.err true la b = if Wn.bad b la 64 = true then 14 else 0) := Lib.hid (by rw [h4]; exact he)
    have d1 : decide (la < 0) = false := by simp; omega
    have d2 : decide ((1099511627776 : Int) < la) = false := by simp; omega
    have ha : bits .and .u64 (b : Int) 1 = 1 := by rw [u64_and_one b hb, h3]; rfl
    clear he h3 h4
    go_enter Try.func10, Try.ntmps10
    go_wp2
    clear ha d1 d2
    go_loopw [3] (fun i wr => ∃ k : Nat, k ≤ 64 ∧ i = .int .i64 k ∧ Hid (Wn.bad b la k = false) ∧ wr = w.alloc (.cells #[.bool true, .int .i64 la, .int .u64 (b : Int)] 24)) (fun i _ => 64 - (intOf i).toNat)
    case atStart => exact ⟨0, by decide, rfl, Lib.hid rfl, rfl⟩
    case round =>
      obtain ⟨k, hk, rfl, Hk, rfl⟩ := hrel
      by_cases hlt : k < 64
      · have hs := u64_shr 22 b k (by omega)
        have hbt := u64_bit b k hb
        generalize b / 2 ^ k = q at *
        cases hT : b.testBit k
        · rw [hT] at hbt
          have Hn := Lib.hid (show Wn.bad b la (k + 1) = false by rw [Wn.bad_succ, Hk.out, hT]; rfl)
          clear hT
          have hbt' : bits .and .u64 (q : Int) 1 = 0 := hbt
          clear hbt
          go_wp2
          go_roundw
          case rel => exact ⟨k + 1, by omega, by go_num, Hn, trivial⟩
          case measure => simp [intOf]; omega
        · rw [hT] at hbt
          have hbt' : bits .and .u64 (q : Int) 1 = 1 := hbt
          clear hbt
          by_cases hlk : la < (k : Int)
          · have Hn := Lib.hid (show Wn.bad b la 64 = true from Wn.bad_mono b la (k + 1) 64 (by omega) (by rw [Wn.bad_succ, hT, decide_eq_true hlk]; simp))
            clear hT
            go_wp2
            go_ret
            exact ⟨by rw [Hb.out, if_pos Hn.out]; rfl, hA⟩
          · have Hn := Lib.hid (show Wn.bad b la (k + 1) = false by rw [Wn.bad_succ, Hk.out, hT, decide_eq_false hlk]; rfl)
            clear hT
            go_wp2
            go_roundw
            case rel => exact ⟨k + 1, by omega, by go_num, Hn, trivial⟩
            case measure => simp [intOf]; omega
      · obtain rfl : k = 64 := by omega
        rw [show ((64 : Nat) : Int) = (64 : Int) from rfl]
        go_wp2
        go_ret
        exact ⟨by rw [Hb.out, if_neg (by rw [Hk.out]; decide)]; rfl, hA⟩

theorem hasErr_cases (so : Bool) (la : Int) (b : Nat) (n : Int) : (Wn.err so la b ≠ 0 ∧ (Wn.err so la b = 4 ∨ Wn.err so la b = 14) ∧ Wn.hasErr so la b n = Wn.err so la b ∧ Wn.hasOut so la b n = false) ∨ (Wn.err so la b = 0 ∧ (n < 0 ∨ 1099511627776 < n) ∧ Wn.hasErr so la b n = 4 ∧ Wn.hasOut so la b n = false) ∨
    (Wn.err so la b = 0 ∧ 0 ≤ n ∧ n ≤ 1099511627776 ∧ Wn.hasErr so la b n = 0 ∧ Wn.hasOut so la b n = Wn.has so la b n) := by
  have h3 : Wn.err so la b = 0 ∨ Wn.err so la b = 4 ∨ Wn.err so la b = 14 := by
    rcases Wn.err_cases so la b with ⟨_, _, h⟩ | ⟨_, _, _, h⟩ | ⟨_, _, h⟩ | ⟨_, _, _, _, h⟩ | ⟨_, _, _, _, _, h⟩ | ⟨_, _, _, _, _, h⟩ <;> rw [h] <;> decide
  unfold Wn.hasOut Wn.hasErr
  by_cases h : Wn.err so la b ≠ 0
  · rw [if_pos h]; exact .inl ⟨h, by omega, rfl, if_neg h⟩
  · rw [if_neg h]
    by_cases h2 : n < 0 ∨ 1099511627776 < n
    · rw [if_pos h2]; exact .inr (.inl ⟨by omega, h2, rfl, if_neg (by decide)⟩)
    · rw [if_neg h2]; exact .inr (.inr ⟨by omega, by omega, by omega, rfl, if_pos rfl⟩)
theorem ret_bool_errW {x y : Bool} {a b : Int} (h : x = y) (g : a = b) : Ending.returned (.tuple #[.bool x, .int .i64 a]) = .returned (.tuple #[.bool y, .int .i64 b]) := by rw [h, g]

set_option maxHeartbeats 400000 in
theorem ref_WindowHas (so : Bool) (la : Int) (b : Nat) (n : Int) (w : World) (l0 : -9223372036854775808 ≤ la) (l1 : la ≤ 9223372036854775807) (hb : b < 18446744073709551616) (n0 : -9223372036854775808 ≤ n) (n1 : n ≤ 9223372036854775807) :
    Calls Try.prog 11 #[seenV so la b, .int .i64 n] w fun e w' => e = .returned (.tuple #[.bool (Wn.hasOut so la b n), .int .i64 (Wn.hasErr so la b n : Int)]) ∧ Below w.heap.size w w' := by
  have hA : Below w.heap.size w (w.alloc (.cells #[.bool so, .int .i64 la, .int .u64 (b : Int)] 24)) := (Below.refl _ _).alloc (Nat.le_refl _) _
  have hF := fun W => ref_WindowFault so la b W l0 l1 hb
  unfold seenV at hF ⊢
  rcases hasErr_cases so la b n with ⟨h, h2, he, ho⟩ | ⟨h, h2, he, ho⟩ | ⟨h, h1, h2, he, ho⟩
  · have Ho := Lib.hid ho
    rcases h2 with h3 | h3 <;>
    · have He := Lib.hid (he.trans h3)
      rw [h3] at hF
      clear he ho h h3
      go_enter Try.func11, Try.ntmps11
      go_wp2_with fail
      refine (hF _).mono ?_
      rintro e w1 ⟨rfl, hb1⟩
      go_wp2
      go_ret2
      exact ⟨ret_bool_errW (by rw [Ho.out]) (by rw [He.out]; rfl), hA.trans (hb1.mono (by simp))⟩
  · have Ho := Lib.hid ho
    have He := Lib.hid he
    rw [h] at hF
    clear he ho h
    go_enter Try.func11, Try.ntmps11
    go_wp2_with fail
    refine (hF _).mono ?_
    rintro e w1 ⟨rfl, hb1⟩
    rw [show ((0 : Nat) : Int) = (0 : Int) from rfl]
    go_wp2
    all_goals
      go_ret2
      exact ⟨ret_bool_errW (by rw [Ho.out]) (by rw [He.out]; rfl), hA.trans (hb1.mono (by simp))⟩
  · have Ho := Lib.hid ho
    have He := Lib.hid he
    have Hc := Lib.hid (Wn.err_cases so la b)
    have H0 := Lib.hid h
    rw [h] at hF
    have d1 : decide (n < 0) = false := by simp; omega
    have d2 : decide ((1099511627776 : Int) < n) = false := by simp; omega
    clear he ho h
    cases so
    · have Hr := Lib.hid (show Wn.has false la b n = false from rfl)
      go_enter Try.func11, Try.ntmps11
      go_wp2_with fail
      refine (hF _).mono ?_
      rintro e w1 ⟨rfl, hb1⟩
      have cA : w1.cell? ⟨w.heap.size, 0, none⟩ = some (.bool false) := (hb1.cell (p := ⟨w.heap.size, 0, none⟩) (by simp)).trans (by rw [cell_of_row _ _ _ _ _ _ (heap_alloc_last w _)]; rfl)
      rw [show ((0 : Nat) : Int) = (0 : Int) from rfl]
      go_wp2
      go_ret2
      exact ⟨ret_bool_errW (by rw [Ho.out, Hr.out]) (by rw [He.out]; rfl), hA.trans (hb1.mono (by simp))⟩
    · obtain ⟨hl0, hl1⟩ : 0 ≤ la ∧ la ≤ 1099511627776 := by
        rcases Hc.out with h | h | h | h | h | h
        · exact absurd h.1 (by decide)
        · exact absurd h.1 (by decide)
        · have := h.2.2; rw [H0.out] at this; omega
        · exact ⟨h.2.1, h.2.2.1⟩
        · exact ⟨h.2.1, h.2.2.1⟩
        · exact ⟨h.2.1, h.2.2.1⟩
      clear Hc
      by_cases ho : n ≤ la - 64
      · have Hr := Lib.hid (show Wn.has true la b n = true by unfold Wn.has; rw [decide_eq_true (show n ≤ la by omega), decide_eq_true ho]; rfl)
        go_enter Try.func11, Try.ntmps11
        go_wp2_with fail
        refine (hF _).mono ?_
        rintro e w1 ⟨rfl, hb1⟩
        have cA : w1.cell? ⟨w.heap.size, 0, none⟩ = some (.bool true) := (hb1.cell (p := ⟨w.heap.size, 0, none⟩) (by simp)).trans (by rw [cell_of_row _ _ _ _ _ _ (heap_alloc_last w _)]; rfl)
        have cB : w1.cell? ⟨w.heap.size, 1, none⟩ = some (.int .i64 la) := (hb1.cell (p := ⟨w.heap.size, 1, none⟩) (by simp)).trans (by rw [cell_of_row _ _ _ _ _ _ (heap_alloc_last w _)]; rfl)
        rw [show ((0 : Nat) : Int) = (0 : Int) from rfl]
        go_wp2
        go_ret2
        exact ⟨ret_bool_errW (by rw [Ho.out, Hr.out]) (by rw [He.out]; rfl), hA.trans (hb1.mono (by simp))⟩
      · go_enter Try.func11, Try.ntmps11
        go_wp2_with fail
        refine (hF _).mono ?_
        rintro e w1 ⟨rfl, hb1⟩
        have cA : w1.cell? ⟨w.heap.size, 0, none⟩ = some (.bool true) := (hb1.cell (p := ⟨w.heap.size, 0, none⟩) (by simp)).trans (by rw [cell_of_row _ _ _ _ _ _ (heap_alloc_last w _)]; rfl)
        have cB : w1.cell? ⟨w.heap.size, 1, none⟩ = some (.int .i64 la) := (hb1.cell (p := ⟨w.heap.size, 1, none⟩) (by simp)).trans (by rw [cell_of_row _ _ _ _ _ _ (heap_alloc_last w _)]; rfl)
        have cC : w1.cell? ⟨w.heap.size, 2, none⟩ = some (.int .u64 (b : Int)) := (hb1.cell (p := ⟨w.heap.size, 2, none⟩) (by simp)).trans (by rw [cell_of_row _ _ _ _ _ _ (heap_alloc_last w _)]; rfl)
        have hB1 := hA.trans (hb1.mono (by simp))
        clear hb1 hA
        rw [show ((0 : Nat) : Int) = (0 : Int) from rfl]
        go_wp2
        clear d1 d2
        go_loopw [7] (fun i wr => ∃ k : Nat, k ≤ 64 ∧ i = .int .i64 k ∧ Hid (∀ j : Nat, j < k → ¬ (la - (j : Int) = n ∧ b.testBit j = true)) ∧ wr = w1) (fun i _ => 64 - (intOf i).toNat)
        case atStart => exact ⟨0, by decide, rfl, Lib.hid (fun j hj => absurd hj (by omega)), rfl⟩
        case round =>
          obtain ⟨k, hk, rfl, Hk, rfl⟩ := hrel
          by_cases hlt : k < 64
          · have hs := u64_shr 22 b k (by omega)
            have hbt := u64_bit b k hb
            generalize b / 2 ^ k = q at *
            by_cases hq : la - (k : Int) = n
            · cases hT : b.testBit k
              · rw [hT] at hbt
                have Hn := Lib.hid (show ∀ j : Nat, j < k + 1 → ¬ (la - (j : Int) = n ∧ b.testBit j = true) by
                  intro j hj ⟨h1, h2⟩
                  by_cases hjk : j = k
                  · subst hjk; rw [hT] at h2; cases h2
                  · exact Hk.out j (by omega) ⟨h1, h2⟩)
                have hbt' : bits .and .u64 (q : Int) 1 = 0 := hbt
                have hq' : (la - (k : Int) == n) = true := by simp [hq]
                clear hbt hT
                go_wp2
                go_roundw
                case rel => exact ⟨k + 1, by omega, by go_num, Hn, trivial⟩
                case measure => simp [intOf]; omega
              · rw [hT] at hbt
                have Hr := Lib.hid (show Wn.has true la b n = true by
                  unfold Wn.has
                  rw [decide_eq_true (show n ≤ la by omega), show (la - n).toNat = k by omega, hT]; simp)
                have hbt' : bits .and .u64 (q : Int) 1 = 1 := hbt
                have hq' : (la - (k : Int) == n) = true := by simp [hq]
                clear hbt hT
                go_wp2
                go_ret2
                exact ⟨ret_bool_errW (by rw [Ho.out, Hr.out]) (by rw [He.out]; rfl), hB1⟩
            · have Hn := Lib.hid (show ∀ j : Nat, j < k + 1 → ¬ (la - (j : Int) = n ∧ b.testBit j = true) by
                  intro j hj ⟨h1, h2⟩
                  by_cases hjk : j = k
                  · subst hjk; exact hq h1
                  · exact Hk.out j (by omega) ⟨h1, h2⟩)
              have hq' : (la - (k : Int) == n) = false := by simpa using hq
              clear hbt
              go_wp2
              go_roundw
              case rel => exact ⟨k + 1, by omega, by go_num, Hn, trivial⟩
              case measure => simp [intOf]; omega
          · obtain rfl : k = 64 := by omega
            have Hr := Lib.hid (show Wn.has true la b n = false by
              unfold Wn.has
              by_cases hnl : n ≤ la
              · have := Hk.out (la - n).toNat (by omega)
                have hT : b.testBit (la - n).toNat = false := by
                  cases h : b.testBit (la - n).toNat
                  · rfl
                  · exact absurd ⟨by omega, h⟩ this
                rw [hT, decide_eq_false (show ¬ n ≤ la - 64 by omega)]; simp
              · rw [decide_eq_false hnl]; rfl)
            rw [show ((64 : Nat) : Int) = (64 : Int) from rfl]
            go_wp2
            go_ret2
            exact ⟨ret_bool_errW (by rw [Ho.out, Hr.out]) (by rw [He.out]; rfl), hB1⟩
end Go.Proofs.Ytgcaapehfnmelaa
