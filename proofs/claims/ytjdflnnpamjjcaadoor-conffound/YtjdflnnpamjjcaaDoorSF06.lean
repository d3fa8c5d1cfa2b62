/- The contract of the laws' helper Net: a network of a raw thing. -/
import Derived.Test.YtjdflnnpamjjcaaDoorRows
import Derived.Test.YtjdflnnpamjjcaaDoorMem
import Derived.Test.YtjdflnnpamjjcaaDoorSF05
import Derived.Laws.BitsAllLaws
import Derived.Deep.RegionWith
namespace Go.Proofs.YtjdflnnpamjjcaaDoor
open Go.RowKit

/-- Which one a raw number picks out of m. -/
def pick (n : Int) (m : Nat) : Nat := (if n < 0 then -(n + 1) else n).toNat % m
theorem pick_lt (n : Int) (m : Nat) (h : 0 < m) : pick n m < m := Nat.mod_lt _ h

set_option maxHeartbeats 400000 in
theorem keep_picked (n : Int) (m : Nat) (w : World) (h0 : -9223372036854775808 ≤ n) (h1 : n ≤ 9223372036854775807) (hm : 0 < m) (hm2 : m ≤ 9223372036854775807) :
    Calls Tryd.prog 20 #[.int .i64 n, .int .i64 (m : Int)] w fun e w' => e = .returned (.int .i64 (pick n m : Int)) ∧ w = w' := by
  by_cases hn : n < 0
  · have Hp := Lib.hid (show (pick n m : Int) = (-(n + 1)) % (m : Int) by unfold pick; rw [if_pos hn, Int.natCast_emod, Int.toNat_of_nonneg (by omega)])
    have ht : (-(n + 1)).tmod (m : Int) = (-(n + 1)) % (m : Int) := Int.tmod_eq_emod_of_nonneg (by omega)
    go_enter Tryd.func20, Tryd.ntmps20
    go_wp2
    go_ret
    exact ⟨by rw [Hp.out]; rfl, rfl⟩
  · have Hp := Lib.hid (show (pick n m : Int) = n % (m : Int) by unfold pick; rw [if_neg hn, Int.natCast_emod, Int.toNat_of_nonneg (by omega)])
    have ht : n.tmod (m : Int) = n % (m : Int) := Int.tmod_eq_emod_of_nonneg (by omega)
    go_enter Tryd.func20, Tryd.ntmps20
    go_wp2
    go_ret
    exact ⟨by rw [Hp.out]; rfl, rfl⟩
end Go.Proofs.YtjdflnnpamjjcaaDoor

namespace Go.Proofs.YtjdflnnpamjjcaaDoor

def rawV (k a b : Int) (s : ByteArray) : Value := .agg #[.int .i64 k, .int .i64 a, .int .i64 b, .string s]
end Go.Proofs.YtjdflnnpamjjcaaDoor

namespace Go.Proofs.YtjdflnnpamjjcaaDoor
open Go.RowKit

/-- The network of a raw thing. -/
def Nt.rawA (k a b : Int) : Nat := if 0 < pick k 4 then (Nt.used.getD (pick a 11) (0, 0)).1 else Nt.cut (a % 4294967296).toNat (pick b 33)
def Nt.rawB (k a b : Int) : Nat := if 0 < pick k 4 then (Nt.used.getD (pick a 11) (0, 0)).2 else pick b 33
theorem used_good : ∀ i, i < 11 → (Nt.used.getD i (0, 0)).1 < 4294967296 ∧ (Nt.used.getD i (0, 0)).2 ≤ 32 ∧ (Nt.used.getD i (0, 0)).1 % 2 ^ (32 - (Nt.used.getD i (0, 0)).2) = 0 := by decide
theorem usedCells_size : usedCells.size = 22 := rfl
theorem used_at : ∀ i, i < 11 → usedCells[2 * i]? = some (.int .u32 ((Nt.used.getD i (0, 0)).1 : Int)) ∧ usedCells[2 * i + 1]? = some (.int .i64 ((Nt.used.getD i (0, 0)).2 : Int)) := by
  intro i hi
  have : i = 0 ∨ i = 1 ∨ i = 2 ∨ i = 3 ∨ i = 4 ∨ i = 5 ∨ i = 6 ∨ i = 7 ∨ i = 8 ∨ i = 9 ∨ i = 10 := by omega
  rcases this with rfl | rfl | rfl | rfl | rfl | rfl | rfl | rfl | rfl | rfl | rfl <;> exact ⟨rfl, rfl⟩
theorem raw_good (k a b : Int) : Nt.rawA k a b < 4294967296 ∧ Nt.rawB k a b ≤ 32 ∧ Nt.err (Nt.rawA k a b) (Nt.rawB k a b : Int) = 0 := by
  unfold Nt.rawA Nt.rawB
  by_cases h : 0 < pick k 4
  · rw [if_pos h, if_pos h]
    obtain ⟨h1, h2, h3⟩ := used_good (pick a 11) (pick_lt a 11 (by decide))
    exact ⟨h1, h2, Nt.err_of h2 h3⟩
  · rw [if_neg h, if_neg h]
    have hb := pick_lt b 33 (by decide)
    exact ⟨Nt.cut_lt _ _ (by omega), by omega, Nt.err_of (by omega) (Nt.cut_mod _ _)⟩
/-- A network, out of the result's own cells. -/
theorem net_ret1 {fn : Func} {w : World} {base g : Nat} {x y : Value} {p : Nat} {tmps : Array Value} (h : fn.results = #[.cell p 44]) (hp : tmps.getD p undef = .pointer (some ⟨g, 0, none⟩))
    (R : w.ownsRow base 44 1 (.slice (some ⟨g, 0, none⟩) 2 2) 2 [x, y]) : (results fn tmps).run Tryd.prog w = .ok (.agg #[x, y]) w := by
  have hl := run_loadVar_row (P := Tryd.prog) w g 44 44 #[x, y] (0, 0) _ (two_block R) Tryd.underlying44 rfl size_net
  have hp' : tmps[p]?.getD undef = .pointer (some ⟨g, 0, none⟩) := by simpa using hp
  simp only [results, h]
  simp [hp', asAddr, hl]
theorem to_u32 (a : Int) : IntKind.u32.wrap a = (((a % 4294967296).toNat : Nat) : Int) := by
  rw [IntKind.wrap_u32]; omega
theorem ret_agg {x y : Value} (h : x = y) : Ending.returned x = .returned y := by rw [h]

set_option maxRecDepth 20000 in
set_option maxHeartbeats 1600000 in
theorem keep_Net (k a b : Int) (s : ByteArray) (w : World) (k0 : -9223372036854775808 ≤ k) (k1 : k ≤ 9223372036854775807) (a0 : -9223372036854775808 ≤ a) (a1 : a ≤ 9223372036854775807) (b0 : -9223372036854775808 ≤ b) (b1 : b ≤ 9223372036854775807) :
    Calls Tryd.prog 22 #[rawV k a b s] w fun e w' => e = .returned (netV (Nt.rawA k a b) (Nt.rawB k a b : Int)) ∧ Below w.heap.size w w' := by
  have HK := Lib.hid (fun W => keep_picked k 4 W k0 k1 (by decide) (by decide))
  have HA := Lib.hid (fun W => keep_picked a 11 W a0 a1 (by decide) (by decide))
  have HB := Lib.hid (fun W => keep_picked b 33 W b0 b1 (by decide) (by decide))
  unfold rawV netV
  by_cases h : 0 < pick k 4
  · have Hr := Lib.hid (And.intro (show Nt.rawA k a b = (Nt.used.getD (pick a 11) (0, 0)).1 by unfold Nt.rawA; rw [if_pos h]) (show Nt.rawB k a b = (Nt.used.getD (pick a 11) (0, 0)).2 by unfold Nt.rawB; rw [if_pos h]))
    have hp := pick_lt a 11 (by decide)
    obtain ⟨u0, u1⟩ := used_at (pick a 11) hp
    clear HB
    generalize pick k 4 = q at *
    generalize pick a 11 = p at *
    generalize (Nt.used.getD p (0, 0)).1 = X at *
    generalize (Nt.used.getD p (0, 0)).2 = Y at *
    have hN := usedCells_size
    have hp' : (p : Int) < 11 := by omega
    have HN := Lib.hid (fun W => keep_Nets W)
    generalize usedCells = N at *
    rw [Nat.mul_comm] at u0 u1
    go_enter Tryd.func22, Tryd.ntmps22
    go_wp2_with fail
    refine (HK.out _).mono ?_
    rintro e w1 ⟨rfl, hw1⟩
    rw [← hw1]
    clear hw1 w1
    go_wp2_with fail
    go_region_with (first
      | (go_at_call 39; refine (HN.out _).mono ?_; rintro e w' ⟨rfl, rfl⟩)
      | (go_at_call 20; refine (HA.out _).mono ?_; rintro e w' ⟨rfl, rfl⟩))
    all_goals
      have R := own_two (base := w.heap.size) (heap_alloc_last (w.alloc (.cells #[.int .i64 k, .int .i64 a, .int .i64 b, .string s] 49)) (.cells #[.int .u32 (X : Int), .int .i64 (Y : Int)] 44)) (by simp)
      rw [show (w.alloc (.cells #[.int .i64 k, .int .i64 a, .int .i64 b, .string s] 49)).heap.size = w.heap.size + 1 by simp] at R
      have HR := Lib.hid (own_below2 R (((Below.refl _ _).alloc (Nat.le_refl _) (.cells N 44)).alloc (by simp) (.cells N 44))).drew
      clear R
      go_wp2
      exact bodyPost_ret (net_ret1 Tryd.results22 rfl HR.out) rfl ⟨ret_agg (by rw [Hr.out.1, Hr.out.2]), (((((Below.refl _ _).alloc (Nat.le_refl _) _).alloc (by simp) _).alloc (by simp; omega) _).alloc (by simp; omega) _).drew⟩
  · have Hr := Lib.hid (And.intro (show Nt.rawA k a b = Nt.cut (a % 4294967296).toNat (pick b 33) by unfold Nt.rawA; rw [if_neg h]) (show Nt.rawB k a b = pick b 33 by unfold Nt.rawB; rw [if_neg h]))
    have hz : pick k 4 = 0 := by omega
    have hwr := to_u32 a
    have hA : (a % 4294967296).toNat < 4294967296 := by omega
    have hn := pick_lt b 33 (by decide)
    rw [hz] at HK
    clear h hz HA
    generalize (a % 4294967296).toNat = A at *
    generalize pick b 33 = n at *
    go_enter Tryd.func22, Tryd.ntmps22
    go_wp2_with fail
    refine (HK.out _).mono ?_
    rintro e w1 ⟨rfl, hw1⟩
    rw [← hw1]
    clear hw1 w1
    go_wp2_with fail
    refine (HB.out _).mono ?_
    rintro e w1 ⟨rfl, hw1⟩
    rw [← hw1]
    clear hw1 w1
    go_wp2
    go_loopw [4, 5] (fun v i wr => ∃ k' : Nat, n ≤ k' ∧ k' ≤ 32 ∧ i = .int .i64 k' ∧ v = .int .u32 ((Nt.cut A n + A % 2 ^ (32 - k') : Nat) : Int) ∧ wr = (w.alloc (.cells #[.int .i64 k, .int .i64 a, .int .i64 b, .string s] 49)).alloc (.cells #[.int .u32 0, .int .i64 0] 44)) (fun _ i _ => 32 - (intOf i).toNat)
    case atStart => exact ⟨n, Nat.le_refl _, by omega, rfl, by rw [Nt.cut_whole], rfl⟩
    case round =>
      obtain ⟨m, hnm, hm, rfl, rfl, rfl⟩ := hrel
      by_cases hlt : m < 32
      · have hc := Nt.clear_step A n m hA hnm hlt
        have hle : Nt.cut A n + A % 2 ^ (32 - m) < 4294967296 := by
          have h1 : A % 2 ^ (32 - m) = A % 2 ^ (32 - n) % 2 ^ (32 - m) := (Nat.mod_mod_of_dvd A (Nat.pow_dvd_pow 2 (by omega))).symm
          have h2 := Nat.mod_le (A % 2 ^ (32 - n)) (2 ^ (32 - m))
          have h3 := Nt.cut_whole A n
          omega
        have hpl : 2 ^ (31 - m) < 4294967296 := by have : 2 ^ (31 - m) < 2 ^ 32 := Nat.pow_lt_pow_right (by decide) (by omega)
                                                   omega
        have hbn := u32_andNot_nat _ _ hle hpl
        rw [hc] at hbn
        have hsub : (31 : Int) - (m : Int) = ((31 - m : Nat) : Int) := by omega
        have hw2 := bit_shl 1 (31 - m) (by decide) (by omega)
        rw [Nat.one_mul, Int.natCast_one, Int.one_mul] at hw2
        have hjw : IntKind.i64.wrap ((31 - m : Nat) : Int) = ((31 - m : Nat) : Int) := IntWalk.i64_in _ (by omega)
        have hjl : 31 - m ≤ 31 := by omega
        clear hc hpl
        generalize Nt.cut A n + A % 2 ^ (32 - m) = X at *
        generalize hY : Nt.cut A n + A % 2 ^ (32 - (m + 1)) = Y at hbn
        generalize hP : 2 ^ (31 - m) = P at hbn hw2
        generalize 31 - m = j at *
        have HY := Lib.hid hY
        clear hY hP
        go_wp2
        go_roundw
        case rel => exact ⟨m + 1, by omega, by omega, by go_num, by rw [HY.out], trivial⟩
        case measure => simp [intOf]; omega
      · obtain rfl : m = 32 := by omega
        have hx : Nt.cut A n + A % 2 ^ (32 - 32) = Nt.cut A n := by simp [Nat.mod_one]
        rw [hx, show ((32 : Nat) : Int) = (32 : Int) from rfl]
        clear hx
        have R := own_two (base := w.heap.size) (heap_alloc_last (w.alloc (.cells #[.int .i64 k, .int .i64 a, .int .i64 b, .string s] 49)) (.cells #[.int .u32 (Nt.cut A n : Int), .int .i64 (n : Int)] 44)) (by simp)
        rw [show (w.alloc (.cells #[.int .i64 k, .int .i64 a, .int .i64 b, .string s] 49)).heap.size = w.heap.size + 1 by simp] at R
        have HR := Lib.hid R
        clear R
        generalize Nt.cut A n = C at *
        go_wp2
        exact bodyPost_ret (net_ret1 Tryd.results22 rfl HR.out) rfl ⟨ret_agg (by rw [Hr.out.1, Hr.out.2]), ((Below.refl _ _).alloc (Nat.le_refl _) _).alloc (by simp) _⟩
end Go.Proofs.YtjdflnnpamjjcaaDoor
