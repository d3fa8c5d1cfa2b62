/- The contracts of the reference's bit, NetFault and NetOf. -/
import Derived.Test.YtjdflnnpamjjcaaDoorHexRef
import Derived.SizedLaws
import Derived.Test.YtjdflnnpamjjcaaDoorNetMem
namespace Go.Proofs.YtjdflnnpamjjcaaDoor
open Go.RowKit

set_option maxHeartbeats 400000 in
theorem ref_HexFault (s : ByteArray) (w : World) (hs : s.size ≤ maxLen) :
    Calls Tryd.prog 14 #[.string s] w fun e w' => e = .returned (.int .i64 (Hx.checkErr s.data.toList : Int)) ∧ Below w.heap.size w w' := by
  have hs' := hs
  unfold maxLen at hs'
  by_cases h : s.size = 64
  · have h1 : ((s.size : Int) != 64) = false := by simp [h]
    have hb : Hx.bytesErr s.data.toList = if allD s = false then 3 else 0 := by rw [allD_berr]; simp [h]
    have hc : Hx.checkErr s.data.toList = if allD s = false then 3 else 0 := by rw [allD_err]; simp [h]
    have Hb := Lib.hid hb
    have Hc := Lib.hid hc
    clear h hb hc
    cases hd : allD s <;>
    · have Hd := Lib.hid hd
      clear hd
      go_enter Tryd.func14, Tryd.ntmps14
      go_wp2_with (go_at_call 33; refine (ref_HexBytes _ _ hs).mono ?_; rintro e w' ⟨a, n, c, rfl, -, hbel⟩; rw [Hb.out, Hd.out]; simp only [if_pos, Bool.true_eq_false, if_false])
      go_ret
      exact ⟨ret_int (by rw [Hc.out, Hd.out]; rfl), hbel⟩
  · have h1 : ((s.size : Int) != 64) = true := by simp; omega
    have hc : Hx.checkErr s.data.toList = 1 := by rw [allD_err]; simp [h]
    have Hc := Lib.hid hc
    clear hc
    go_enter Tryd.func14, Tryd.ntmps14
    go_wp2
    go_ret
    exact ⟨ret_int (by rw [Hc.out]; rfl), Below.refl _ _⟩

end Go.Proofs.YtjdflnnpamjjcaaDoor

namespace Go.Proofs.YtjdflnnpamjjcaaDoor
open Go.RowKit

set_option maxHeartbeats 400000 in
theorem ref_bit (a i : Nat) (w : World) (ha : a < 4294967296) (hi : i < 32) :
    Calls Tryd.prog 38 #[.int .u32 (a : Int), .int .i64 (i : Int)] w fun e w' => e = .returned (.int .u32 ((a / 2 ^ (31 - i) % 2 : Nat) : Int)) ∧ w' = w := by
  have hsub : (31 : Int) - (i : Int) = ((31 - i : Nat) : Int) := by omega
  have hs := u32_shr 40 a (31 - i) (by omega)
  have hq : a / 2 ^ (31 - i) < 4294967296 := Nat.lt_of_le_of_lt (Nat.div_le_self _ _) ha
  have hb := u32_and_one _ hq
  have hk : 31 - i ≤ 31 := by omega
  generalize 31 - i = k at *
  generalize a / 2 ^ k = q at *
  generalize q % 2 = r at *
  go_enter Tryd.func38, Tryd.ntmps38
  go_wp2
  go_ret
  exact ⟨rfl, rfl⟩

set_option maxHeartbeats 800000 in
theorem ref_NetFault (a : Nat) (b : Int) (w : World) (ha : a < 4294967296) :
    Calls Tryd.prog 17 #[netV a b] w fun e w' => e = .returned (.int .i64 (Nt.err a b : Int)) ∧ Below w.heap.size w w' := by
  have hA : Below w.heap.size w (w.alloc (.cells #[.int .u32 (a : Int), .int .i64 b] 44)) := (Below.refl _ _).alloc (Nat.le_refl _) _
  unfold netV
  rcases Nt.err_cases a b with ⟨h, he⟩ | h
  · have He := Lib.hid he
    clear he
    rcases h with h | h
    · have d1 : decide (b < 0) = true := decide_eq_true h
      go_enter Tryd.func17, Tryd.ntmps17
      go_wp2
      go_ret
      exact ⟨by rw [He.out]; rfl, hA⟩
    · have d1 : decide (b < 0) = false := decide_eq_false (by omega)
      have d2 : decide (32 < b) = true := decide_eq_true h
      go_enter Tryd.func17, Tryd.ntmps17
      go_wp2
      go_ret
      exact ⟨by rw [He.out]; rfl, hA⟩
  · obtain ⟨h0, h1, He⟩ : 0 ≤ b ∧ b ≤ 32 ∧ Hid (Nt.err a b = if a % 2 ^ (32 - b.toNat) = 0 then 0 else 3) := by
      rcases h with ⟨h0, h1, h2, h3⟩ | ⟨h0, h1, h2, h3⟩
      · exact ⟨h0, h1, Lib.hid (by rw [h3, if_pos h2])⟩
      · exact ⟨h0, h1, Lib.hid (by rw [h3, if_neg h2])⟩
    clear h
    obtain ⟨n, rfl⟩ : ∃ n : Nat, b = (n : Int) := ⟨b.toNat, by omega⟩
    rw [Int.toNat_natCast] at He
    have d1 : decide ((n : Int) < 0) = false := decide_eq_false (by omega)
    have d2 : decide (32 < (n : Int)) = false := decide_eq_false (by omega)
    go_enter Tryd.func17, Tryd.ntmps17
    go_wp2
    clear d1 d2
    go_loopw [3] (fun i wr => ∃ k : Nat, n ≤ k ∧ k ≤ 32 ∧ i = .int .i64 k ∧ Hid (a % 2 ^ (32 - n) = a % 2 ^ (32 - k)) ∧ wr = w.alloc (.cells #[.int .u32 (a : Int), .int .i64 (n : Int)] 44)) (fun i _ => 32 - (intOf i).toNat)
    case atStart => exact ⟨n, Nat.le_refl _, by omega, rfl, Lib.hid rfl, rfl⟩
    case round =>
      obtain ⟨k, hnk, hk, rfl, Hk, rfl⟩ := hrel
      by_cases hlt : k < 32
      · have HB := Lib.hid (fun W => ref_bit a k W ha hlt)
        have hm := Nt.mod_step a (31 - k)
        rw [show 31 - k + 1 = 32 - k by omega] at hm
        rcases Nat.mod_two_eq_zero_or_one (a / 2 ^ (31 - k)) with hx | hx
        · rw [hx] at HB
          have Hn := Lib.hid (show a % 2 ^ (32 - n) = a % 2 ^ (32 - (k + 1)) by rw [Hk.out, hm, hx, Nat.mul_zero, Nat.add_zero, show 32 - (k + 1) = 31 - k by omega])
          clear hm hx
          go_wp2_with fail
          refine (HB.out _).mono ?_
          rintro e w1 ⟨rfl, hw1⟩
          subst hw1
          go_wp2
          go_roundw
          case rel => exact ⟨k + 1, by omega, by omega, by go_num, Hn, trivial⟩
          case measure => simp [intOf]; omega
        · rw [hx] at HB
          have Hn := Lib.hid (show a % 2 ^ (32 - n) ≠ 0 by
            rw [Hk.out, hm, hx, Nat.mul_one]
            have := Nat.two_pow_pos (31 - k)
            omega)
          clear hm hx
          go_wp2_with fail
          refine (HB.out _).mono ?_
          rintro e w1 ⟨rfl, hw1⟩
          subst hw1
          go_wp2
          go_ret
          exact ⟨by rw [He.out, if_neg Hn.out]; rfl, hA⟩
      · obtain rfl : k = 32 := by omega
        have Hn := Lib.hid (show a % 2 ^ (32 - n) = 0 by rw [Hk.out]; simp [Nat.mod_one])
        clear Hk
        rw [show ((32 : Nat) : Int) = (32 : Int) from rfl]
        go_wp2
        go_ret
        exact ⟨by rw [He.out, if_pos Hn.out]; rfl, hA⟩
end Go.Proofs.YtjdflnnpamjjcaaDoor
