/- The contracts of the program's wire.appendNumber and wire.takeNumber. -/
import Derived.Test.YtfgkodgdoplpbabWireCheck
import Derived.BigQuiet
namespace Go.Proofs.Ytfgkodgdoplpbab
open Go.RowKit

theorem pow_256 (k : Nat) : (2 : Nat) ^ (8 * k) = 256 ^ k := by rw [Nat.pow_mul]
theorem i64_shr256 (t : TypeId) (a k : Nat) (hk : k ≤ 8) : binOp .shr t (.int .i64 (a : Int)) (.int .i64 (8 * (k : Int))) = pure (.int .i64 ((a / 256 ^ k : Nat) : Int)) := by
  rw [show (8 * (k : Int)) = ((8 * k : Nat) : Int) by omega, binOp_shr, shift_shr .i64 .i64 _ ((8 * k : Nat) : Int) (by omega) (by show ((8 * k : Nat) : Int) ≤ 64; omega), ← pow_256]
  simp only [Int.toNat_natCast, Int.natCast_ediv, Int.natCast_pow]
  rfl

set_option maxHeartbeats 800000 in
theorem wire_appendNumber (base n c : Nat) (a : Option Addr) (xs : List UInt8) (x m : Nat) (w : World) (ho : w.ownsRow base 5 1 (.slice a n c) n (bcells xs)) (hx : x ≤ 9223372036854775807) (hm : m ≤ 8) (hn : n ≤ 1000) (hb : base ≤ w.heap.size) :
    Calls Try.prog 24 #[.slice a n c, .int .i64 (x : Int), .int .i64 (m : Int)] w fun e w' => ∃ a' c', e = .returned (.slice a' (n + m) c') ∧ w'.ownsRow base 5 1 (.slice a' (n + m) c') (n + m) (bcells (xs ++ Wr.leL x m)) ∧ Below base w w' := by
  have Ho := Lib.hid ho
  have Hb := Lib.hid hb
  clear ho
  go_enter Try.func24, Try.ntmps24
  go_wp2
  go_loopw [0, 9] (fun vb vi wr => ∃ k : Nat, k ≤ m ∧ vi = .int .i64 (k : Int) ∧ ∃ a' c', vb = .slice a' (n + k) c' ∧ Hid (wr.ownsRow base 5 1 (.slice a' (n + k) c') (n + k) (bcells (xs ++ Wr.leL x k)) ∧ Below base w wr)) (fun _ vi _ => m - (intOf vi).toNat)
  case atStart => exact ⟨0, Nat.zero_le _, rfl, a, c, rfl, Lib.hid ⟨by simpa [Wr.leL] using Ho.out, Below.refl _ _⟩⟩
  case round =>
    obtain ⟨k, hk, rfl, a', c', rfl, HR⟩ := hrel
    by_cases hlt : k < m
    · have hs := fun t => i64_shr256 t x k (by omega)
      have hq : x / 256 ^ k ≤ 9223372036854775807 := Nat.le_trans (Nat.div_le_self _ _) hx
      have e1 := u8_of (x / 256 ^ k)
      have Hl := Lib.hid (Wr.leL_snoc k x)
      generalize x / 256 ^ k = q at *
      have hzr : base ≤ wr.heap.size := Nat.le_trans hb HR.out.2.size
      generalize UInt8.ofNat q = r at *
      go_wp2_with (at_builtin; refine wpL_append8 _ rfl _ _ rfl base _ (n + k) _ _ rfl (HR.out.1.alloc _) _ 1 _ [.int .u8 (r.toNat : Int)] rfl rfl (by intro h; cases h) (fun ad h => by cases h; exact news_row _ _ _) (by simp [Value.oneCell']) (by omega) (by simp; omega) ?_)
      intro a2 c2 w2 ho2 hg2
      have hB : Below base wr w2 := below_own ((Below.refl _ _).alloc hzr _) (HR.out.1.alloc _) hg2 (Nat.le_refl _) (by simp; omega)
      have Hnew := Lib.hid (show w2.ownsRow base 5 1 (.slice a2 (n + (k + 1)) c2) (n + (k + 1)) (bcells (xs ++ Wr.leL x (k + 1))) by
        rw [← Hl.out, ← List.append_assoc, bcells_append]
        rw [show n + (k + 1) = n + k + 1 by omega]
        exact ho2)
      have HBn := Lib.hid (HR.out.2.trans hB)
      clear ho2 hg2 hB
      go_wp2
      go_roundw
      case rel => exact ⟨k + 1, by omega, by go_num, a2, c2, rfl, Lib.hid ⟨Hnew.out, HBn.out⟩⟩
      case measure => simp [intOf]; omega
    · obtain rfl : k = m := by omega
      go_wp2
      go_ret
      exact ⟨a', c', rfl, HR.out.1, HR.out.2⟩

theorem Wr.wrap_sgn (x : Nat) (h : x < 18446744073709551616) : IntKind.i64.wrap (x : Int) = Wr.sgn x := by
  rw [IntKind.wrap_i64]
  unfold Wr.sgn
  split <;> omega
theorem Wr.sgn_small (x : Nat) (h : x < 9223372036854775808) : Wr.sgn x = (x : Int) := if_pos h
theorem pow_le7 (k : Nat) (hk : k ≤ 7) : 256 ^ k ≤ 72057594037927936 := by
  have := Nat.pow_le_pow_right (n := 256) (by decide) hk
  simpa using this
theorem or_step (N x k : Nat) (hk : k ≤ 7) (hN : N < 256 ^ k) (hx : x < 256) : bits .or .i64 (N : Int) (IntKind.i64.wrap (((x * 256 ^ k : Nat)) : Int)) = Wr.sgn (N + x * 256 ^ k) := by
  have h7 := pow_le7 k hk
  have hP : x * 256 ^ k < 18446744073709551616 := by
    have : x * 256 ^ k ≤ 255 * 256 ^ k := Nat.mul_le_mul_right _ (by omega)
    omega
  have hS : x * 256 ^ k + N < 18446744073709551616 := by
    have : x * 256 ^ k ≤ 255 * 256 ^ k := Nat.mul_le_mul_right _ (by omega)
    omega
  have hj : x * 256 ^ k ||| N = x * 256 ^ k + N := by rw [← pow_256]; exact join_pow x N (8 * k) (by rw [pow_256]; exact hN)
  have e1 : (BitVec.ofInt 64 (IntKind.i64.wrap ((x * 256 ^ k : Nat) : Int))).toNat = x * 256 ^ k := by
    generalize x * 256 ^ k = P at *
    rw [BitVec.toNat_ofInt, IntKind.wrap_i64]
    omega
  show IntKind.i64.wrap ((BitVec.ofInt 64 (N : Int) ||| BitVec.ofInt 64 (IntKind.i64.wrap ((x * 256 ^ k : Nat) : Int))).toNat : Int) = _
  rw [BitVec.toNat_or, e1, ofInt_small N (by omega), Nat.or_comm, hj, Wr.wrap_sgn _ hS, Nat.add_comm]
theorem i64_shl256 (t : TypeId) (x k : Nat) (hk : k ≤ 7) : binOp .shl t (.int .i64 (x : Int)) (.int .i64 (8 * (k : Int))) = pure (.int .i64 (IntKind.i64.wrap ((x * 256 ^ k : Nat) : Int))) := by
  rw [show (8 * (k : Int)) = ((8 * k : Nat) : Int) by omega, binOp_shl, shift_shl .i64 .i64 _ ((8 * k : Nat) : Int) (by omega) (by show ((8 * k : Nat) : Int) ≤ 64; omega)]
  have e : (x : Int) * 2 ^ ((8 * k : Nat) : Int).toNat = ((x * 256 ^ k : Nat) : Int) := by
    rw [Int.toNat_natCast, ← pow_256]
    push_cast
    rfl
  rw [e]
theorem Wr.num_take_lt (bs : List UInt8) (k : Nat) (h : k ≤ bs.length) : Wr.num (bs.take k) < 256 ^ k := by
  have := Wr.num_lt (bs.take k)
  rwa [List.length_take, Nat.min_eq_left h] at this

set_option maxHeartbeats 800000 in
theorem wire_takeNumber (b off n c m B : Nat) (bs : List UInt8) (w : World) (h : BytesAt w B (some ⟨b, off, none⟩) n bs) (hm : m ≤ 8) (hmn : m ≤ n) (hc : n ≤ c) :
    Calls Try.prog 32 #[.slice (some ⟨b, off, none⟩) n c, .int .i64 (m : Int)] w fun e w' => ∃ off', e = .returned (.tuple #[.int .i64 (Wr.sgn (Wr.num (bs.take m))), .slice (some ⟨b, off', none⟩) (n - m) (c - m)]) ∧ BytesAt w B (some ⟨b, off', none⟩) (n - m) (bs.drop m) ∧ ∃ q, w' = w.drewN q := by
  have Hb := Lib.hid h
  have Hl := Lib.hid h.1
  clear h
  go_enter Try.func32, Try.ntmps32
  go_wp2
  go_loopw [6, 9] (fun vn vi wr => ∃ k : Nat, k ≤ m ∧ vi = .int .i64 (k : Int) ∧ vn = .int .i64 (Wr.sgn (Wr.num (bs.take k))) ∧ wr = w) (fun _ vi _ => m - (intOf vi).toNat)
  case atStart => exact ⟨0, Nat.zero_le _, rfl, rfl, rfl⟩
  case round =>
    obtain ⟨k, hk, rfl, rfl, rfl⟩ := hrel
    by_cases hlt : k < m
    · obtain ⟨b', o', e', hcell⟩ := bytes_lt Hb.out (k := k) (by omega)
      cases e'
      have hx := (bs.getD k 0).toNat_lt
      have hN := Wr.num_take_lt bs k (by have := Hl.out; omega)
      have Hs := Lib.hid (Wr.num_snoc bs k (by have := Hl.out; omega))
      have hs := fun t => i64_shl256 t (bs.getD k 0).toNat k (by omega)
      have ho := or_step (Wr.num (bs.take k)) (bs.getD k 0).toNat k (by omega) hN hx
      have h7 := pow_le7 k (by omega)
      rw [Wr.sgn_small _ (by omega)]
      rw [← Hs.out] at ho
      have kn : (k : Int) < (n : Int) := by omega
      have kn' : k < n := by omega
      have HN := Lib.hid hN
      clear hN h7
      generalize IntKind.i64.wrap (((bs.getD k 0).toNat * 256 ^ k : Nat) : Int) = Y at *
      generalize (bs.getD k 0).toNat = x at *
      generalize Wr.num (bs.take k) = N at *
      have k8 : k ≤ 7 := by omega
      go_wp2
      go_roundw
      case rel => exact ⟨k + 1, by omega, by go_num, rfl, trivial⟩
      case measure => simp [intOf]; omega
    · obtain rfl : k = m := by omega
      have HP := Lib.hid (Hb.out.part hmn)
      have mn : (k : Int) ≤ (n : Int) := by omega
      have nc : (n : Int) ≤ (c : Int) := by omega
      by_cases hz : c = k
      · subst hz
        obtain rfl : n = c := by omega
        go_wp2
        go_quiet (fail)
        go_wp2
        go_ret2
        exact ⟨off, by simp, ⟨by rw [List.length_drop, Hl.out], fun h => absurd h (by omega)⟩, _, rfl⟩
      · have hz2 : ¬ (c : Int) - (k : Int) = 0 := by omega
        have hz3 : ¬ c - k = 0 := by omega
        go_wp2
        go_quiet (fail)
        go_wp2
        go_ret2
        exact ⟨off + k, rfl, HP.out, _, rfl⟩
end Go.Proofs.Ytfgkodgdoplpbab
