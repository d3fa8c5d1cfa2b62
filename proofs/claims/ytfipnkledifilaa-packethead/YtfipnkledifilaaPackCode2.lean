/- The contracts of the program's packet.appendAddress, packet.address, packet.checksum. -/
import Derived.Test.YtfipnkledifilaaPackCode1
import Derived.BigRegion
namespace Go.Proofs.Ytfipnkledifilaa
open Go.RowKit

theorem join_pow (x y j : Nat) (hy : y < 2 ^ j) : x * 2 ^ j ||| y = x * 2 ^ j + y := by
  have h := Nat.two_pow_add_eq_or_of_lt (i := j) (b := y) hy x
  rw [Nat.mul_comm] at h
  exact h.symm
theorem join16 (x y : Nat) (hy : y < 65536) : x * 65536 ||| y = x * 65536 + y := by
  have h := join_pow x y 16 (by omega)
  rw [show x * 65536 = x * 2 ^ 16 by omega]
  exact h
theorem u32_shr16 (t : TypeId) (a : Nat) : binOp .shr t (.int .u32 (a : Int)) (.int .u64 16) = pure (.int .u32 ((a / 65536 : Nat) : Int)) := by
  rw [binOp_shr, shift_shr .u32 .u64 _ 16 (by omega) (by show (16 : Int) ≤ 32; omega)]
  simp only [show (2 : Int) ^ (16 : Int).toNat = 65536 from rfl, Int.natCast_ediv]
  rfl

set_option maxHeartbeats 800000 in
theorem packet_appendAddress (base n c : Nat) (a : Option Addr) (xs : List UInt8) (x : Nat) (w : World) (ho : w.ownsRow base 5 1 (.slice a n c) n (bcells xs)) (hx : x < 4294967296) (hn : n ≤ 1000) (hb : base ≤ w.heap.size) :
    Calls Try.prog 54 #[.slice a n c, .int .u32 (x : Int)] w fun e w' => ∃ a' c', e = .returned (.slice a' (n + 4) c') ∧ w'.ownsRow base 5 1 (.slice a' (n + 4) c') (n + 4) (bcells (xs ++ Pk.w4 x)) ∧ Below base w w' := by
  have hs : ∀ t, binOp .shr t (.int .u32 (x : Int)) (.int .u64 16) = pure (.int .u32 ((x / 65536 : Nat) : Int)) := fun t => u32_shr16 t x
  have hq : x / 65536 < 65536 := by omega
  have Hw := Lib.hid (show Pk.w4 x = Pk.w2 (x / 65536) ++ Pk.w2 x from rfl)
  generalize x / 65536 = q at *
  go_enter Try.func54, Try.ntmps54
  go_wp2_with fail
  refine (packet_appendWord base n c a xs q _ ho (by omega) (by omega) hb).mono ?_
  rintro e w1 ⟨a1, c1, rfl, ho1, hB1⟩
  have z1 := hB1.size
  clear ho
  go_wp2_with fail
  refine (packet_appendWord base (n + 2) c1 a1 (xs ++ Pk.w2 q) x _ ho1 (by omega) (by omega) (Nat.le_trans hb z1)).mono ?_
  rintro e w2 ⟨a2, c2, rfl, ho2, hB2⟩
  clear ho1
  go_wp2
  go_ret
  exact ⟨a2, c2, rfl, by rw [Hw.out, ← List.append_assoc]; exact ho2, hB1.trans (hB2.mono (Nat.le_refl _))⟩

theorem BytesAt.part {w : World} {B n m g off : Nat} {bs : List UInt8} (h : BytesAt w B (some ⟨g, off, none⟩) n bs) (hm : m ≤ n) : BytesAt w B (some ⟨g, off + m, none⟩) (n - m) (bs.drop m) := by
  refine ⟨by rw [List.length_drop, h.1], fun hn => ?_⟩
  obtain ⟨b, off', e, hlt, hc⟩ := h.2 (by omega)
  cases e
  refine ⟨g, off + m, rfl, hlt, fun i hi => ?_⟩
  rw [List.length_drop] at hi
  rw [List.getElem_drop, Nat.add_assoc, hc (m + i) (by omega)]
theorem bytes_drewN {w : World} {B n : Nat} {a : Option Addr} {bs : List UInt8} (h : BytesAt w B a n bs) (q : Nat) : BytesAt (w.drewN q) B a n bs :=
  ⟨h.1, fun hn => by
    obtain ⟨b, off, e, hlt, hc⟩ := h.2 hn
    refine ⟨b, off, e, hlt, fun i hi => ?_⟩
    have hd : ∀ (k : Nat) (W : World) (ad : Addr), (W.drewN k).cell? ad = W.cell? ad := by
      intro k
      induction k with
      | zero => intro W ad; rfl
      | succ k ih => intro W ad; rw [World.drewN]; first | exact (ih _ ad).trans rfl | exact ih W ad
    rw [hd]
    exact hc i hi⟩
theorem Pk.a4_word (bs : List UInt8) : Pk.a4 bs 0 = Pk.word bs * 65536 + Pk.word (bs.drop 2) := by
  have e2 : (bs.drop 2).getD 0 0 = bs.getD (0 + 2) 0 := by rw [List.getD_eq_getElem?_getD, List.getD_eq_getElem?_getD, List.getElem?_drop, Nat.add_comm]
  have e3 : (bs.drop 2).getD 1 0 = bs.getD (0 + 3) 0 := by rw [List.getD_eq_getElem?_getD, List.getD_eq_getElem?_getD, List.getElem?_drop]
  unfold Pk.a4 Pk.word
  rw [e2, e3]
  simp only [Nat.zero_add]
  omega

set_option maxHeartbeats 800000 in
theorem packet_address (b off n c B : Nat) (bs : List UInt8) (w : World) (h : BytesAt w B (some ⟨b, off, none⟩) n bs) (h4 : 4 ≤ n) (hc : n ≤ c) :
    Calls Try.prog 57 #[.slice (some ⟨b, off, none⟩) n c] w fun e w' => e = .returned (.int .u32 (Pk.a4 bs 0 : Int)) ∧ ∃ m, w' = w.drewN m := by
  have l0 := Pk.word_lt bs
  have l1 := Pk.word_lt (bs.drop 2)
  have hw := Pk.a4_word bs
  have H1 := Lib.hid (fun q => packet_word b off n c B bs (w.drewN q) (bytes_drewN h q) (by omega))
  have H2 := Lib.hid (fun q => packet_word b (off + 2) (n - 2) (c - 2) B (bs.drop 2) (w.drewN q) (bytes_drewN (h.part (m := 2) (by omega)) q) (by omega))
  clear h
  generalize Pk.word bs = x at *
  generalize Pk.word (bs.drop 2) = y at *
  have hs := fun t => u32_shl16 t x l0
  have hwx : IntKind.u32.wrap (x : Int) = (x : Int) := by rw [IntKind.wrap_u32]; omega
  have hwy : IntKind.u32.wrap (y : Int) = (y : Int) := by rw [IntKind.wrap_u32]; omega
  have ho := u32_or_nat (x * 65536) y (by omega) (by omega)
  rw [join16 x y l1, ← hw] at ho
  have hX : x * 65536 < 4294967296 := by omega
  generalize x * 65536 = X at *
  have c2 : ¬ c = 2 := by omega
  have cc : 2 ≤ c := by omega
  have nn : 2 ≤ n := by omega
  have n2 : (2 : Int) ≤ (n : Int) := by omega
  have m2 : (n : Int) ≤ (c : Int) := by omega
  clear hw
  generalize Pk.a4 bs 0 = W at *
  go_enter Try.func57, Try.ntmps57
  go_wp2_with fail
  go_quiet (first | (go_at_call_of 77 (Value.slice (some { block := b, off := off }) n c); exact Calls.quiet_of (H1.out _)) | (go_at_call 77; exact Calls.quiet_of (H2.out _)))
  go_wp2
  go_ret
  exact ⟨rfl, _, rfl⟩
/-- What the checksum of twenty bytes is: of the sum of their words. -/
theorem Pk.word_at (bs : List UInt8) (k : Nat) : Pk.word (bs.drop k) = 256 * (bs.getD k 0).toNat + (bs.getD (k + 1) 0).toNat := by
  unfold Pk.word
  rw [List.getD_eq_getElem?_getD (l := bs.drop k), List.getD_eq_getElem?_getD (l := bs.drop k), List.getElem?_drop, List.getElem?_drop, Nat.add_zero, List.getD_eq_getElem?_getD, List.getD_eq_getElem?_getD]

set_option maxRecDepth 10000 in
set_option maxHeartbeats 1600000 in
theorem packet_checksum (b off c B : Nat) (bs : List UInt8) (w : World) (h : BytesAt w B (some ⟨b, off, none⟩) 20 bs) (hc : 20 ≤ c) :
    Calls Try.prog 55 #[.slice (some ⟨b, off, none⟩) 20 c] w fun e w' => e = .returned (.int .i64 ((65535 - Pk.fold (Pk.bsum bs 20) : Nat) : Int)) ∧ ∃ m, w' = w.drewN m := by
  have Hb := Lib.hid h
  clear h
  go_enter Try.func55, Try.ntmps55
  go_wp2
  go_loopw [3, 4] (fun vs vi wr => ∃ k : Nat, k ≤ 10 ∧ vi = .int .i64 ((2 * k : Nat) : Int) ∧ vs = .int .i64 ((Pk.bsum bs (2 * k) : Nat) : Int) ∧ ∃ m, wr = w.drewN m) (fun _ vi _ => 20 - (intOf vi).toNat)
  case atStart => exact ⟨0, by omega, rfl, rfl, 0, rfl⟩
  case round =>
    obtain ⟨k, hk, rfl, rfl, m, rfl⟩ := hrel
    by_cases hlt : k < 10
    · have hle := Pk.bsum_le bs (2 * k)
      have hwl := Pk.word_lt (bs.drop (2 * k))
      have Hs := Lib.hid (show Pk.bsum bs (2 * (k + 1)) = Pk.bsum bs (2 * k) + Pk.word (bs.drop (2 * k)) by rw [show 2 * (k + 1) = 2 * k + 2 by omega, Pk.bsum_two _ _ (by omega), Pk.word_at])
      have H1 := Lib.hid (packet_word b (off + 2 * k) (20 - 2 * k) (c - 2 * k) B (bs.drop (2 * k)) (w.drewN m) ((bytes_drewN Hb.out m).part (by omega)) (by omega))
      obtain ⟨j, hj⟩ : ∃ j, j = 2 * k := ⟨_, rfl⟩
      have Hj := Lib.hid hj
      rw [← hj] at H1 Hs hwl hle ⊢
      have hj2 : j ≤ 18 := by omega
      have cj : j < c := by omega
      clear hj hlt hk
      generalize Pk.word (bs.drop j) = x at *
      generalize Pk.bsum bs j = s at *
      go_wp2_with fail
      refine H1.out.mono ?_
      rintro e w1 ⟨rfl, q, rfl⟩
      go_wp2
      go_roundw
      case rel => exact ⟨k + 1, by have := Hj.out; omega, by have := Hj.out; go_num, by rw [Hs.out]; go_num, _, rfl⟩
      case measure => simp [intOf]; omega
    · obtain rfl : k = 10 := by omega
      have hle := Pk.bsum_le bs (2 * 10)
      rw [show 2 * 10 = 20 from rfl] at hle ⊢
      rw [show ((20 : Nat) : Int) = (20 : Int) from rfl]
      obtain ⟨wo, hwo⟩ : ∃ wo, wo = w.drewN m := ⟨_, rfl⟩
      rw [← hwo]
      have Hwo := Lib.hid hwo
      clear hwo
      obtain ⟨F, hF⟩ : ∃ F, F = Pk.fold (Pk.bsum bs 20) := ⟨_, rfl⟩
      have HF := Lib.hid hF
      have HF0 := Lib.hid hF
      have hle' : Pk.bsum bs 20 ≤ 1305600 := by omega
      clear hF hle
      go_wp2
      go_loopw [3] (fun vs wr => ∃ s : Nat, s ≤ 1305600 ∧ vs = .int .i64 (s : Int) ∧ F = Pk.fold s ∧ wr = wo) (fun vs _ => (intOf vs).toNat)
      case atStart => exact ⟨_, hle', rfl, HF.out, rfl⟩
      case round =>
        clear hle' HF
        obtain ⟨s, hs, rfl, hF, rfl⟩ := hrel
        by_cases h6 : 65535 < s
        · have HF := Lib.hid (hF.trans (Pk.fold_step s h6 hs).symm)
          clear hF
          go_wp2
          go_roundw
          case rel => exact ⟨s % 65536 + s / 65536, by omega, by go_num, HF.out, trivial⟩
          case measure => simp [intOf]; omega
        · have HF := Lib.hid (hF.trans (Pk.fold_small s (by omega)))
          clear hF
          go_wp2
          go_ret
          exact ⟨by rw [← HF0.out, HF.out]; exact ret_int (by omega), m, Hwo.out⟩
end Go.Proofs.Ytfipnkledifilaa
