/- The contracts of the program's packet.word, packet.address, packet.checksum. -/
import Derived.Test.YtfipnkledifilaaRows
import Derived.Test.YtfipnkledifilaaMem3
import Derived.Test.YtfipnkledifilaaMemG
import Derived.Test.YtfipnkledifilaaPackPlain
import Derived.Laws.BitsAllLaws
import Derived.Laws.Shifts
import Derived.BigQuiet
namespace Go.Proofs.Ytfipnkledifilaa
open Go.RowKit

theorem i64_or (a b : Nat) (ha : a ≤ 9223372036854775807) (hb : b ≤ 9223372036854775807) (k : Nat) (hk : a % 2 ^ k = 0) (hb2 : b < 2 ^ k) (hs : a + b ≤ 9223372036854775807) : bits .or .i64 (a : Int) (b : Int) = ((a + b : Nat) : Int) := by
  show IntKind.i64.wrap ((BitVec.ofInt 64 (a : Int) ||| BitVec.ofInt 64 (b : Int)).toNat : Int) = _
  rw [BitVec.toNat_or, ofInt_small a ha, ofInt_small b hb, nat_join k a b hk hb2, IntKind.wrap_i64]
  omega
theorem i64_shl8 (t : TypeId) (a : Nat) (ha : a < 65536) : binOp .shl t (.int .i64 (a : Int)) (.int .u64 8) = pure (.int .i64 ((a * 256 : Nat) : Int)) := by
  rw [binOp_shl, shift_shl .i64 .u64 _ 8 (by omega) (by show (8 : Int) ≤ 64; omega), show (2 : Int) ^ (8 : Int).toNat = 256 from rfl, IntKind.wrap_i64]
  exact congrArg (fun z => pure (Value.int .i64 z)) (by omega)
theorem u32_shl16 (t : TypeId) (a : Nat) (ha : a < 65536) : binOp .shl t (.int .u32 (a : Int)) (.int .u64 16) = pure (.int .u32 ((a * 65536 : Nat) : Int)) := by
  rw [binOp_shl, shift_shl .u32 .u64 _ 16 (by omega) (by show (16 : Int) ≤ 32; omega), show (2 : Int) ^ (16 : Int).toNat = 65536 from rfl, IntKind.wrap_u32]
  exact congrArg (fun z => pure (Value.int .u32 z)) (by omega)
def Pk.word (bs : List UInt8) : Nat := 256 * (bs.getD 0 0).toNat + (bs.getD 1 0).toNat
theorem Pk.word_lt (bs : List UInt8) : Pk.word bs < 65536 := by
  have h0 := (bs.getD 0 0).toNat_lt
  have h1 := (bs.getD 1 0).toNat_lt
  unfold Pk.word; omega

set_option maxHeartbeats 800000 in
theorem packet_word (b off n c B : Nat) (bs : List UInt8) (w : World) (h : BytesAt w B (some ⟨b, off, none⟩) n bs) (h2 : 2 ≤ n) :
    Calls Try.prog 77 #[.slice (some ⟨b, off, none⟩) n c] w fun e w' => e = .returned (.int .i64 (Pk.word bs : Int)) ∧ ∃ m, w' = w.drewN m := by
  obtain ⟨b', off', e', c0⟩ := bytes_lt h (k := 0) (by omega)
  cases e'
  rw [Nat.add_zero] at c0
  obtain ⟨b', off', e', c1⟩ := bytes_lt h (k := 1) (by omega)
  cases e'
  have l0 := (bs.getD 0 0).toNat_lt
  have l1 := (bs.getD 1 0).toNat_lt
  have hw : Pk.word bs = (bs.getD 0 0).toNat * 256 + (bs.getD 1 0).toNat := by unfold Pk.word; omega
  clear h
  generalize (bs.getD 0 0).toNat = x at *
  generalize (bs.getD 1 0).toNat = y at *
  have hs := fun t => i64_shl8 t x (by omega)
  have ho := i64_or (x * 256) y (by omega) (by omega) 8 (by omega) (by omega) (by omega)
  rw [← hw] at ho
  have hX : x * 256 ≤ 65280 := by omega
  generalize x * 256 = X at *
  have k0 : (0 : Int) < (n : Int) := by omega
  have k0' : 0 < n := by omega
  have k1' : 1 < n := by omega
  have k1 : (1 : Int) < (n : Int) := by omega
  clear hw
  generalize Pk.word bs = W at *
  go_enter Try.func77, Try.ntmps77
  go_wp2_with fail
  go_quiet (fail)
  go_wp2
  go_ret
  exact ⟨rfl, _, rfl⟩
theorem news_row (w : World) (xs : List Value) (t : TypeId) : ∀ j u, xs[j]? = some u → (w.alloc (.cells xs.toArray t)).cell? ((⟨w.heap.size, 0, none⟩ : Addr).add j) = some u := by
  intro j u hj
  rw [Addr.add_lit, Nat.zero_add, cell_of_row _ _ j _ _ _ (heap_alloc_last w _), List.getElem?_toArray, hj]
theorem i64_shr (t : TypeId) (a k : Nat) (hk : k ≤ 64) : binOp .shr t (.int .i64 (a : Int)) (.int .u64 (k : Int)) = pure (.int .i64 ((a / 2 ^ k : Nat) : Int)) := by
  rw [binOp_shr, shift_shr .i64 .u64 _ (k : Int) (by omega) (by show (k : Int) ≤ 64; omega)]
  simp only [Int.toNat_natCast, Int.natCast_ediv, Int.natCast_pow]
  rfl
theorem u8_of (a : Nat) : IntKind.u8.wrap (a : Int) = ((UInt8.ofNat a).toNat : Int) := by
  rw [IntKind.wrap_u8, UInt8.toNat_ofNat']; omega

set_option maxHeartbeats 800000 in
theorem packet_appendWord (base n c : Nat) (a : Option Addr) (xs : List UInt8) (x : Nat) (w : World) (ho : w.ownsRow base 5 1 (.slice a n c) n (bcells xs)) (hx : x ≤ 9223372036854775807) (hn : n ≤ 1000000) (hb : base ≤ w.heap.size) :
    Calls Try.prog 53 #[.slice a n c, .int .i64 (x : Int)] w fun e w' => ∃ a' c', e = .returned (.slice a' (n + 2) c') ∧ w'.ownsRow base 5 1 (.slice a' (n + 2) c') (n + 2) (bcells (xs ++ Pk.w2 x)) ∧ Below base w w' := by
  have hs : ∀ t, binOp .shr t (.int .i64 (x : Int)) (.int .u64 8) = pure (.int .i64 ((x / 2 ^ 8 : Nat) : Int)) := fun t => i64_shr t x 8 (by decide)
  have e1 := u8_of (x / 2 ^ 8)
  have e2 := u8_of x
  have Hw := Lib.hid (show bcells (Pk.w2 x) = [.int .u8 ((UInt8.ofNat (x / 2 ^ 8)).toNat : Int), .int .u8 ((UInt8.ofNat x).toNat : Int)] by unfold Pk.w2 bcells; rfl)
  have hq : x / 2 ^ 8 ≤ 9223372036854775807 := by omega
  generalize x / 2 ^ 8 = q at *
  generalize (UInt8.ofNat q).toNat = r at *
  generalize (UInt8.ofNat x).toNat = s at *
  go_enter Try.func53, Try.ntmps53
  go_wp2_with (at_builtin; refine wpL_append8 _ rfl _ _ rfl base _ n _ _ rfl (ho.alloc _) _ 2 _ [.int .u8 (r : Int), .int .u8 (s : Int)] rfl rfl (by intro h; cases h) (fun ad h => by cases h; exact news_row _ _ _) (by simp [Value.oneCell']) (by omega) (by simp; omega) ?_)
  intro a' c' w' ho' hg
  have hB : Below base w w' := below_own ((Below.refl _ _).alloc hb _) (ho.alloc _) hg (Nat.le_refl _) (by simp; omega)
  have Ho := Lib.hid ho'
  clear ho' hg
  go_wp2
  go_ret
  exact ⟨a', c', rfl, by rw [bcells_append, Hw.out]; exact Ho.out, hB⟩
end Go.Proofs.Ytfipnkledifilaa
