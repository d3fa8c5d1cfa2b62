/- The contracts of sha.word and sha.schedule. -/
import Derived.Test.YthknkfiofdfogaaDoorArr
import Derived.IntWalk
namespace Go.Proofs.YthknkfiofdfogaaDoor
open Go.RowKit

theorem mul16 (a b : Nat) : (a * 256 + b) * 65536 = a * 16777216 + b * 65536 := by rw [Nat.add_mul, Nat.mul_assoc]
theorem mul8 (a b c : Nat) : (a * 65536 + b * 256 + c) * 256 = a * 16777216 + b * 65536 + c * 256 := by rw [Nat.add_mul, Nat.add_mul, Nat.mul_assoc, Nat.mul_assoc]
theorem or4 (a b c d : Nat) (hb : b < 256) (hc : c < 256) (hd : d < 256) : ((a * 16777216 ||| b * 65536) ||| c * 256) ||| d = a * 16777216 + b * 65536 + c * 256 + d := by
  have e1 : a * 16777216 ||| b * 65536 = a * 16777216 + b * 65536 := by
    have := Nat.shiftLeft_add_eq_or_of_lt (i := 24) (b := b * 65536) (by omega) a
    rw [Nat.shiftLeft_eq] at this
    exact this.symm
  have e2 : a * 16777216 + b * 65536 ||| c * 256 = a * 16777216 + b * 65536 + c * 256 := by
    have := Nat.shiftLeft_add_eq_or_of_lt (i := 16) (b := c * 256) (by omega) (a * 256 + b)
    rw [Nat.shiftLeft_eq] at this; simp only [Nat.reducePow] at this; rw [mul16] at this
    exact this.symm
  have e3 : a * 16777216 + b * 65536 + c * 256 ||| d = a * 16777216 + b * 65536 + c * 256 + d := by
    have := Nat.shiftLeft_add_eq_or_of_lt (i := 8) (b := d) (by omega) (a * 65536 + b * 256 + c)
    rw [Nat.shiftLeft_eq] at this; simp only [Nat.reducePow] at this; rw [mul8] at this
    exact this.symm
  rw [e1, e2, e3]
theorem or_word (a b c d : UInt8) : ((BitVec.ofNat 32 a.toNat <<< 24 ||| BitVec.ofNat 32 b.toNat <<< 16) ||| BitVec.ofNat 32 c.toNat <<< 8) ||| BitVec.ofNat 32 d.toNat = Sh.word a b c d := by
  have ha := a.toNat_lt
  have hb := b.toNat_lt
  have hc := c.toNat_lt
  have hd := d.toNat_lt
  apply BitVec.eq_of_toNat_eq
  have s : ∀ x n : Nat, x * 2 ^ n < 4294967296 → x < 4294967296 → (BitVec.ofNat 32 x <<< n).toNat = x * 2 ^ n := by
    intro x n h h'
    rw [BitVec.toNat_shiftLeft, BitVec.toNat_ofNat, Nat.shiftLeft_eq, Nat.mod_eq_of_lt (show x < 2 ^ 32 from h'), Nat.mod_eq_of_lt (show x * 2 ^ n < 2 ^ 32 from h)]
  rw [BitVec.toNat_or, BitVec.toNat_or, BitVec.toNat_or, s _ 24 (by omega) (by omega), s _ 16 (by omega) (by omega), s _ 8 (by omega) (by omega), BitVec.toNat_ofNat, Nat.mod_eq_of_lt (show d.toNat < 2 ^ 32 by omega)]
  rw [show a.toNat * 2 ^ 24 = a.toNat * 16777216 from rfl, show b.toNat * 2 ^ 16 = b.toNat * 65536 from rfl, show c.toNat * 2 ^ 8 = c.toNat * 256 from rfl, or4 _ _ _ _ hb hc hd]
  unfold Sh.word
  rw [BitVec.toNat_ofNat, Nat.mod_eq_of_lt (by omega)]
theorem run_convert_byte (c : UInt8) (w : World) : (convert 5 69 (.int .u8 (c.toNat : Int))).run Tryd.prog w = .ok (U (BitVec.ofNat 32 c.toNat)) w := by
  have hc := c.toNat_lt
  have := run_convert_int (P := Tryd.prog) w 5 69 .u8 (c.toNat : Int) (by rw [Tryd.underlying5]; rfl) (by rw [Program.intKind, Tryd.underlying69])
  rw [this, Program.intKind, Tryd.underlying69, U_def, wrap_word, BitVec.toNat_ofNat]

set_option maxHeartbeats 400000 in
theorem sha_word (b off n c k : Nat) (bs : List UInt8) (w : World) (hn : n ≤ 9223372036854775807) (hl : bs.length = n) (hk : k + 3 < bs.length) (hc : ∀ i (h : i < bs.length), w.cell? ⟨b, off + i, none⟩ = some (.int .u8 (bs[i].toNat : Int))) :
    Calls Tryd.prog 66 #[.slice (some ⟨b, off, none⟩) n c, .int .i64 (k : Int)] w fun e w' => e = .returned (U (Sh.word bs[k] bs[k + 1] bs[k + 2] bs[k + 3])) ∧ ∃ m, w' = w.drewN m := by
  have c0 := hc k (by omega)
  have c1 := hc (k + 1) (by omega)
  have c2 := hc (k + 2) (by omega)
  have c3 := hc (k + 3) (by omega)
  have Hw := Lib.hid (or_word bs[k] bs[k + 1] bs[k + 2] bs[k + 3])
  generalize bs[k] = x0 at *
  generalize bs[k + 1] = x1 at *
  generalize bs[k + 2] = x2 at *
  generalize bs[k + 3] = x3 at *
  have v0 := run_convert_byte x0
  have v1 := run_convert_byte x1
  have v2 := run_convert_byte x2
  have v3 := run_convert_byte x3
  have b0 : (k : Int) < (n : Int) := by omega
  have b1 : (k : Int) + 1 < (n : Int) := by omega
  have b2 : (k : Int) + 2 < (n : Int) := by omega
  have b3 : (k : Int) + 3 < (n : Int) := by omega
  have y1 : IntKind.i64.wrap ((k : Int) + 1) = (k : Int) + 1 := IntWalk.i64_in _ (by omega)
  have y2 : IntKind.i64.wrap ((k : Int) + 2) = (k : Int) + 2 := IntWalk.i64_in _ (by omega)
  have y3 : IntKind.i64.wrap ((k : Int) + 3) = (k : Int) + 3 := IntWalk.i64_in _ (by omega)
  have p1 : 0 ≤ (k : Int) + 1 := by omega
  have p2 : 0 ≤ (k : Int) + 2 := by omega
  have p3 : 0 ≤ (k : Int) + 3 := by omega
  have t1 : ((k : Int) + 1).toNat = k + 1 := by omega
  have t2 : ((k : Int) + 2).toNat = k + 2 := by omega
  have t3 : ((k : Int) + 3).toNat = k + 3 := by omega
  clear hc hl hk
  go_enter Tryd.func66, Tryd.ntmps66
  go_wp2_with fail
  go_quiet (fail)
  go_wp2
  go_ret
  exact ⟨by rw [← Hw.out]; rfl, _, rfl⟩
end Go.Proofs.YthknkfiofdfogaaDoor
