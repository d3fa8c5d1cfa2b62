/- The contract of the laws' helper Nets: eleven networks. -/
import Derived.Test.YtldfamdjdkaloaaNetMem
namespace Go.Proofs.Ytldfamdjdkaloaa
open Go.RowKit

/-- The networks that are used. -/
def Nt.used : List (Nat × Nat) := [(0, 0), (167772160, 8), (167837696, 16), (167838208, 24), (167838211, 32), (167903232, 16), (167772160, 9), (3232235520, 16), (3232235776, 24), (2147483648, 1), (167838336, 25)]
def usedCells : Array Value := (Nt.used.flatMap fun x => [Value.int .u32 (x.1 : Int), Value.int .i64 (x.2 : Int)]).toArray
theorem usedCells_eq : usedCells = #[.int .u32 0, .int .i64 0, .int .u32 167772160, .int .i64 8, .int .u32 167837696, .int .i64 16, .int .u32 167838208, .int .i64 24, .int .u32 167838211, .int .i64 32, .int .u32 167903232, .int .i64 16, .int .u32 167772160, .int .i64 9, .int .u32 3232235520, .int .i64 16, .int .u32 3232235776, .int .i64 24, .int .u32 2147483648, .int .i64 1, .int .u32 167838336, .int .i64 25] := rfl
theorem ip_bits (a b c d : Nat) (ha : a < 256) (hb : b < 256) (hc : c < 256) (hd : d < 256) :
    bits .or .u32 (bits .or .u32 (bits .or .u32 ((a : Int) * 16777216) ((b : Int) * 65536)) ((c : Int) * 256)) (d : Int) = ((a * 16777216 + b * 65536 + c * 256 + d : Nat) : Int) := by
  have key : ∀ (x y : Nat) (j : Nat), j ≤ 24 → x * 2 ^ j < 4294967296 → y < 2 ^ j → bits .or .u32 ((x * 2 ^ j : Nat) : Int) (y : Int) = ((x * 2 ^ j + y : Nat) : Int) := by
    intro x y j hj hx hy
    show IntKind.u32.wrap ((BitVec.ofInt 32 ((x * 2 ^ j : Nat) : Int) ||| BitVec.ofInt 32 (y : Int)).toNat : Int) = _
    have hp : 2 ^ j ≤ 2 ^ 24 := Nat.pow_le_pow_right (by decide) hj
    have ho : x * 2 ^ j ||| y = x * 2 ^ j + y := by
      have := Nat.two_pow_add_eq_or_of_lt (i := j) (b := y) hy x
      rw [Nat.mul_comm] at this
      exact this.symm
    have hl : x * 2 ^ j ||| y < 2 ^ 32 := Nat.or_lt_two_pow hx (by omega)
    rw [BitVec.toNat_or, ofInt_w32 _ hx, ofInt_w32 _ (by omega), IntKind.wrap_u32]
    rw [ho] at hl ⊢
    generalize x * 2 ^ j + y = z at *
    omega
  have k1 := key a (b * 65536) 24 (by omega) (by omega) (by omega)
  have k2 := key (a * 256 + b) (c * 256) 16 (by omega) (by omega) (by omega)
  have k3 := key (a * 65536 + b * 256 + c) d 8 (by omega) (by omega) (by omega)
  rw [show (a : Int) * 16777216 = ((a * 2 ^ 24 : Nat) : Int) by omega, show (b : Int) * 65536 = ((b * 65536 : Nat) : Int) by omega, k1]
  rw [show a * 2 ^ 24 + b * 65536 = (a * 256 + b) * 2 ^ 16 by omega, show (c : Int) * 256 = ((c * 256 : Nat) : Int) by omega, k2]
  rw [show (a * 256 + b) * 2 ^ 16 + c * 256 = (a * 65536 + b * 256 + c) * 2 ^ 8 by omega, k3]
set_option maxHeartbeats 400000 in
theorem keep_ip (a b c d : Nat) (w : World) (ha : a < 256) (hb : b < 256) (hc : c < 256) (hd : d < 256) :
    Calls Try.prog 69 #[.int .u32 (a : Int), .int .u32 (b : Int), .int .u32 (c : Int), .int .u32 (d : Int)] w fun e w' => e = .returned (.int .u32 ((a * 16777216 + b * 65536 + c * 256 + d : Nat) : Int)) ∧ w' = w := by
  have Hk := Lib.hid (ip_bits a b c d ha hb hc hd)
  go_enter Try.func69, Try.ntmps69
  go_wp2
  go_ret
  rw [← Hk.out]
  exact ⟨rfl, rfl⟩

set_option maxRecDepth 20000 in
set_option maxHeartbeats 1600000 in
theorem keep_Nets (w : World) :
    Calls Try.prog 55 #[] w fun e w' => e = .returned (.slice (some ⟨w.heap.size, 0, none⟩) 11 11) ∧ w' = w.alloc (.cells usedCells 28) := by
  rw [usedCells_eq]
  have H0 : Hid (∀ W, Calls Try.prog 69 #[.int .u32 10, .int .u32 0, .int .u32 0, .int .u32 0] W fun e w' => e = .returned (.int .u32 167772160) ∧ w' = W) := Lib.hid (fun W => keep_ip 10 0 0 0 W (by decide) (by decide) (by decide) (by decide))
  have H1 : Hid (∀ W, Calls Try.prog 69 #[.int .u32 10, .int .u32 1, .int .u32 0, .int .u32 0] W fun e w' => e = .returned (.int .u32 167837696) ∧ w' = W) := Lib.hid (fun W => keep_ip 10 1 0 0 W (by decide) (by decide) (by decide) (by decide))
  have H2 : Hid (∀ W, Calls Try.prog 69 #[.int .u32 10, .int .u32 1, .int .u32 2, .int .u32 0] W fun e w' => e = .returned (.int .u32 167838208) ∧ w' = W) := Lib.hid (fun W => keep_ip 10 1 2 0 W (by decide) (by decide) (by decide) (by decide))
  have H3 : Hid (∀ W, Calls Try.prog 69 #[.int .u32 10, .int .u32 1, .int .u32 2, .int .u32 3] W fun e w' => e = .returned (.int .u32 167838211) ∧ w' = W) := Lib.hid (fun W => keep_ip 10 1 2 3 W (by decide) (by decide) (by decide) (by decide))
  have H4 : Hid (∀ W, Calls Try.prog 69 #[.int .u32 10, .int .u32 2, .int .u32 0, .int .u32 0] W fun e w' => e = .returned (.int .u32 167903232) ∧ w' = W) := Lib.hid (fun W => keep_ip 10 2 0 0 W (by decide) (by decide) (by decide) (by decide))
  have H5 : Hid (∀ W, Calls Try.prog 69 #[.int .u32 10, .int .u32 0, .int .u32 0, .int .u32 0] W fun e w' => e = .returned (.int .u32 167772160) ∧ w' = W) := Lib.hid (fun W => keep_ip 10 0 0 0 W (by decide) (by decide) (by decide) (by decide))
  have H6 : Hid (∀ W, Calls Try.prog 69 #[.int .u32 192, .int .u32 168, .int .u32 0, .int .u32 0] W fun e w' => e = .returned (.int .u32 3232235520) ∧ w' = W) := Lib.hid (fun W => keep_ip 192 168 0 0 W (by decide) (by decide) (by decide) (by decide))
  have H7 : Hid (∀ W, Calls Try.prog 69 #[.int .u32 192, .int .u32 168, .int .u32 1, .int .u32 0] W fun e w' => e = .returned (.int .u32 3232235776) ∧ w' = W) := Lib.hid (fun W => keep_ip 192 168 1 0 W (by decide) (by decide) (by decide) (by decide))
  have H8 : Hid (∀ W, Calls Try.prog 69 #[.int .u32 128, .int .u32 0, .int .u32 0, .int .u32 0] W fun e w' => e = .returned (.int .u32 2147483648) ∧ w' = W) := Lib.hid (fun W => keep_ip 128 0 0 0 W (by decide) (by decide) (by decide) (by decide))
  have H9 : Hid (∀ W, Calls Try.prog 69 #[.int .u32 10, .int .u32 1, .int .u32 2, .int .u32 128] W fun e w' => e = .returned (.int .u32 167838336) ∧ w' = W) := Lib.hid (fun W => keep_ip 10 1 2 128 W (by decide) (by decide) (by decide) (by decide))
  go_enter Try.func55, Try.ntmps55
  go_wp2_with fail
  refine (H0.out _).mono ?_
  rintro e w0 ⟨rfl, hw⟩
  subst hw
  go_wp2_with fail
  refine (H1.out _).mono ?_
  rintro e w1 ⟨rfl, hw⟩
  subst hw
  go_wp2_with fail
  refine (H2.out _).mono ?_
  rintro e w2 ⟨rfl, hw⟩
  subst hw
  go_wp2_with fail
  refine (H3.out _).mono ?_
  rintro e w3 ⟨rfl, hw⟩
  subst hw
  go_wp2_with fail
  refine (H4.out _).mono ?_
  rintro e w4 ⟨rfl, hw⟩
  subst hw
  go_wp2_with fail
  refine (H5.out _).mono ?_
  rintro e w5 ⟨rfl, hw⟩
  subst hw
  go_wp2_with fail
  refine (H6.out _).mono ?_
  rintro e w6 ⟨rfl, hw⟩
  subst hw
  go_wp2_with fail
  refine (H7.out _).mono ?_
  rintro e w7 ⟨rfl, hw⟩
  subst hw
  go_wp2_with fail
  refine (H8.out _).mono ?_
  rintro e w8 ⟨rfl, hw⟩
  subst hw
  go_wp2_with fail
  refine (H9.out _).mono ?_
  rintro e w9 ⟨rfl, hw⟩
  subst hw
  go_wp2
  go_ret
  exact ⟨rfl, rfl⟩
end Go.Proofs.Ytldfamdjdkaloaa
