/- The contract of the reference's AddrText. -/
import Derived.Test.YthlagpmacnijfaaGreatDoorAddrRef1
import Derived.Test.YthlagpmacnijfaaGreatDoorAddrPlain2
import Derived.Deep.RegionHeld3
namespace Go.Proofs.YthlagpmacnijfaaGreatDoor
open Go.RowKit

theorem dec_len (k : Nat) : ∀ u : Nat, u < 10 ^ (k + 1) → (Lib.decDigits u).length ≤ k + 1 := by
  induction k with
  | zero => intro u hu; rw [Lib.decDigits, dif_pos (by omega)]; simp
  | succ k ih =>
    intro u hu
    by_cases h : u < 10
    · rw [Lib.decDigits, dif_pos h]; simp
    · rw [Lib.decDigits, dif_neg h, List.length_append, List.length_singleton]
      have := ih (u / 10) (by rw [Nat.pow_succ] at hu; omega)
      omega
theorem dec_short (u : Nat) (h : u < 4294967296) : (Lib.decDigits u).length ≤ 10 := dec_len 9 u (by omega)
theorem itoa_from (u : Nat) (hu : u < 4294967296) (w0 W : World) (hB : Below w0.heap.size w0 W) (hT : PowTab w0) :
    Calls Tryz.prog 30 #[.int .i64 (u : Int)] W fun e W' => ∃ t : ByteArray, e = .returned (.string t) ∧ Hid (t.data.toList = Lib.decDigits u) ∧ t.size ≤ 10 ∧ Below w0.heap.size w0 W' := by
  refine (lib_Itoa (u : Int) W (by omega) (by omega) (hT.below hB)).mono ?_
  rintro e W' ⟨rfl, hb⟩
  have e : Lib.itoa (u : Int) = Lib.decDigits u := by unfold Lib.itoa; rw [if_neg (by omega), Int.toNat_natCast]
  rw [e]
  refine ⟨_, rfl, Lib.hid rfl, ?_, hB.trans (hb.mono hB.size)⟩
  show (Lib.decDigits u).toArray.size ≤ 10
  rw [List.size_toArray]
  exact dec_short u hu
theorem addr_glue {t1 t2 t3 t4 : ByteArray} {a : Nat} (h1 : t1.data.toList = Lib.decDigits (a / 16777216)) (h2 : t2.data.toList = Lib.decDigits (a / 65536 % 256)) (h3 : t3.data.toList = Lib.decDigits (a / 256 % 256)) (h4 : t4.data.toList = Lib.decDigits (a % 256)) :
    t1 ++ (⟨#[46]⟩ : ByteArray) ++ t2 ++ ⟨#[46]⟩ ++ t3 ++ ⟨#[46]⟩ ++ t4 = ⟨(Ad.text a).toArray⟩ := by
  apply WideShapes.bytes_inj
  simp only [ByteArray.data_append, Array.toList_append, h1, h2, h3, h4]
  unfold Ad.text
  simp only [List.append_assoc, List.cons_append, List.nil_append]
set_option maxHeartbeats 400000 in
theorem ref_AddrText (a : Nat) (ha : a < 4294967296) (w : World) (hT : PowTab w) :
    Calls Tryz.prog 59 #[.int .u32 (a : Int)] w fun e w' => e = .returned (.string ⟨(Ad.text a).toArray⟩) ∧ Below w.heap.size w w' := by
  have HT := Lib.hid hT
  have hB : Below w.heap.size w w := Below.refl _ _
  clear hT
  go_enter Tryz.func59, Tryz.ntmps59
  go_wp2_with fail
  refine (itoa_from (a / 16777216) (by omega) w _ hB HT.out).mono ?_
  rintro e w1 ⟨t1, rfl, H1, z1, hB1⟩
  go_wp2_with fail
  refine (itoa_from (a / 65536 % 256) (by omega) w _ hB1 HT.out).mono ?_
  rintro e w2 ⟨t2, rfl, H2, z2, hB2⟩
  go_wp2_with fail
  refine (itoa_from (a / 256 % 256) (by omega) w _ hB2 HT.out).mono ?_
  rintro e w3 ⟨t3, rfl, H3, z3, hB3⟩
  go_wp2_with fail
  refine (itoa_from (a % 256) (by omega) w _ hB3 HT.out).mono ?_
  rintro e w4 ⟨t4, rfl, H4, z4, hB4⟩
  go_wp2
  go_ret
  exact ⟨by rw [addr_glue H1.out H2.out H3.out H4.out]; rfl, hB4⟩
end Go.Proofs.YthlagpmacnijfaaGreatDoor
