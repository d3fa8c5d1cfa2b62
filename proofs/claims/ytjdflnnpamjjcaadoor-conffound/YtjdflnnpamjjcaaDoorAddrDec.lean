/- Numbers of a text's length; how the parts of an address are glued. -/
import Derived.Test.YtjdflnnpamjjcaaDoorAddrRef1
import Derived.Test.YtjdflnnpamjjcaaDoorAddrPlain2
import Derived.Deep.RegionHeld3
namespace Go.Proofs.YtjdflnnpamjjcaaDoor
open Go.RowKit

theorem dec_len (k : Nat) : ∀ u : Nat, u < 10 ^ (k + 1) → (Lib.decDigits u).length ≤ k + 1 := by
  induction k with
  | zero => intro u hu; rw [Lib.decDigits, dif_pos (by omega)]; simp
  | succ k ih =>
    intro u hu
    by_cases h : u < 10
    · rw [Lib.decDigits, dif_pos h]; simp
    · rw [Lib.decDigits, dif_neg h, List.length_append, List.length_singleton]
      have := ih (u / 10) (by rw [Nat.pow_succ] at hu; omega)
      omega
theorem dec_short (u : Nat) (h : u < 4294967296) : (Lib.decDigits u).length ≤ 10 := dec_len 9 u (by omega)
theorem itoa_from (u : Nat) (hu : u < 4294967296) (w0 W : World) (hB : Below w0.heap.size w0 W) (hT : PowTab w0) :
    Calls Tryd.prog 63 #[.int .i64 (u : Int)] W fun e W' => ∃ t : ByteArray, e = .returned (.string t) ∧ Hid (t.data.toList = Lib.decDigits u) ∧ t.size ≤ 10 ∧ Below w0.heap.size w0 W' := by
  refine (lib_Itoa (u : Int) W (by omega) (by omega) (hT.below hB)).mono ?_
  rintro e W' ⟨rfl, hb⟩
  have e : Lib.itoa (u : Int) = Lib.decDigits u := by unfold Lib.itoa; rw [if_neg (by omega), Int.toNat_natCast]
  rw [e]
  refine ⟨_, rfl, Lib.hid rfl, ?_, hB.trans (hb.mono hB.size)⟩
  show (Lib.decDigits u).toArray.size ≤ 10
  rw [List.size_toArray]
  exact dec_short u hu
theorem addr_glue {t1 t2 t3 t4 : ByteArray} {a : Nat} (h1 : t1.data.toList = Lib.decDigits (a / 16777216)) (h2 : t2.data.toList = Lib.decDigits (a / 65536 % 256)) (h3 : t3.data.toList = Lib.decDigits (a / 256 % 256)) (h4 : t4.data.toList = Lib.decDigits (a % 256)) :
    t1 ++ (⟨#[46]⟩ : ByteArray) ++ t2 ++ ⟨#[46]⟩ ++ t3 ++ ⟨#[46]⟩ ++ t4 = ⟨(Ad.text a).toArray⟩ := by
  apply WideShapes.bytes_inj
  simp only [ByteArray.data_append, Array.toList_append, h1, h2, h3, h4]
  unfold Ad.text
  simp only [List.append_assoc, List.cons_append, List.nil_append]
end Go.Proofs.YtjdflnnpamjjcaaDoor
