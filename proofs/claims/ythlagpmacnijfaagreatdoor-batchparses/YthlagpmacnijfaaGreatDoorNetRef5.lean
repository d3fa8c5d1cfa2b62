/- The contracts of the reference's NetText and NetParsed. -/
import Derived.Test.YthlagpmacnijfaaGreatDoorNetPlain2
import Derived.Test.YthlagpmacnijfaaGreatDoorNetRef1
import Derived.Test.YthlagpmacnijfaaGreatDoorAddrRef3
import Derived.Deep.RegionHeld3
namespace Go.Proofs.YthlagpmacnijfaaGreatDoor
open Go.RowKit

theorem addr_text_short (a : Nat) (h : a < 4294967296) : (Ad.text a).length ≤ 50 := by
  have h1 := dec_len 2 (a / 16777216) (by omega)
  have h2 := dec_len 2 (a / 65536 % 256) (by omega)
  have h3 := dec_len 2 (a / 256 % 256) (by omega)
  have h4 := dec_len 2 (a % 256) (by omega)
  unfold Ad.text
  simp only [List.length_append, List.length_cons]
  omega
theorem net_glue (a b : List UInt8) : strOf a ++ (⟨#[47]⟩ : ByteArray) ++ strOf b = strOf (a ++ 47 :: b) := by
  apply WideShapes.bytes_inj
  simp only [ByteArray.data_append, Array.toList_append, strOf]
  simp
set_option maxRecDepth 20000 in
set_option maxHeartbeats 800000 in
theorem ref_NetText (a : Nat) (b : Int) (w : World) (ha : a < 4294967296) (hT : PowTab w) :
    Calls Tryz.prog 35 #[netV a b] w fun e w' => e = .returned (.tuple #[.string (strOf (Nt.textOut a b)), .int .i64 (Nt.err a b : Int)]) ∧ Below w.heap.size w w' := by
  obtain ⟨w1, hw1⟩ : ∃ w1, w1 = w.alloc (.cells #[.int .u32 (a : Int), .int .i64 b] 26) := ⟨_, rfl⟩
  have hg1 : w1.heap[w.heap.size]? = some (.cells #[.int .u32 (a : Int), .int .i64 b] 26 (0, 0)) := by rw [hw1]; exact heap_alloc_last w _
  have hA : Below w.heap.size w w1 := by rw [hw1]; exact (Below.refl _ _).alloc (Nat.le_refl _) _
  have hz1 : w1.heap.size = w.heap.size + 1 := by rw [hw1]; simp
  have HF := Lib.hid (fun W => ref_NetFault a b W ha)
  unfold netV at HF ⊢
  have Hg1 := Lib.hid hg1
  have HT := Lib.hid (hT.below hA)
  clear hg1 hT
  obtain ⟨c0, c1⟩ := net_cells Hg1.out (Below.refl _ _)
  by_cases he : Nt.err a b = 0
  · obtain ⟨b0, b1, _⟩ := Nt.err_zero he
    obtain ⟨n, rfl⟩ : ∃ n : Nat, b = (n : Int) := ⟨b.toNat, by omega⟩
    have Ht : Hid (Nt.textOut a (n : Int) = Nt.text a n) := Lib.hid (by unfold Nt.textOut; rw [if_pos he, Int.toNat_natCast])
    rw [he] at HF
    rw [he]
    clear he
    go_enter Tryz.func35, Tryz.ntmps35
    go_wp2_with fail
    rw [← hw1]
    refine (HF.out _).mono ?_
    rintro e w2 ⟨rfl, hb2⟩
    clear c0 c1 hw1
    have HC : Hid (∀ W, Below w1.heap.size w1 W → W.cell? ⟨w.heap.size, 0, none⟩ = some (.int .u32 (a : Int)) ∧ W.cell? ⟨w.heap.size, 1, none⟩ = some (.int .i64 (n : Int)) ∧ Below w1.heap.size w1 W) := Lib.hid fun W hW => ⟨(net_cells Hg1.out hW).1, (net_cells Hg1.out hW).2, hW⟩
    have HX : Hid (∀ W, (W.cell? ⟨w.heap.size, 0, none⟩ = some (.int .u32 (a : Int)) ∧ W.cell? ⟨w.heap.size, 1, none⟩ = some (.int .i64 (n : Int)) ∧ Below w1.heap.size w1 W) → Calls Tryz.prog 59 #[.int .u32 (a : Int)] W fun e W' => e = .returned (.string (strOf (Ad.text a))) ∧ (W'.cell? ⟨w.heap.size, 0, none⟩ = some (.int .u32 (a : Int)) ∧ W'.cell? ⟨w.heap.size, 1, none⟩ = some (.int .i64 (n : Int)) ∧ Below w1.heap.size w1 W')) :=
      Lib.hid fun W hW => (ref_AddrText a ha W (HT.out.below hW.2.2)).mono fun e W' ⟨he, hb⟩ => ⟨he, HC.out W' (hW.2.2.trans (hb.mono hW.2.2.size))⟩
    have HI : Hid (∀ W, (W.cell? ⟨w.heap.size, 0, none⟩ = some (.int .u32 (a : Int)) ∧ W.cell? ⟨w.heap.size, 1, none⟩ = some (.int .i64 (n : Int)) ∧ Below w1.heap.size w1 W) → Calls Tryz.prog 30 #[.int .i64 (n : Int)] W fun e W' => e = .returned (.string (strOf (Lib.decDigits n))) ∧ (W'.cell? ⟨w.heap.size, 0, none⟩ = some (.int .u32 (a : Int)) ∧ W'.cell? ⟨w.heap.size, 1, none⟩ = some (.int .i64 (n : Int)) ∧ Below w1.heap.size w1 W')) :=
      Lib.hid fun W hW => (lib_Itoa (n : Int) W (by omega) (by omega) (HT.out.below hW.2.2)).mono fun e W' ⟨he, hb⟩ => ⟨he.trans (by unfold Lib.itoa; rw [if_neg (by omega), Int.toNat_natCast]; rfl), HC.out W' (hW.2.2.trans (hb.mono hW.2.2.size))⟩
    have z1 : (strOf (Ad.text a)).size ≤ 100 := by rw [strOf_size]; have := addr_text_short a ha; omega
    have z2 : (strOf (Lib.decDigits n)).size ≤ 100 := by rw [strOf_size]; have := dec_short n (by omega); omega
    have HG : Hid (strOf (Ad.text a) ++ (⟨#[47]⟩ : ByteArray) ++ strOf (Lib.decDigits n) = strOf (Nt.text a n)) := Lib.hid (net_glue _ _)
    generalize strOf (Ad.text a) = X at *
    generalize strOf (Lib.decDigits n) = Y at *
    have sz1 : (X ++ (⟨#[47]⟩ : ByteArray)).size = X.size + 1 := by rw [ByteArray.size_append]; rfl
    have n1 : (X.size + (⟨#[47]⟩ : ByteArray).size > 9223372036854775807) = False := eq_false (by show ¬ (X.size + 1 > _); omega)
    have n2 : ((X ++ (⟨#[47]⟩ : ByteArray)).size + Y.size > 9223372036854775807) = False := eq_false (by rw [sz1]; omega)
    have n3 : (9223372036854775807 < X.size + 1) = False := eq_false (by omega)
    have n4 : (9223372036854775807 < X.size + 1 + Y.size) = False := eq_false (by omega)
    obtain ⟨c0, c1, _⟩ := HC.out w2 hb2
    clear z1 z2
    rw [show ((0 : Nat) : Int) = (0 : Int) from rfl]
    go_wp2_with fail
    go_region_held3 (fun W => W.cell? ⟨w.heap.size, 0, none⟩ = some (.int .u32 (a : Int)) ∧ W.cell? ⟨w.heap.size, 1, none⟩ = some (.int .i64 (n : Int)) ∧ Below w1.heap.size w1 W) (first | assumption | (exact ⟨c0, c1, hb2.drew⟩))
      (first
        | (go_at_call 59; refine (HX.out _ (by first | assumption | exact ⟨c0, c1, hb2.drew⟩)).mono ?_; rintro e w3 ⟨rfl, hS3⟩)
        | (go_at_call 30; refine (HI.out _ (by first | assumption | exact ⟨c0, c1, hb2.drew⟩)).mono ?_; rintro e w4 ⟨rfl, hS4⟩))
    have hB4 := hA.trans (hS4.2.2.mono (by omega))
    clear hS3 hS4 c0 c1
    go_wp2
    go_ret2
    exact ⟨by rw [Ht.out, ← HG.out]; rfl, hB4⟩
  · have Ht : Hid (Nt.textOut a b = []) := Lib.hid (by unfold Nt.textOut; rw [if_neg he])
    have hn : ((Nt.err a b : Int) != 0) = true := by simpa using he
    clear he
    generalize Nt.err a b = r at *
    go_enter Tryz.func35, Tryz.ntmps35
    go_wp2_with fail
    rw [← hw1]
    refine (HF.out _).mono ?_
    rintro e w2 ⟨rfl, hb2⟩
    have hB2 := hA.trans (hb2.mono (by omega))
    clear c0 c1
    go_wp2
    go_ret2
    exact ⟨by rw [Ht.out]; rfl, hB2⟩
end Go.Proofs.YthlagpmacnijfaaGreatDoor
