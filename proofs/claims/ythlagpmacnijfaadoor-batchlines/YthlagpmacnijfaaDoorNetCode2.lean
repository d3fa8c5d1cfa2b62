/- The contracts of the program's net.Text and net.Parse. -/
import Derived.Test.YthlagpmacnijfaaDoorNetRef5
import Derived.Test.YthlagpmacnijfaaDoorNetPlain3
import Derived.Test.YthlagpmacnijfaaDoorNetCode1
import Derived.Test.YthlagpmacnijfaaDoorCodeTabs
import Derived.Test.YthlagpmacnijfaaDoorAddrCode3
import Derived.Test.YthlagpmacnijfaaDoorAddrCode4
import Derived.Test.YthlagpmacnijfaaDoorAddrFold
namespace Go.Proofs.YthlagpmacnijfaaDoor
open Go.RowKit

set_option maxRecDepth 20000 in
set_option maxHeartbeats 800000 in
theorem net_Text (a : Nat) (b : Int) (w : World) (ha : a < 4294967296) (l0 : -9223372036854775808 ≤ b) (l1 : b ≤ 9223372036854775807) (hC : CodeTabs w) :
    Calls Tryd.prog 54 #[netV a b] w fun e w' => e = .returned (.tuple #[.string (strOf (Nt.textOut a b)), .int .i64 (Nt.err a b : Int)]) ∧ Below w.heap.size w w' := by
  have hT := hC.1
  clear hC
  obtain ⟨w1, hw1⟩ : ∃ w1, w1 = w.alloc (.cells #[.int .u32 (a : Int), .int .i64 b] 24) := ⟨_, rfl⟩
  have hg1 : w1.heap[w.heap.size]? = some (.cells #[.int .u32 (a : Int), .int .i64 b] 24 (0, 0)) := by rw [hw1]; exact heap_alloc_last w _
  have hA : Below w.heap.size w w1 := by rw [hw1]; exact (Below.refl _ _).alloc (Nat.le_refl _) _
  have hz1 : w1.heap.size = w.heap.size + 1 := by rw [hw1]; simp
  have HF := Lib.hid (fun W => net_Check a b W ha l0 l1)
  unfold netV at HF ⊢
  have Hg1 := Lib.hid hg1
  have HT := Lib.hid (hT.below hA)
  clear hg1 hT
  obtain ⟨c0, c1⟩ := net_cells Hg1.out (Below.refl _ _)
  by_cases he : Nt.err a b = 0
  · obtain ⟨b0, b1, _⟩ := Nt.err_zero he
    obtain ⟨n, rfl⟩ : ∃ n : Nat, b = (n : Int) := ⟨b.toNat, by omega⟩
    have Ht : Hid (Nt.textOut a (n : Int) = Nt.text a n) := Lib.hid (by unfold Nt.textOut; rw [if_pos he, Int.toNat_natCast])
    rw [he] at HF
    rw [he]
    clear he
    go_enter Tryd.func54, Tryd.ntmps54
    go_wp2_with fail
    rw [← hw1]
    refine (HF.out _).mono ?_
    rintro e w2 ⟨rfl, hb2⟩
    clear c0 c1 hw1
    have HC : Hid (∀ W, Below w1.heap.size w1 W → W.cell? ⟨w.heap.size, 0, none⟩ = some (.int .u32 (a : Int)) ∧ W.cell? ⟨w.heap.size, 1, none⟩ = some (.int .i64 (n : Int)) ∧ Below w1.heap.size w1 W) := Lib.hid fun W hW => ⟨(net_cells Hg1.out hW).1, (net_cells Hg1.out hW).2, hW⟩
    have HX : Hid (∀ W, (W.cell? ⟨w.heap.size, 0, none⟩ = some (.int .u32 (a : Int)) ∧ W.cell? ⟨w.heap.size, 1, none⟩ = some (.int .i64 (n : Int)) ∧ Below w1.heap.size w1 W) → Calls Tryd.prog 76 #[.int .u32 (a : Int)] W fun e W' => e = .returned (.string (strOf (Ad.text a))) ∧ (W'.cell? ⟨w.heap.size, 0, none⟩ = some (.int .u32 (a : Int)) ∧ W'.cell? ⟨w.heap.size, 1, none⟩ = some (.int .i64 (n : Int)) ∧ Below w1.heap.size w1 W')) :=
      Lib.hid fun W hW => (addr_Text0 a ha W (HT.out.below hW.2.2)).mono fun e W' ⟨he, hb⟩ => ⟨he, HC.out W' (hW.2.2.trans (hb.mono hW.2.2.size))⟩
    have HI : Hid (∀ W, (W.cell? ⟨w.heap.size, 0, none⟩ = some (.int .u32 (a : Int)) ∧ W.cell? ⟨w.heap.size, 1, none⟩ = some (.int .i64 (n : Int)) ∧ Below w1.heap.size w1 W) → Calls Tryd.prog 31 #[.int .i64 (n : Int)] W fun e W' => e = .returned (.string (strOf (Lib.decDigits n))) ∧ (W'.cell? ⟨w.heap.size, 0, none⟩ = some (.int .u32 (a : Int)) ∧ W'.cell? ⟨w.heap.size, 1, none⟩ = some (.int .i64 (n : Int)) ∧ Below w1.heap.size w1 W')) :=
      Lib.hid fun W hW => (lib_Itoa (n : Int) W (by omega) (by omega) (HT.out.below hW.2.2)).mono fun e W' ⟨he, hb⟩ => ⟨he.trans (by unfold Lib.itoa; rw [if_neg (by omega), Int.toNat_natCast]; rfl), HC.out W' (hW.2.2.trans (hb.mono hW.2.2.size))⟩
    have z1 : (strOf (Ad.text a)).size ≤ 100 := by rw [strOf_size]; have := addr_text_short a ha; omega
    have z2 : (strOf (Lib.decDigits n)).size ≤ 100 := by rw [strOf_size]; have := dec_short n (by omega); omega
    have HG : Hid (strOf (Ad.text a) ++ (⟨#[47]⟩ : ByteArray) ++ strOf (Lib.decDigits n) = strOf (Nt.text a n)) := Lib.hid (net_glue _ _)
    generalize strOf (Ad.text a) = X at *
    generalize strOf (Lib.decDigits n) = Y at *
    have sz1 : (X ++ (⟨#[47]⟩ : ByteArray)).size = X.size + 1 := by rw [ByteArray.size_append]; rfl
    have n1 : (X.size + (⟨#[47]⟩ : ByteArray).size > 9223372036854775807) = False := eq_false (by show ¬ (X.size + 1 > _); omega)
    have n2 : ((X ++ (⟨#[47]⟩ : ByteArray)).size + Y.size > 9223372036854775807) = False := eq_false (by rw [sz1]; omega)
    have n3 : (9223372036854775807 < X.size + 1) = False := eq_false (by omega)
    have n4 : (9223372036854775807 < X.size + 1 + Y.size) = False := eq_false (by omega)
    obtain ⟨c0, c1, _⟩ := HC.out w2 hb2
    clear z1 z2
    rw [show ((0 : Nat) : Int) = (0 : Int) from rfl]
    go_wp2_with fail
    go_region_held3 (fun W => W.cell? ⟨w.heap.size, 0, none⟩ = some (.int .u32 (a : Int)) ∧ W.cell? ⟨w.heap.size, 1, none⟩ = some (.int .i64 (n : Int)) ∧ Below w1.heap.size w1 W) (first | assumption | (exact ⟨c0, c1, hb2.drew⟩))
      (first
        | (go_at_call 76; refine (HX.out _ (by first | assumption | exact ⟨c0, c1, hb2.drew⟩)).mono ?_; rintro e w3 ⟨rfl, hS3⟩)
        | (go_at_call 31; refine (HI.out _ (by first | assumption | exact ⟨c0, c1, hb2.drew⟩)).mono ?_; rintro e w4 ⟨rfl, hS4⟩))
    have hB4 := hA.trans (hS4.2.2.mono (by omega))
    clear hS3 hS4 c0 c1
    go_wp2
    go_ret2
    exact ⟨by rw [Ht.out, ← HG.out]; rfl, hB4⟩
  · have Ht : Hid (Nt.textOut a b = []) := Lib.hid (by unfold Nt.textOut; rw [if_neg he])
    have hn : ((Nt.err a b : Int) != 0) = true := by simpa using he
    clear he
    generalize Nt.err a b = r at *
    go_enter Tryd.func54, Tryd.ntmps54
    go_wp2_with fail
    rw [← hw1]
    refine (HF.out _).mono ?_
    rintro e w2 ⟨rfl, hb2⟩
    have hB2 := hA.trans (hb2.mono (by omega))
    clear c0 c1
    go_wp2
    go_ret2
    exact ⟨by rw [Ht.out]; rfl, hB2⟩

theorem slash_miss (l : List UInt8) (h : Nt.slash l < 0) : Lib.cut l [47] = (l, [], false) := by
  unfold Lib.cut
  rw [Lib.index_one, if_neg (by unfold Nt.slash at h; omega)]
theorem slash_hit (l : List UInt8) (h : 0 ≤ Nt.slash l) : Lib.cut l [47] = (Nt.front l, Nt.back l, true) := by
  unfold Lib.cut
  rw [Lib.index_one, if_pos (show 0 ≤ Lib.indexByte l 47 from h)]
  rfl
/-- strings.Cut at the slash. -/
theorem lib_CutSlash (s : ByteArray) (w : World) (hs : s.size ≤ 1048576) (hM : MaxTab w) :
    Calls Tryd.prog 49 #[.string s, .string ⟨#[47]⟩] w fun e w' => e = .returned (.tuple #[.string ⟨(Lib.cut s.data.toList [47]).1.toArray⟩, .string ⟨(Lib.cut s.data.toList [47]).2.1.toArray⟩, .bool (Lib.cut s.data.toList [47]).2.2]) ∧ Below w.heap.size w w' := by
  obtain ⟨m, hm⟩ := hM
  refine (Tryd.strings_Cut s ⟨#[47]⟩ m w (by omega) hm).mono ?_
  rintro e w' ⟨rfl, n, rfl⟩
  exact ⟨rfl, below_drewN (Below.refl _ _) n⟩

set_option maxRecDepth 20000 in
set_option maxHeartbeats 3200000 in
theorem net_Parse (s : ByteArray) (w : World) (hs : s.size ≤ 1048576) (hC : CodeTabs w) :
    Calls Tryd.prog 69 #[.string s] w fun e w' => e = .returned (.tuple #[netV (Nt.parAddr s.data.toList) (Nt.parBits s.data.toList : Int), .int .i64 (Nt.parErr s.data.toList : Int)]) ∧ Below w.heap.size w w' := by
  obtain ⟨w1, hw1⟩ : ∃ w1, w1 = w.alloc (.cells #[.int .u32 0, .int .i64 0] 24) := ⟨_, rfl⟩
  have hg1 : w1.heap[w.heap.size]? = some (.cells #[.int .u32 0, .int .i64 0] 24 (0, 0)) := by rw [hw1]; exact heap_alloc_last w _
  have hA : Below w.heap.size w w1 := by rw [hw1]; exact (Below.refl _ _).alloc (Nat.le_refl _) _
  have hz1 : w1.heap.size = w.heap.size + 1 := by rw [hw1]; simp
  have HI := lib_CutSlash s w1 hs (hC.2.below hA)
  have HR : Hid (∀ W, Below w1.heap.size w1 W → W.ownsRow w.heap.size 24 1 (.slice (some ⟨w.heap.size, 0, none⟩) 2 2) 2 [.int .u32 0, .int .i64 0]) := Lib.hid fun W hW => own_below2 (own_two hg1 (Nat.le_refl _)) hW
  have hsl : s.data.toList.length = s.size := by simp
  clear hg1 hC
  unfold netV
  by_cases h0 : Nt.slash s.data.toList < 0
  · have Hb := Lib.hid (Nt.par_bad (l := s.data.toList) (by unfold Nt.parGood; rw [decide_eq_false (by omega)]; rfl))
    rw [slash_miss _ h0] at HI
    clear h0 hsl
    generalize (⟨s.data.toList.toArray⟩ : ByteArray) = q at *
    go_enter Tryd.func69, Tryd.ntmps69
    go_wp2_with fail
    rw [← hw1]
    refine HI.mono ?_
    rintro e w2 ⟨rfl, hb2⟩
    have R4 := HR.out w2 hb2
    have hB2 := hA.trans (hb2.mono (by omega))
    obtain ⟨g0, g1⟩ := two_cells R4
    have f0 := R4.frozenAt 0
    have f1 := R4.frozenAt 1
    have R5 := two_set R4 (.int .u32 0) (.int .i64 0)
    go_wp2
    exact bodyPost_ret (net_ret Tryd.results69 rfl rfl R5) rfl ⟨ret_net_err (by rw [Hb.out.2.1, Hb.out.2.2]; rfl) (by rw [Hb.out.1]; rfl), (hB2.setCell (by simp) _).setCell (by simp) _⟩
  · have hge : decide (0 ≤ Nt.slash s.data.toList) = true := decide_eq_true (by omega)
    rw [slash_hit _ (by omega)] at HI
    have hf1 : (⟨(Nt.front s.data.toList).toArray⟩ : ByteArray).size ≤ 281474976710656 := by
      show (Nt.front s.data.toList).toArray.size ≤ _
      rw [List.size_toArray]
      unfold Nt.front
      rw [List.length_take]
      omega
    have hf2 : (⟨(Nt.back s.data.toList).toArray⟩ : ByteArray).size ≤ 281474976710656 := by
      show (Nt.back s.data.toList).toArray.size ≤ _
      rw [List.size_toArray]
      unfold Nt.back
      rw [List.length_drop]
      omega
    have H1 : Hid (∀ W, Below w1.heap.size w1 W → Calls Tryd.prog 50 #[.string ⟨(Nt.front s.data.toList).toArray⟩] W fun e W' => e = .returned (.tuple #[.int .u32 (Ad.addrOut (Nt.front s.data.toList) : Int), .int .i64 (Ad.addrErr (Nt.front s.data.toList) : Int)]) ∧ Below w1.heap.size w1 W') :=
      Lib.hid fun W hW => (addr_Parse0 ⟨(Nt.front s.data.toList).toArray⟩ W hf1).mono fun e W' ⟨he, hb⟩ => ⟨he, hW.trans (hb.mono hW.size)⟩
    have H2 : Hid (∀ W, Below w1.heap.size w1 W → Calls Tryd.prog 51 #[.string ⟨(Nt.back s.data.toList).toArray⟩, .int .i64 32] W fun e W' => e = .returned (.tuple #[.int .i64 (Ad.numOut (Nt.back s.data.toList) 32 : Int), .int .i64 (Ad.numErr (Nt.back s.data.toList) 32 : Int)]) ∧ Below w1.heap.size w1 W') :=
      Lib.hid fun W hW => (addr_Number0 ⟨(Nt.back s.data.toList).toArray⟩ 32 W hf2).mono fun e W' ⟨he, hb⟩ => ⟨he, hW.trans (hb.mono hW.size)⟩
    clear hsl hf1 hf2 h0
    by_cases g1 : ¬ Ad.good (Nt.front s.data.toList) = true
    · have Hb := Lib.hid (Nt.par_bad (l := s.data.toList) (by unfold Nt.parGood; rw [show Ad.good (Nt.front s.data.toList) = false by simpa using g1, Bool.and_false]; rfl))
      have hb := addr_bad _ (show Ad.good (Nt.front s.data.toList) = false by simpa using g1)
      rw [hb.1, hb.2] at H1
      clear g1 hge hb
      generalize (⟨(Nt.front s.data.toList).toArray⟩ : ByteArray) = F at *
      generalize (⟨(Nt.back s.data.toList).toArray⟩ : ByteArray) = B at *
      go_enter Tryd.func69, Tryd.ntmps69
      go_wp2_with fail
      rw [← hw1]
      refine HI.mono ?_
      rintro e w2 ⟨rfl, hb2⟩
      go_wp2_with fail
      refine (H1.out w2 hb2).mono ?_
      rintro e w3 ⟨rfl, hb3⟩
      have R4 := HR.out w3 hb3
      have hB2 := hA.trans (hb3.mono (by omega))
      obtain ⟨g0, g1⟩ := two_cells R4
      have f0 := R4.frozenAt 0
      have f1 := R4.frozenAt 1
      have R5 := two_set R4 (.int .u32 0) (.int .i64 0)
      go_wp2
      exact bodyPost_ret (net_ret Tryd.results69 rfl rfl R5) rfl ⟨ret_net_err (by rw [Hb.out.2.1, Hb.out.2.2]; rfl) (by rw [Hb.out.1]; rfl), (hB2.setCell (by simp) _).setCell (by simp) _⟩
    replace g1 : Ad.good (Nt.front s.data.toList) = true := Classical.not_not.1 g1
    have he : Ad.addrErr (Nt.front s.data.toList) = 0 := by unfold Ad.addrErr; rw [if_pos g1]
    rw [he] at H1
    clear he
    by_cases g2 : ¬ Ad.numErr (Nt.back s.data.toList) 32 = 0
    · have Hb := Lib.hid (Nt.par_bad (l := s.data.toList) (by unfold Nt.parGood; rw [hge, g1, decide_eq_false g2]; rfl))
      rw [(numOut_bad _ _ g2).1, (numOut_bad _ _ g2).2] at H2
      clear g1 g2 hge
      generalize Ad.addrOut (Nt.front s.data.toList) = a2 at *
      generalize (⟨(Nt.front s.data.toList).toArray⟩ : ByteArray) = F at *
      generalize (⟨(Nt.back s.data.toList).toArray⟩ : ByteArray) = B at *
      go_enter Tryd.func69, Tryd.ntmps69
      go_wp2_with fail
      rw [← hw1]
      refine HI.mono ?_
      rintro e w2 ⟨rfl, hb2⟩
      go_wp2_with fail
      refine (H1.out w2 hb2).mono ?_
      rintro e w3 ⟨rfl, hb3⟩
      go_wp2_with fail
      refine (H2.out w3 hb3).mono ?_
      rintro e w4 ⟨rfl, hb4⟩
      have R4 := HR.out w4 hb4
      have hB2 := hA.trans (hb4.mono (by omega))
      obtain ⟨g0, g1⟩ := two_cells R4
      have f0 := R4.frozenAt 0
      have f1 := R4.frozenAt 1
      have R5 := two_set R4 (.int .u32 0) (.int .i64 0)
      go_wp2
      exact bodyPost_ret (net_ret Tryd.results69 rfl rfl R5) rfl ⟨ret_net_err (by rw [Hb.out.2.1, Hb.out.2.2]; rfl) (by rw [Hb.out.1]; rfl), (hB2.setCell (by simp) _).setCell (by simp) _⟩
    replace g2 : Ad.numErr (Nt.back s.data.toList) 32 = 0 := Classical.not_not.1 g2
    rw [g2] at H2
    have la := good_lt (Nt.front s.data.toList)
    have ln : Ad.numOut (Nt.back s.data.toList) 32 ≤ 32 := num_le (Nt.back s.data.toList) 32
    have HC := Lib.hid (fun W => net_Check (Ad.addrOut (Nt.front s.data.toList)) (Ad.numOut (Nt.back s.data.toList) 32 : Int) W la (by omega) (by omega))
    unfold netV at HC
    by_cases g3 : ¬ Nt.err (Ad.addrOut (Nt.front s.data.toList)) (Ad.numOut (Nt.back s.data.toList) 32 : Int) = 0
    · have Hb := Lib.hid (Nt.par_bad (l := s.data.toList) (by unfold Nt.parGood; rw [decide_eq_false g3, Bool.and_false]))
      have hz : ((Nt.err (Ad.addrOut (Nt.front s.data.toList)) (Ad.numOut (Nt.back s.data.toList) 32 : Int) : Int) == 0) = false := by simp; omega
      clear g1 g2 g3 hge
      generalize Nt.err (Ad.addrOut (Nt.front s.data.toList)) (Ad.numOut (Nt.back s.data.toList) 32 : Int) = r at *
      generalize Ad.addrOut (Nt.front s.data.toList) = a2 at *
      generalize Ad.numOut (Nt.back s.data.toList) 32 = n2 at *
      generalize (⟨(Nt.front s.data.toList).toArray⟩ : ByteArray) = F at *
      generalize (⟨(Nt.back s.data.toList).toArray⟩ : ByteArray) = B at *
      go_enter Tryd.func69, Tryd.ntmps69
      go_wp2_with fail
      rw [← hw1]
      refine HI.mono ?_
      rintro e w2 ⟨rfl, hb2⟩
      go_wp2_with fail
      refine (H1.out w2 hb2).mono ?_
      rintro e w3 ⟨rfl, hb3⟩
      go_wp2_with fail
      refine (H2.out w3 hb3).mono ?_
      rintro e w4 ⟨rfl, hb4⟩
      have hsz4 := hb4.size
      go_wp2_with fail
      refine (HC.out _).mono ?_
      rintro e w5 ⟨rfl, hb5⟩
      have hb45 : Below w1.heap.size w1 w5 := (hb4.alloc hb4.size _).trans (hb5.mono (by simp; omega))
      have R4 := HR.out w5 hb45
      have hB2 := hA.trans (hb45.mono (by omega))
      obtain ⟨g0, g1⟩ := two_cells R4
      have f0 := R4.frozenAt 0
      have f1 := R4.frozenAt 1
      have R5 := two_set R4 (.int .u32 0) (.int .i64 0)
      go_wp2
      exact bodyPost_ret (net_ret Tryd.results69 rfl rfl R5) rfl ⟨ret_net_err (by rw [Hb.out.2.1, Hb.out.2.2]; rfl) (by rw [Hb.out.1]; rfl), (hB2.setCell (by simp) _).setCell (by simp) _⟩
    · replace g3 := Classical.not_not.1 g3
      have Hb := Lib.hid (Nt.par_ok (l := s.data.toList) (by unfold Nt.parGood; rw [hge, g1, decide_eq_true g2, decide_eq_true g3]; rfl))
      rw [g3] at HC
      clear g1 g2 g3 hge
      generalize Ad.addrOut (Nt.front s.data.toList) = a2 at *
      generalize Ad.numOut (Nt.back s.data.toList) 32 = n2 at *
      generalize (⟨(Nt.front s.data.toList).toArray⟩ : ByteArray) = F at *
      generalize (⟨(Nt.back s.data.toList).toArray⟩ : ByteArray) = B at *
      go_enter Tryd.func69, Tryd.ntmps69
      go_wp2_with fail
      rw [← hw1]
      refine HI.mono ?_
      rintro e w2 ⟨rfl, hb2⟩
      go_wp2_with fail
      refine (H1.out w2 hb2).mono ?_
      rintro e w3 ⟨rfl, hb3⟩
      go_wp2_with fail
      refine (H2.out w3 hb3).mono ?_
      rintro e w4 ⟨rfl, hb4⟩
      have hsz4 := hb4.size
      have hg10 := heap_alloc_last w4 (.cells #[.int .u32 (a2 : Int), .int .i64 (n2 : Int)] 24)
      go_wp2_with fail
      refine (HC.out _).mono ?_
      rintro e w5 ⟨rfl, hb5⟩
      have hb45 : Below w1.heap.size w1 w5 := (hb4.alloc hb4.size _).trans (hb5.mono (by simp; omega))
      have R4 := HR.out w5 hb45
      have hB2 := hA.trans (hb45.mono (by omega))
      obtain ⟨g0, g1⟩ := two_cells R4
      obtain ⟨k0, k1⟩ := net_cells hg10 hb5
      have f0 := R4.frozenAt 0
      have f1 := R4.frozenAt 1
      have R5 := two_set R4 (.int .u32 (a2 : Int)) (.int .i64 (n2 : Int))
      clear hg10
      go_wp2
      exact bodyPost_ret (net_ret Tryd.results69 rfl rfl R5) rfl ⟨ret_net_err (by rw [Hb.out.2.1, Hb.out.2.2]) (by rw [Hb.out.1]; rfl), (hB2.setCell (by simp) _).setCell (by simp) _⟩
end Go.Proofs.YthlagpmacnijfaaDoor
