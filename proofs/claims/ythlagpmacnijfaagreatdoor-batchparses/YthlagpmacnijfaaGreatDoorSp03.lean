/- Bounds on what a text's numbers are. -/
import Derived.Test.YthlagpmacnijfaaGreatDoorNetPlain2
import Derived.Test.YthlagpmacnijfaaGreatDoorNetRef1
import Derived.Test.YthlagpmacnijfaaGreatDoorAddrRef3
import Derived.Deep.RegionHeld3
import Derived.Test.YthlagpmacnijfaaGreatDoorSp02
import Derived.Deep.DeepCutAuto
import Derived.Test.YthlagpmacnijfaaGreatDoorAddrPlain2
namespace Go.Proofs.YthlagpmacnijfaaGreatDoor
open Go.RowKit

theorem addr_text_short (a : Nat) (h : a < 4294967296) : (Ad.text a).length ≤ 50 := by
  have h1 := dec_len 2 (a / 16777216) (by omega)
  have h2 := dec_len 2 (a / 65536 % 256) (by omega)
  have h3 := dec_len 2 (a / 256 % 256) (by omega)
  have h4 := dec_len 2 (a % 256) (by omega)
  unfold Ad.text
  simp only [List.length_append, List.length_cons]
  omega
theorem net_glue (a b : List UInt8) : strOf a ++ (⟨#[47]⟩ : ByteArray) ++ strOf b = strOf (a ++ 47 :: b) := by
  apply WideShapes.bytes_inj
  simp only [ByteArray.data_append, Array.toList_append, strOf]
  simp
set_option maxRecDepth 20000 in
set_option maxHeartbeats 800000 in
theorem ref_NetText (a : Nat) (b : Int) (w : World) (ha : a < 4294967296) (hT : PowTab w) :
    Calls Tryz.prog 35 #[netV a b] w fun e w' => e = .returned (.tuple #[.string (strOf (Nt.textOut a b)), .int .i64 (Nt.err a b : Int)]) ∧ Below w.heap.size w w' := by
  obtain ⟨w1, hw1⟩ : ∃ w1, w1 = w.alloc (.cells #[.int .u32 (a : Int), .int .i64 b] 26) := ⟨_, rfl⟩
  have hg1 : w1.heap[w.heap.size]? = some (.cells #[.int .u32 (a : Int), .int .i64 b] 26 (0, 0)) := by rw [hw1]; exact heap_alloc_last w _
  have hA : Below w.heap.size w w1 := by rw [hw1]; exact (Below.refl _ _).alloc (Nat.le_refl _) _
  have hz1 : w1.heap.size = w.heap.size + 1 := by rw [hw1]; simp
  have HF := Lib.hid (fun W => ref_NetFault a b W ha)
  unfold netV at HF ⊢
  have Hg1 := Lib.hid hg1
  have HT := Lib.hid (hT.below hA)
  clear hg1 hT
  obtain ⟨c0, c1⟩ := net_cells Hg1.out (Below.refl _ _)
  by_cases he : Nt.err a b = 0
  · obtain ⟨b0, b1, _⟩ := Nt.err_zero he
    obtain ⟨n, rfl⟩ : ∃ n : Nat, b = (n : Int) := ⟨b.toNat, by omega⟩
    have Ht : Hid (Nt.textOut a (n : Int) = Nt.text a n) := Lib.hid (by unfold Nt.textOut; rw [if_pos he, Int.toNat_natCast])
    rw [he] at HF
    rw [he]
    clear he
    go_enter Tryz.func35, Tryz.ntmps35
    go_wp2_with fail
    rw [← hw1]
    refine (HF.out _).mono ?_
    rintro e w2 ⟨rfl, hb2⟩
    clear c0 c1 hw1
    have HC : Hid (∀ W, Below w1.heap.size w1 W → W.cell? ⟨w.heap.size, 0, none⟩ = some (.int .u32 (a : Int)) ∧ W.cell? ⟨w.heap.size, 1, none⟩ = some (.int .i64 (n : Int)) ∧ Below w1.heap.size w1 W) := Lib.hid fun W hW => ⟨(net_cells Hg1.out hW).1, (net_cells Hg1.out hW).2, hW⟩
    have HX : Hid (∀ W, (W.cell? ⟨w.heap.size, 0, none⟩ = some (.int .u32 (a : Int)) ∧ W.cell? ⟨w.heap.size, 1, none⟩ = some (.int .i64 (n : Int)) ∧ Below w1.heap.size w1 W) → Calls Tryz.prog 59 #[.int .u32 (a : Int)] W fun e W' => e = .returned (.string (strOf (Ad.text a))) ∧ (W'.cell? ⟨w.heap.size, 0, none⟩ = some (.int .u32 (a : Int)) ∧ W'.cell? ⟨w.heap.size, 1, none⟩ = some (.int .i64 (n : Int)) ∧ Below w1.heap.size w1 W')) :=
      Lib.hid fun W hW => (ref_AddrText a ha W (HT.out.below hW.2.2)).mono fun e W' ⟨he, hb⟩ => ⟨he, HC.out W' (hW.2.2.trans (hb.mono hW.2.2.size))⟩
    have HI : Hid (∀ W, (W.cell? ⟨w.heap.size, 0, none⟩ = some (.int .u32 (a : Int)) ∧ W.cell? ⟨w.heap.size, 1, none⟩ = some (.int .i64 (n : Int)) ∧ Below w1.heap.size w1 W) → Calls Tryz.prog 30 #[.int .i64 (n : Int)] W fun e W' => e = .returned (.string (strOf (Lib.decDigits n))) ∧ (W'.cell? ⟨w.heap.size, 0, none⟩ = some (.int .u32 (a : Int)) ∧ W'.cell? ⟨w.heap.size, 1, none⟩ = some (.int .i64 (n : Int)) ∧ Below w1.heap.size w1 W')) :=
      Lib.hid fun W hW => (lib_Itoa (n : Int) W (by omega) (by omega) (HT.out.below hW.2.2)).mono fun e W' ⟨he, hb⟩ => ⟨he.trans (by unfold Lib.itoa; rw [if_neg (by omega), Int.toNat_natCast]; rfl), HC.out W' (hW.2.2.trans (hb.mono hW.2.2.size))⟩
    have z1 : (strOf (Ad.text a)).size ≤ 100 := by rw [strOf_size]; have := addr_text_short a ha; omega
    have z2 : (strOf (Lib.decDigits n)).size ≤ 100 := by rw [strOf_size]; have := dec_short n (by omega); omega
    have HG : Hid (strOf (Ad.text a) ++ (⟨#[47]⟩ : ByteArray) ++ strOf (Lib.decDigits n) = strOf (Nt.text a n)) := Lib.hid (net_glue _ _)
    generalize strOf (Ad.text a) = X at *
    generalize strOf (Lib.decDigits n) = Y at *
    have sz1 : (X ++ (⟨#[47]⟩ : ByteArray)).size = X.size + 1 := by rw [ByteArray.size_append]; rfl
    have n1 : (X.size + (⟨#[47]⟩ : ByteArray).size > 9223372036854775807) = False := eq_false (by show ¬ (X.size + 1 > _); omega)
    have n2 : ((X ++ (⟨#[47]⟩ : ByteArray)).size + Y.size > 9223372036854775807) = False := eq_false (by rw [sz1]; omega)
    have n3 : (9223372036854775807 < X.size + 1) = False := eq_false (by omega)
    have n4 : (9223372036854775807 < X.size + 1 + Y.size) = False := eq_false (by omega)
    obtain ⟨c0, c1, _⟩ := HC.out w2 hb2
    clear z1 z2
    rw [show ((0 : Nat) : Int) = (0 : Int) from rfl]
    go_wp2_with fail
    go_region_held3 (fun W => W.cell? ⟨w.heap.size, 0, none⟩ = some (.int .u32 (a : Int)) ∧ W.cell? ⟨w.heap.size, 1, none⟩ = some (.int .i64 (n : Int)) ∧ Below w1.heap.size w1 W) (first | assumption | (exact ⟨c0, c1, hb2.drew⟩))
      (first
        | (go_at_call 59; refine (HX.out _ (by first | assumption | exact ⟨c0, c1, hb2.drew⟩)).mono ?_; rintro e w3 ⟨rfl, hS3⟩)
        | (go_at_call 30; refine (HI.out _ (by first | assumption | exact ⟨c0, c1, hb2.drew⟩)).mono ?_; rintro e w4 ⟨rfl, hS4⟩))
    have hB4 := hA.trans (hS4.2.2.mono (by omega))
    clear hS3 hS4 c0 c1
    go_wp2
    go_ret2
    exact ⟨by rw [Ht.out, ← HG.out]; rfl, hB4⟩
  · have Ht : Hid (Nt.textOut a b = []) := Lib.hid (by unfold Nt.textOut; rw [if_neg he])
    have hn : ((Nt.err a b : Int) != 0) = true := by simpa using he
    clear he
    generalize Nt.err a b = r at *
    go_enter Tryz.func35, Tryz.ntmps35
    go_wp2_with fail
    rw [← hw1]
    refine (HF.out _).mono ?_
    rintro e w2 ⟨rfl, hb2⟩
    have hB2 := hA.trans (hb2.mono (by omega))
    clear c0 c1
    go_wp2
    go_ret2
    exact ⟨by rw [Ht.out]; rfl, hB2⟩
end Go.Proofs.YthlagpmacnijfaaGreatDoor

namespace Go.Proofs.YthlagpmacnijfaaGreatDoor
open Go.RowKit

set_option maxRecDepth 20000 in
set_option maxHeartbeats 16000000 in
theorem ref_SettingLine (s : Bt.S) (w : World) (hs : s.t.size ≤ 1048576) (ha : s.a < 4294967296) (hn0 : -9223372036854775808 ≤ s.n) (hn1 : s.n ≤ 9223372036854775807) (hT : AllTabs w) :
    Calls Tryz.prog 19 #[setV s] w fun e w' => e = .returned (.tuple #[lineV (Bt.line s), .int .i64 (Bt.err s : Int)]) ∧ Below w.heap.size w w' := by
  obtain ⟨w1, hw1⟩ : ∃ w1, w1 = (w.alloc (.cells #[.int .i64 s.k, .string s.t, .int .i64 s.n, .int .u32 (s.a : Int), .int .i64 s.b] 28)).alloc (.cells #[.string ⟨#[]⟩, .string ⟨#[]⟩] 23) := ⟨_, rfl⟩
  have hA : Below w.heap.size w w1 := by rw [hw1]; exact ((Below.refl _ _).alloc (Nat.le_refl _) _).alloc (by simp) _
  have hG : Blk w1 w.heap.size 28 [.int .i64 s.k, .string s.t, .int .i64 s.n, .int .u32 (s.a : Int), .int .i64 s.b] := by rw [hw1]; exact (Blk.new w 28 [.int .i64 s.k, .string s.t, .int .i64 s.n, .int .u32 (s.a : Int), .int .i64 s.b]).kept ((Below.refl _ _).alloc (Nat.le_refl _) _)
  have hR : Blk w1 (w.heap.size + 1) 23 [.string ⟨#[]⟩, .string ⟨#[]⟩] := by
    rw [hw1]
    have := Blk.new (w.alloc (.cells #[.int .i64 s.k, .string s.t, .int .i64 s.n, .int .u32 (s.a : Int), .int .i64 s.b] 28)) 23 [.string ⟨#[]⟩, .string ⟨#[]⟩]
    rwa [show (w.alloc (.cells #[.int .i64 s.k, .string s.t, .int .i64 s.n, .int .u32 (s.a : Int), .int .i64 s.b] 28)).heap.size = w.heap.size + 1 by simp] at this
  have HF := Lib.hid (fun W (hW : Below w.heap.size w W) => ref_SettingFault s W hs ha (hT.below hW))
  have HA := Lib.hid hA
  have HG := Lib.hid hG
  have HR := Lib.hid hR
  have HW1 := Lib.hid hw1
  by_cases he : Bt.err s = 0
  rotate_left
  · have Hl : Hid (Bt.line s = ⟨⟨#[]⟩, ⟨#[]⟩⟩) := Lib.hid (by unfold Bt.line; rw [if_neg he]; rfl)
    have hn : ((Bt.err s : Int) != 0) = true := by simpa using he
    clear he hA hG hR hw1 hT
    generalize Bt.err s = r at *
    unfold setV at HF ⊢
    go_enter Tryz.func19, Tryz.ntmps19
    go_upto_region 1 with fail
    rw [← HW1.out]
    obtain ⟨g0, g1, g2, g3, g4⟩ := (HG.out.facts5).1
    go_wp2_with fail
    refine (HF.out w1 HA.out).mono ?_
    rintro e w2 ⟨rfl, hb2⟩
    have hR2 := HR.out.kept hb2
    have c0 := hR2.cell 0 rfl
    have c1 := hR2.cell 1 rfl
    have f0 := hR2.frozen (by decide) 0
    have f1 := hR2.frozen (by decide) 1
    have HE := Lib.hid (hR2.set2 (.string ⟨#[]⟩) (.string ⟨#[]⟩))
    have HB2 := Lib.hid (HA.out.trans (hb2.mono HA.out.size))
    clear hR2 hb2 g0 g1 g2 g3 g4
    go_wp2
    exact bodyPost_ret (ret_cell (load_line HE.out rfl) Tryz.results19 rfl rfl) rfl ⟨by rw [Hl.out]; rfl, (HB2.out.setCell (p := ⟨w.heap.size + 1, 0, none⟩) (Nat.le_succ _) _).setCell (p := ⟨w.heap.size + 1, 1, none⟩) (Nat.le_succ _) _⟩
  · have Hl : Hid (Bt.line s = Bt.lineOf s) := Lib.hid (by unfold Bt.line; rw [if_pos he])
    have hk : 1 ≤ s.k ∧ s.k ≤ 10 := by
      by_cases hk : s.k < 1 ∨ 10 < s.k
      · unfold Bt.err at he; rw [if_pos hk] at he; cases he
      · omega
    have He := Lib.hid he
    rw [he] at HF
    obtain ⟨V0, hV0⟩ : ∃ V0, V0 = Bt.val0 s := ⟨_, rfl⟩
    have HV0 := Lib.hid hV0
    have HI := Lib.hid (fun W (hW : Below w.heap.size w W) => lib_Itoa s.n W hn0 hn1 (hT.1.below hW))
    have HNT := Lib.hid (fun W (hW : Below w.heap.size w W) => ref_NetText s.a s.b W ha (hT.1.below hW))
    have HT := Lib.hid hT
    clear he hA hG hR hw1 hT hV0
    obtain ⟨k0, t, n, a, b⟩ := s
    simp only at hk HF HA HG HR HW1 HI HNT hn0 hn1 hs ha
    obtain ⟨k, rfl⟩ : ∃ k : Nat, k0 = (k : Int) := ⟨k0.toNat, by omega⟩
    have hk10 : k ≤ 10 := by omega
    unfold setV at HF ⊢
    unfold netV at HNT
    go_enter Tryz.func19, Tryz.ntmps19
    go_upto_region 1 with fail
    rw [← HW1.out]
    obtain ⟨g0, g1, g2, g3, g4⟩ := (HG.out.facts5).1
    go_wp2_with fail
    refine (HF.out w1 HA.out).mono ?_
    rintro e w2 ⟨rfl, hb2⟩
    have HG2 := Lib.hid (HG.out.kept hb2)
    have HR2 := Lib.hid (HR.out.kept hb2)
    have HB2 := Lib.hid (HA.out.trans (hb2.mono HA.out.size))
    clear hb2 g0 g1 g2 g3 g4 HF
    obtain ⟨g0, g1, g2, g3, g4⟩ := (HG2.out.facts5).1
    go_upto_block 0 with fail
    have HX2 : Hid (Blk w2 w.heap.size 28 [.int .i64 (k : Int), .string t, .int .i64 n, .int .u32 (a : Int), .int .i64 b] ∧ Blk w2 (w.heap.size + 1) 23 [.string ⟨#[]⟩, .string ⟨#[]⟩] ∧ Below w.heap.size w w2) := Lib.hid ⟨HG2.out, HR2.out, HB2.out⟩
    go_cut [5] (fun v wx => v = .string V0 ∧ Hid (Blk wx w.heap.size 28 [.int .i64 (k : Int), .string t, .int .i64 n, .int .u32 (a : Int), .int .i64 b] ∧ Blk wx (w.heap.size + 1) 23 [.string ⟨#[]⟩, .string ⟨#[]⟩] ∧ Below w.heap.size w wx))
    case first =>
      rcases Bt.fld_cases (k : Int) hk.1 hk.2 with h | h | h | h | h | h | h | h | h | h
      · have hv : Bt.val0 ⟨(k : Int), t, n, a, b⟩ = t := by unfold Bt.val0 Bt.fld; simp [h]
        rw [hv] at HV0
        have q2 : ((k : Int) == 2) = false := by rw [h]; rfl
        have q8 : ((k : Int) == 8) = false := by rw [h]; rfl
        have q3 : ((k : Int) == 3) = false := by rw [h]; rfl
        have q5 : ((k : Int) == 5) = false := by rw [h]; rfl
        have q9 : ((k : Int) == 9) = false := by rw [h]; rfl
        have q10 : ((k : Int) == 10) = false := by rw [h]; rfl
        clear hv h
        go_wp2_with fail
        go_meet
        case rel => exact ⟨congrArg Value.string HV0.out.symm, HX2⟩
      · have hv : Bt.val0 ⟨(k : Int), t, n, a, b⟩ = Ln.ofT (Lib.itoa n) := by unfold Bt.val0 Bt.fld; simp [h]
        rw [hv] at HV0
        have q2 : ((k : Int) == 2) = true := by rw [h]; rfl
        have q8 : ((k : Int) == 8) = false := by rw [h]; rfl
        have q3 : ((k : Int) == 3) = false := by rw [h]; rfl
        have q5 : ((k : Int) == 5) = false := by rw [h]; rfl
        have q9 : ((k : Int) == 9) = false := by rw [h]; rfl
        have q10 : ((k : Int) == 10) = false := by rw [h]; rfl
        clear hv h
        go_wp2_with fail
        refine (HI.out w2 HB2.out).mono ?_
        rintro e w3 ⟨rfl, hb3⟩
        have HX3 : Hid (Blk w3 w.heap.size 28 [.int .i64 (k : Int), .string t, .int .i64 n, .int .u32 (a : Int), .int .i64 b] ∧ Blk w3 (w.heap.size + 1) 23 [.string ⟨#[]⟩, .string ⟨#[]⟩] ∧ Below w.heap.size w w3) := Lib.hid ⟨HG2.out.kept hb3, HR2.out.kept hb3, HB2.out.trans (hb3.mono HB2.out.size)⟩
        clear hb3
        go_wp2_with fail
        go_meet
        case rel => exact ⟨congrArg Value.string HV0.out.symm, HX3⟩
      · have hv : Bt.val0 ⟨(k : Int), t, n, a, b⟩ = Bt.isTrue := by unfold Bt.val0 Bt.fld; simp [h]
        rw [hv] at HV0
        have q2 : ((k : Int) == 2) = false := by rw [h]; rfl
        have q8 : ((k : Int) == 8) = false := by rw [h]; rfl
        have q3 : ((k : Int) == 3) = true := by rw [h]; rfl
        have q5 : ((k : Int) == 5) = false := by rw [h]; rfl
        have q9 : ((k : Int) == 9) = false := by rw [h]; rfl
        have q10 : ((k : Int) == 10) = false := by rw [h]; rfl
        clear hv h
        go_wp2_with fail
        go_meet
        case rel => exact ⟨congrArg Value.string HV0.out.symm, HX2⟩
      · have hv : Bt.val0 ⟨(k : Int), t, n, a, b⟩ = t := by unfold Bt.val0 Bt.fld; simp [h]
        rw [hv] at HV0
        have q2 : ((k : Int) == 2) = false := by rw [h]; rfl
        have q8 : ((k : Int) == 8) = false := by rw [h]; rfl
        have q3 : ((k : Int) == 3) = false := by rw [h]; rfl
        have q5 : ((k : Int) == 5) = false := by rw [h]; rfl
        have q9 : ((k : Int) == 9) = false := by rw [h]; rfl
        have q10 : ((k : Int) == 10) = false := by rw [h]; rfl
        clear hv h
        go_wp2_with fail
        go_meet
        case rel => exact ⟨congrArg Value.string HV0.out.symm, HX2⟩
      · have hv : Bt.val0 ⟨(k : Int), t, n, a, b⟩ = Bt.isTrue := by unfold Bt.val0 Bt.fld; simp [h]
        rw [hv] at HV0
        have q2 : ((k : Int) == 2) = false := by rw [h]; rfl
        have q8 : ((k : Int) == 8) = false := by rw [h]; rfl
        have q3 : ((k : Int) == 3) = false := by rw [h]; rfl
        have q5 : ((k : Int) == 5) = true := by rw [h]; rfl
        have q9 : ((k : Int) == 9) = false := by rw [h]; rfl
        have q10 : ((k : Int) == 10) = false := by rw [h]; rfl
        clear hv h
        go_wp2_with fail
        go_meet
        case rel => exact ⟨congrArg Value.string HV0.out.symm, HX2⟩
      · have hv : Bt.val0 ⟨(k : Int), t, n, a, b⟩ = t := by unfold Bt.val0 Bt.fld; simp [h]
        rw [hv] at HV0
        have q2 : ((k : Int) == 2) = false := by rw [h]; rfl
        have q8 : ((k : Int) == 8) = false := by rw [h]; rfl
        have q3 : ((k : Int) == 3) = false := by rw [h]; rfl
        have q5 : ((k : Int) == 5) = false := by rw [h]; rfl
        have q9 : ((k : Int) == 9) = false := by rw [h]; rfl
        have q10 : ((k : Int) == 10) = false := by rw [h]; rfl
        clear hv h
        go_wp2_with fail
        go_meet
        case rel => exact ⟨congrArg Value.string HV0.out.symm, HX2⟩
      · have hv : Bt.val0 ⟨(k : Int), t, n, a, b⟩ = t := by unfold Bt.val0 Bt.fld; simp [h]
        rw [hv] at HV0
        have q2 : ((k : Int) == 2) = false := by rw [h]; rfl
        have q8 : ((k : Int) == 8) = false := by rw [h]; rfl
        have q3 : ((k : Int) == 3) = false := by rw [h]; rfl
        have q5 : ((k : Int) == 5) = false := by rw [h]; rfl
        have q9 : ((k : Int) == 9) = false := by rw [h]; rfl
        have q10 : ((k : Int) == 10) = false := by rw [h]; rfl
        clear hv h
        go_wp2_with fail
        go_meet
        case rel => exact ⟨congrArg Value.string HV0.out.symm, HX2⟩
      · have hv : Bt.val0 ⟨(k : Int), t, n, a, b⟩ = Ln.ofT (Lib.itoa n) := by unfold Bt.val0 Bt.fld; simp [h]
        rw [hv] at HV0
        have q2 : ((k : Int) == 2) = false := by rw [h]; rfl
        have q8 : ((k : Int) == 8) = true := by rw [h]; rfl
        have q3 : ((k : Int) == 3) = false := by rw [h]; rfl
        have q5 : ((k : Int) == 5) = false := by rw [h]; rfl
        have q9 : ((k : Int) == 9) = false := by rw [h]; rfl
        have q10 : ((k : Int) == 10) = false := by rw [h]; rfl
        clear hv h
        go_wp2_with fail
        refine (HI.out w2 HB2.out).mono ?_
        rintro e w3 ⟨rfl, hb3⟩
        have HX3 : Hid (Blk w3 w.heap.size 28 [.int .i64 (k : Int), .string t, .int .i64 n, .int .u32 (a : Int), .int .i64 b] ∧ Blk w3 (w.heap.size + 1) 23 [.string ⟨#[]⟩, .string ⟨#[]⟩] ∧ Below w.heap.size w w3) := Lib.hid ⟨HG2.out.kept hb3, HR2.out.kept hb3, HB2.out.trans (hb3.mono HB2.out.size)⟩
        clear hb3
        go_wp2_with fail
        go_meet
        case rel => exact ⟨congrArg Value.string HV0.out.symm, HX3⟩
      · have hv : Bt.val0 ⟨(k : Int), t, n, a, b⟩ = Bt.isTrue := by unfold Bt.val0 Bt.fld; simp [h]
        rw [hv] at HV0
        have q2 : ((k : Int) == 2) = false := by rw [h]; rfl
        have q8 : ((k : Int) == 8) = false := by rw [h]; rfl
        have q3 : ((k : Int) == 3) = false := by rw [h]; rfl
        have q5 : ((k : Int) == 5) = false := by rw [h]; rfl
        have q9 : ((k : Int) == 9) = true := by rw [h]; rfl
        have q10 : ((k : Int) == 10) = false := by rw [h]; rfl
        clear hv h
        go_wp2_with fail
        go_meet
        case rel => exact ⟨congrArg Value.string HV0.out.symm, HX2⟩
      · have hv : Bt.val0 ⟨(k : Int), t, n, a, b⟩ = Ln.ofT (Nt.textOut a b) := by unfold Bt.val0 Bt.fld; simp [h]
        rw [hv] at HV0
        have q2 : ((k : Int) == 2) = false := by rw [h]; rfl
        have q8 : ((k : Int) == 8) = false := by rw [h]; rfl
        have q3 : ((k : Int) == 3) = false := by rw [h]; rfl
        have q5 : ((k : Int) == 5) = false := by rw [h]; rfl
        have q9 : ((k : Int) == 9) = false := by rw [h]; rfl
        have q10 : ((k : Int) == 10) = true := by rw [h]; rfl
        clear hv h
        go_wp2_with fail
        refine (HNT.out w2 HB2.out).mono ?_
        rintro e w3 ⟨rfl, hb3⟩
        have HX3 : Hid (Blk w3 w.heap.size 28 [.int .i64 (k : Int), .string t, .int .i64 n, .int .u32 (a : Int), .int .i64 b] ∧ Blk w3 (w.heap.size + 1) 23 [.string ⟨#[]⟩, .string ⟨#[]⟩] ∧ Below w.heap.size w w3) := Lib.hid ⟨HG2.out.kept hb3, HR2.out.kept hb3, HB2.out.trans (hb3.mono HB2.out.size)⟩
        clear hb3
        go_wp2_with fail
        go_meet
        case rel => exact ⟨congrArg Value.string HV0.out.symm, HX3⟩
    case rest =>
      obtain ⟨rfl, HC⟩ := hcut
      clear HI HNT HX2 HG2 HR2 HB2 g0 g1 g2 g3 g4
      obtain ⟨V, hV⟩ : ∃ V, V = Bt.val ⟨(k : Int), t, n, a, b⟩ := ⟨_, rfl⟩
      have HV := Lib.hid hV
      clear hV
      have hvv : Hid (V = if (k : Int) = 6 ∧ V0.size = 0 then Bt.zeros else V0) := Lib.hid (by
        rw [HV.out, HV0.out]
        by_cases h6 : (k : Int) = 6
        · simp [Bt.val, Bt.val0, Bt.fld, h6]
        · simp [Bt.val, Bt.val0, h6])
      clear HV0
      obtain ⟨g0, g1, g2, g3, g4⟩ := (HC.out.1.facts5).1
      have hse := empty_size V0
      have HZ := Lib.hid (fun W => ref_zeros W)
      by_cases h6 : (k : Int) = 6
      · have d6 : ((k : Int) == 6) = true := by rw [h6]; rfl
        by_cases h0 : V0.size = 0
        · rw [decide_eq_true h0] at hse
          have hZ : Hid (V = Bt.zeros) := Lib.hid (by rw [hvv.out, if_pos ⟨h6, h0⟩])
          rw [← hZ.out] at HZ
          clear h0 hvv h6 hZ
          go_wp2_with fail
          refine (HZ.out _).mono ?_
          rintro e w3 ⟨rfl, hb3⟩
          have HD : Hid (Blk w3 w.heap.size 28 [.int .i64 (k : Int), .string t, .int .i64 n, .int .u32 (a : Int), .int .i64 b] ∧ Blk w3 (w.heap.size + 1) 23 [.string ⟨#[]⟩, .string ⟨#[]⟩] ∧ Below w.heap.size w w3) := Lib.hid ⟨HC.out.1.kept hb3, HC.out.2.1.kept hb3, HC.out.2.2.trans (hb3.mono HC.out.2.2.size)⟩
          clear hb3 d6
          go_upto_region 17 with fail
          have HG3 : Hid (Blk w3 w.heap.size 28 (setC2 k t n a b)) := Lib.hid HD.out.1
          have HR3 := Lib.hid HD.out.2.1
          have HB3 := Lib.hid HD.out.2.2
          have HN := Lib.hid (fun W => ref_names W)
          obtain ⟨X, hX⟩ : ∃ X, X = Bt.nameOf k := ⟨_, rfl⟩
          have HX := Lib.hid hX
          have HL : Hid (Bt.line ⟨(k : Int), t, n, a, b⟩ = ⟨X, V⟩) := Lib.hid (by rw [Hl.out, HX.out, HV.out]; unfold Bt.lineOf; simp only [Int.toNat_natCast])
          clear hX HZ g0 g1 g2 g3 g4 hse HC
          have hmix : Tryz.prog.follows .mixedOrders = true := by kernel_rfl
          refine wp_region_vals 9 7 lineDst2 (fun b' j v W => (b' = true ∧ j < 7) ∨ lineSpec2 w.heap.size k (setC2 k t n a b) X V j v W) (fun b' W => Below w.heap.size w W ∧ (b' = false → Below w3.heap.size w3 W) ∧ (b' = true → Blk W (w.heap.size + 1) 23 [.string X, .string V])) hmix rfl line_dist2 ?low ?inn ?stab ?drop ?late ?s0 ?step ?done
          case low =>
            intro i o ho
            have hi : i < 9 := by
              have := (Array.getElem?_eq_some_iff.1 ho).1
              simpa using this
            have hc : i = 0 ∨ i = 1 ∨ i = 2 ∨ i = 3 ∨ i = 4 ∨ i = 5 ∨ i = 6 ∨ i = 7 ∨ i = 8 := by omega
            rcases hc with rfl | rfl | rfl | rfl | rfl | rfl | rfl | rfl | rfl <;> (obtain rfl := Option.some.inj ho; simp)
          case inn =>
            intro i d hi hd
            have hle := (line_in2 i d hi hd).2
            exact Nat.lt_of_le_of_lt hle (of_decide_eq_true rfl)
          case stab =>
            intro b' j u W W' hb h
            rcases h with h | h
            · exact .inl h
            · exact .inr (lineSpec2_kept hb h)
          case drop => exact fun j u W hj => .inl ⟨rfl, hj⟩
          case late =>
            intro j o hj ho
            have hi : j < 9 := by
              have := (Array.getElem?_eq_some_iff.1 ho).1
              simpa using this
            obtain rfl : j = 8 := by omega
            obtain rfl := Option.some.inj ho
            exact ⟨⟨7, .chain⟩, by simp, rfl, rfl⟩
          case s0 => exact ⟨HB3.out.drew, fun _ => (Below.refl _ _).drew, fun h => by cases h⟩
          case done =>
            intro F W hS hR
            have h8 : F 8 = .int .i64 0 := by
              rcases hR 8 (by decide) with ⟨_, h⟩ | h
              · omega
              · exact h
            have HE := Lib.hid (hS.2.2 rfl)
            have HBf := Lib.hid hS.1
            rw [line_put2, h8]
            simp only [Act.put, List.setIfInBounds_toArray, List.set_cons_succ, List.set_cons_zero]
            clear hR hS h8
            go_wp2
            exact bodyPost_ret (ret_cell (load_line HE.out rfl) Tryz.results19 rfl rfl) rfl ⟨by rw [HL.out, He.out]; rfl, HBf.out⟩
          case step =>
            intro listed W hs' hcl hSW A0 F hget hR hold i o ho h0 hdep
            have hi : i < 9 := by
              have := (Array.getElem?_eq_some_iff.1 ho).1
              simpa using this
            have hc : i = 0 ∨ i = 1 ∨ i = 2 ∨ i = 3 ∨ i = 4 ∨ i = 5 ∨ i = 6 ∨ i = 7 ∨ i = 8 := by omega
            have n7 : i < 8 → listed.getD 7 false = false := by
              intro hi8
              cases hx : listed.getD 7 false with
              | false => rfl
              | true =>
                exfalso
                have l6 := hcl 7 _ rfl hx ⟨6, .data⟩ (by simp) rfl
                have l5 := hcl 6 _ rfl l6 ⟨5, .data⟩ (by simp) rfl
                have l4 := hcl 6 _ rfl l6 ⟨4, .data⟩ (by simp) rfl
                have l3 := hcl 4 _ rfl l4 ⟨3, .data⟩ (by simp) rfl
                have l0 := hcl 3 _ rfl l3 ⟨0, .data⟩ (by simp) rfl
                have l2 := hcl 3 _ rfl l3 ⟨2, .data⟩ (by simp) rfl
                have l1 := hcl 2 _ rfl l2 ⟨1, .data⟩ (by simp) rfl
                rcases hc with rfl | rfl | rfl | rfl | rfl | rfl | rfl | rfl | rfl <;> first | omega | (simp_all)
            have Hsp := Lib.hid (show ∀ j, j < 7 → i < 8 → listed.getD j false = true → lineSpec2 w.heap.size k (setC2 k t n a b) X V j (F j) W by
              intro j hj hi8 hlj
              rcases hR j (by omega) hlj with ⟨hx, _⟩ | h
              · rw [n7 hi8] at hx; cases hx
              · exact h)
            have Hget := Lib.hid hget
            have Hold := Lib.hid hold
            have HS := Lib.hid hSW
            have N7 := Lib.hid n7
            clear hget hcl hold hSW hR n7
            rcases hc with rfl | rfl | rfl | rfl | rfl | rfl | rfl | rfl | rfl
            · obtain rfl := Option.some.inj ho
              refine wpOp_mono (fun a' w' (h : ∃ v, a' = A0.put (some 42) v ∧ Hid (lineSpec2 w.heap.size k (setC2 k t n a b) X V 0 v w') ∧ Hid (Below W.heap.size W w')) => by obtain ⟨v, h1, h2, h3⟩ := h; exact ⟨v, h1, .inl ⟨by decide, ⟨HS.out.1.trans (h3.out.mono HS.out.1.size), fun hx => (HS.out.2.1 hx).trans (h3.out.mono (HS.out.2.1 hx).size), fun hx => absurd (N7.out (by decide)) (by rw [hx]; decide)⟩, .inr h2.out, h3.out⟩⟩) ?_
              refine wpOp_plain rfl rfl ?_
              clear hdep h0
              unfold Oper.wp
              go_simp
              refine (HN.out W).mono ?_
              rintro e W' ⟨rfl, hg, hb⟩
              exact ⟨_, rfl, Lib.hid ⟨_, rfl, hg⟩, Lib.hid hb⟩
            · obtain rfl := Option.some.inj ho
              have e1 : A0.tmps.getD 1 undef = .pointer (some ⟨w.heap.size, 0, none⟩) := (Hold.out 1 (fun j hj hd => by have := (line_in2 j 1 hj hd).1; omega)).trans rfl
              have HF := Lib.hid (HG3.out.kept (HS.out.2.1 (N7.out (by decide))))
              refine wpOp_mono (fun a' w' (h : ∃ v, a' = A0.put (some 43) v ∧ Hid (lineSpec2 w.heap.size k (setC2 k t n a b) X V 1 v w') ∧ Hid (Below W.heap.size W w')) => by obtain ⟨v, h1, h2, h3⟩ := h; exact ⟨v, h1, .inl ⟨by decide, ⟨HS.out.1.trans (h3.out.mono HS.out.1.size), fun hx => (HS.out.2.1 hx).trans (h3.out.mono (HS.out.2.1 hx).size), fun hx => absurd (N7.out (by decide)) (by rw [hx]; decide)⟩, .inr h2.out, h3.out⟩⟩) ?_
              refine wpOp_plain rfl rfl ?_
              clear hdep h0
              unfold Oper.wp
              go_simp
              exact ⟨_, rfl, Lib.hid ⟨rfl, HF.out⟩, Lib.hid (Below.refl _ _)⟩
            · obtain rfl := Option.some.inj ho
              have v1 : A0.tmps.getD 43 undef = F 1 := Hget.out 1 43 (by decide) (hdep ⟨1, .data⟩ (by simp) rfl) rfl
              have s1 := Hsp.out 1 (by decide) (by decide) (hdep ⟨1, .data⟩ (by simp) rfl)
              rw [s1.1] at v1
              have y0 := s1.2.cell 0 rfl
              clear s1
              refine wpOp_mono (fun a' w' (h : ∃ v, a' = A0.put (some 44) v ∧ Hid (lineSpec2 w.heap.size k (setC2 k t n a b) X V 2 v w') ∧ Hid (Below W.heap.size W w')) => by obtain ⟨v, h1, h2, h3⟩ := h; exact ⟨v, h1, .inl ⟨by decide, ⟨HS.out.1.trans (h3.out.mono HS.out.1.size), fun hx => (HS.out.2.1 hx).trans (h3.out.mono (HS.out.2.1 hx).size), fun hx => absurd (N7.out (by decide)) (by rw [hx]; decide)⟩, .inr h2.out, h3.out⟩⟩) ?_
              refine wpOp_plain rfl rfl ?_
              clear hdep h0
              unfold Oper.wp
              go_simp
              exact ⟨_, rfl, Lib.hid rfl, Lib.hid (Below.refl _ _)⟩
            · obtain rfl := Option.some.inj ho
              have v0 : A0.tmps.getD 42 undef = F 0 := Hget.out 0 42 (by decide) (hdep ⟨0, .data⟩ (by simp) rfl) rfl
              have s0 := Hsp.out 0 (by decide) (by decide) (hdep ⟨0, .data⟩ (by simp) rfl)
              have v2 : A0.tmps.getD 44 undef = F 2 := Hget.out 2 44 (by decide) (hdep ⟨2, .data⟩ (by simp) rfl) rfl
              have s2 := Hsp.out 2 (by decide) (by decide) (hdep ⟨2, .data⟩ (by simp) rfl)
              obtain ⟨g, s0, b0⟩ := s0
              rw [s0] at v0
              rw [show F 2 = _ from s2] at v2
              have hk11 : (k : Int) < 11 := by omega
              have B0 := Lib.hid b0
              clear s0 s2 b0
              refine wpOp_mono (fun a' w' (h : ∃ v, a' = A0.put (some 45) v ∧ Hid (lineSpec2 w.heap.size k (setC2 k t n a b) X V 3 v w') ∧ Hid (Below W.heap.size W w')) => by obtain ⟨v, h1, h2, h3⟩ := h; exact ⟨v, h1, .inl ⟨by decide, ⟨HS.out.1.trans (h3.out.mono HS.out.1.size), fun hx => (HS.out.2.1 hx).trans (h3.out.mono (HS.out.2.1 hx).size), fun hx => absurd (N7.out (by decide)) (by rw [hx]; decide)⟩, .inr h2.out, h3.out⟩⟩) ?_
              refine wpOp_plain rfl rfl ?_
              clear hdep h0
              unfold Oper.wp
              go_simp
              exact ⟨_, rfl, Lib.hid ⟨g, rfl, B0.out⟩, Lib.hid (Below.refl _ _)⟩
            · obtain rfl := Option.some.inj ho
              have v3 : A0.tmps.getD 45 undef = F 3 := Hget.out 3 45 (by decide) (hdep ⟨3, .data⟩ (by simp) rfl) rfl
              have s3 := Hsp.out 3 (by decide) (by decide) (hdep ⟨3, .data⟩ (by simp) rfl)
              obtain ⟨g, s3, b3⟩ := s3
              rw [s3] at v3
              have y0 := b3.cell k (show nameCells[k]? = some (.string X) by rw [HX.out]; exact nameCells_at k hk10)
              clear s3 b3
              refine wpOp_mono (fun a' w' (h : ∃ v, a' = A0.put (some 46) v ∧ Hid (lineSpec2 w.heap.size k (setC2 k t n a b) X V 4 v w') ∧ Hid (Below W.heap.size W w')) => by obtain ⟨v, h1, h2, h3⟩ := h; exact ⟨v, h1, .inl ⟨by decide, ⟨HS.out.1.trans (h3.out.mono HS.out.1.size), fun hx => (HS.out.2.1 hx).trans (h3.out.mono (HS.out.2.1 hx).size), fun hx => absurd (N7.out (by decide)) (by rw [hx]; decide)⟩, .inr h2.out, h3.out⟩⟩) ?_
              refine wpOp_plain rfl rfl ?_
              clear hdep h0
              unfold Oper.wp
              go_simp
              exact ⟨_, rfl, Lib.hid rfl, Lib.hid (Below.refl _ _)⟩
            · obtain rfl := Option.some.inj ho
              have e5 : A0.tmps.getD 5 undef = .string V := (Hold.out 5 (fun j hj hd => by have := (line_in2 j 5 hj hd).1; omega)).trans rfl
              refine wpOp_mono (fun a' w' (h : ∃ v, a' = A0.put (some 47) v ∧ Hid (lineSpec2 w.heap.size k (setC2 k t n a b) X V 5 v w') ∧ Hid (Below W.heap.size W w')) => by obtain ⟨v, h1, h2, h3⟩ := h; exact ⟨v, h1, .inl ⟨by decide, ⟨HS.out.1.trans (h3.out.mono HS.out.1.size), fun hx => (HS.out.2.1 hx).trans (h3.out.mono (HS.out.2.1 hx).size), fun hx => absurd (N7.out (by decide)) (by rw [hx]; decide)⟩, .inr h2.out, h3.out⟩⟩) ?_
              refine wpOp_plain rfl rfl ?_
              clear hdep h0
              unfold Oper.wp
              go_simp
              exact ⟨_, rfl, Lib.hid rfl, Lib.hid (Below.refl _ _)⟩
            · obtain rfl := Option.some.inj ho
              have v4 : A0.tmps.getD 46 undef = F 4 := Hget.out 4 46 (by decide) (hdep ⟨4, .data⟩ (by simp) rfl) rfl
              have s4 := Hsp.out 4 (by decide) (by decide) (hdep ⟨4, .data⟩ (by simp) rfl)
              have v5 : A0.tmps.getD 47 undef = F 5 := Hget.out 5 47 (by decide) (hdep ⟨5, .data⟩ (by simp) rfl) rfl
              have s5 := Hsp.out 5 (by decide) (by decide) (hdep ⟨5, .data⟩ (by simp) rfl)
              rw [show F 4 = _ from s4] at v4
              rw [show F 5 = _ from s5] at v5
              clear s4 s5
              have v4' : A0.tmps[46]?.getD undef = .string X := by simpa using v4
              have v5' : A0.tmps[47]?.getD undef = .string V := by simpa using v5
              refine wpOp_mono (fun a' w' (h : ∃ v, a' = A0.put (some 48) v ∧ Hid (lineSpec2 w.heap.size k (setC2 k t n a b) X V 6 v w') ∧ Hid (Below W.heap.size W w')) => by obtain ⟨v, h1, h2, h3⟩ := h; exact ⟨v, h1, .inl ⟨by decide, ⟨HS.out.1.trans (h3.out.mono HS.out.1.size), fun hx => (HS.out.2.1 hx).trans (h3.out.mono (HS.out.2.1 hx).size), fun hx => absurd (N7.out (by decide)) (by rw [hx]; decide)⟩, .inr h2.out, h3.out⟩⟩) ?_
              refine wpOp_plain rfl rfl ?_
              clear hdep h0
              unfold Oper.wp
              go_simp
              exact ⟨_, rfl, Lib.hid rfl, Lib.hid (Below.refl _ _)⟩
            · obtain rfl := Option.some.inj ho
              have v6 : A0.tmps.getD 48 undef = F 6 := Hget.out 6 48 (by decide) (hdep ⟨6, .data⟩ (by simp) rfl) rfl
              have s6 := Hsp.out 6 (by decide) (by decide) (hdep ⟨6, .data⟩ (by simp) rfl)
              rw [show F 6 = _ from s6] at v6
              unfold lineV at v6
              simp only at v6
              have v6' : A0.tmps[48]?.getD undef = .agg #[.string X, .string V] := by simpa using v6
              have e2 : A0.tmps.getD 2 undef = .pointer (some ⟨w.heap.size + 1, 0, none⟩) := (Hold.out 2 (fun j hj hd => by have := (line_in2 j 2 hj hd).1; omega)).trans rfl
              have hRW := HR3.out.kept (HS.out.2.1 (N7.out (by decide)))
              have c0 := hRW.cell 0 rfl
              have c1 := hRW.cell 1 rfl
              have f0 := hRW.frozen (by decide) 0
              have f1 := hRW.frozen (by decide) 1
              have HE := Lib.hid (hRW.set2 (.string X) (.string V))
              have HBE := Lib.hid ((HS.out.1.setCell (p := ⟨w.heap.size + 1, 0, none⟩) (Nat.le_succ _) (.string X)).setCell (p := ⟨w.heap.size + 1, 1, none⟩) (Nat.le_succ _) (.string V))
              clear s6 hRW
              refine wpOp_mono (fun a' w' (h : ∃ v, a' = A0.put none v ∧ Hid (Blk w' (w.heap.size + 1) 23 [.string X, .string V]) ∧ Hid (Below w.heap.size w w')) => by obtain ⟨v, h1, h2, h3⟩ := h; exact ⟨v, h1, .inr ⟨rfl, ⟨h3.out, fun hx => (by cases hx), fun _ => h2.out⟩, .inr trivial⟩⟩) ?_
              refine wpOp_plain rfl rfl ?_
              clear hdep h0
              unfold Oper.wp
              go_simp
              all_goals exact ⟨undef, rfl, HE, HBE⟩
            · obtain rfl := Option.some.inj ho
              have l7 := hdep ⟨7, .chain⟩ (by simp) rfl
              refine wpOp_mono (fun a' w' (h : ∃ v, a' = A0.put (some 3) v ∧ Hid (v = .int .i64 0) ∧ Hid (w' = W)) => by obtain ⟨v, h1, h2, h3⟩ := h; exact ⟨v, h1, .inl ⟨by decide, by rw [h3.out]; exact HS.out, .inr h2.out, by rw [h3.out]; exact Below.refl _ _⟩⟩) ?_
              refine wpOp_plain rfl rfl ?_
              clear hdep h0
              unfold Oper.wp
              go_simp
              exact ⟨_, rfl, Lib.hid rfl, Lib.hid (by trivial)⟩
        · rw [decide_eq_false h0] at hse
          obtain rfl : V = V0 := by rw [hvv.out, if_neg (fun e => h0 e.2)]
          clear h0 hvv h6
          go_upto_region 17 with fail
          obtain ⟨w3, hw3⟩ : ∃ w3, w3 = wc := ⟨_, rfl⟩
          subst hw3
          have HD := HC
          have HG3 : Hid (Blk w3 w.heap.size 28 (setC2 k t n a b)) := Lib.hid HD.out.1
          have HR3 := Lib.hid HD.out.2.1
          have HB3 := Lib.hid HD.out.2.2
          have HN := Lib.hid (fun W => ref_names W)
          obtain ⟨X, hX⟩ : ∃ X, X = Bt.nameOf k := ⟨_, rfl⟩
          have HX := Lib.hid hX
          have HL : Hid (Bt.line ⟨(k : Int), t, n, a, b⟩ = ⟨X, V⟩) := Lib.hid (by rw [Hl.out, HX.out, HV.out]; unfold Bt.lineOf; simp only [Int.toNat_natCast])
          clear hX HZ g0 g1 g2 g3 g4 hse HC
          have hmix : Tryz.prog.follows .mixedOrders = true := by kernel_rfl
          refine wp_region_vals 9 7 lineDst2 (fun b' j v W => (b' = true ∧ j < 7) ∨ lineSpec2 w.heap.size k (setC2 k t n a b) X V j v W) (fun b' W => Below w.heap.size w W ∧ (b' = false → Below w3.heap.size w3 W) ∧ (b' = true → Blk W (w.heap.size + 1) 23 [.string X, .string V])) hmix rfl line_dist2 ?low ?inn ?stab ?drop ?late ?s0 ?step ?done
          case low =>
            intro i o ho
            have hi : i < 9 := by
              have := (Array.getElem?_eq_some_iff.1 ho).1
              simpa using this
            have hc : i = 0 ∨ i = 1 ∨ i = 2 ∨ i = 3 ∨ i = 4 ∨ i = 5 ∨ i = 6 ∨ i = 7 ∨ i = 8 := by omega
            rcases hc with rfl | rfl | rfl | rfl | rfl | rfl | rfl | rfl | rfl <;> (obtain rfl := Option.some.inj ho; simp)
          case inn =>
            intro i d hi hd
            have hle := (line_in2 i d hi hd).2
            exact Nat.lt_of_le_of_lt hle (of_decide_eq_true rfl)
          case stab =>
            intro b' j u W W' hb h
            rcases h with h | h
            · exact .inl h
            · exact .inr (lineSpec2_kept hb h)
          case drop => exact fun j u W hj => .inl ⟨rfl, hj⟩
          case late =>
            intro j o hj ho
            have hi : j < 9 := by
              have := (Array.getElem?_eq_some_iff.1 ho).1
              simpa using this
            obtain rfl : j = 8 := by omega
            obtain rfl := Option.some.inj ho
            exact ⟨⟨7, .chain⟩, by simp, rfl, rfl⟩
          case s0 => exact ⟨HB3.out.drew, fun _ => (Below.refl _ _).drew, fun h => by cases h⟩
          case done =>
            intro F W hS hR
            have h8 : F 8 = .int .i64 0 := by
              rcases hR 8 (by decide) with ⟨_, h⟩ | h
              · omega
              · exact h
            have HE := Lib.hid (hS.2.2 rfl)
            have HBf := Lib.hid hS.1
            rw [line_put2, h8]
            simp only [Act.put, List.setIfInBounds_toArray, List.set_cons_succ, List.set_cons_zero]
            clear hR hS h8
            go_wp2
            exact bodyPost_ret (ret_cell (load_line HE.out rfl) Tryz.results19 rfl rfl) rfl ⟨by rw [HL.out, He.out]; rfl, HBf.out⟩
          case step =>
            intro listed W hs' hcl hSW A0 F hget hR hold i o ho h0 hdep
            have hi : i < 9 := by
              have := (Array.getElem?_eq_some_iff.1 ho).1
              simpa using this
            have hc : i = 0 ∨ i = 1 ∨ i = 2 ∨ i = 3 ∨ i = 4 ∨ i = 5 ∨ i = 6 ∨ i = 7 ∨ i = 8 := by omega
            have n7 : i < 8 → listed.getD 7 false = false := by
              intro hi8
              cases hx : listed.getD 7 false with
              | false => rfl
              | true =>
                exfalso
                have l6 := hcl 7 _ rfl hx ⟨6, .data⟩ (by simp) rfl
                have l5 := hcl 6 _ rfl l6 ⟨5, .data⟩ (by simp) rfl
                have l4 := hcl 6 _ rfl l6 ⟨4, .data⟩ (by simp) rfl
                have l3 := hcl 4 _ rfl l4 ⟨3, .data⟩ (by simp) rfl
                have l0 := hcl 3 _ rfl l3 ⟨0, .data⟩ (by simp) rfl
                have l2 := hcl 3 _ rfl l3 ⟨2, .data⟩ (by simp) rfl
                have l1 := hcl 2 _ rfl l2 ⟨1, .data⟩ (by simp) rfl
                rcases hc with rfl | rfl | rfl | rfl | rfl | rfl | rfl | rfl | rfl <;> first | omega | (simp_all)
            have Hsp := Lib.hid (show ∀ j, j < 7 → i < 8 → listed.getD j false = true → lineSpec2 w.heap.size k (setC2 k t n a b) X V j (F j) W by
              intro j hj hi8 hlj
              rcases hR j (by omega) hlj with ⟨hx, _⟩ | h
              · rw [n7 hi8] at hx; cases hx
              · exact h)
            have Hget := Lib.hid hget
            have Hold := Lib.hid hold
            have HS := Lib.hid hSW
            have N7 := Lib.hid n7
            clear hget hcl hold hSW hR n7
            rcases hc with rfl | rfl | rfl | rfl | rfl | rfl | rfl | rfl | rfl
            · obtain rfl := Option.some.inj ho
              refine wpOp_mono (fun a' w' (h : ∃ v, a' = A0.put (some 42) v ∧ Hid (lineSpec2 w.heap.size k (setC2 k t n a b) X V 0 v w') ∧ Hid (Below W.heap.size W w')) => by obtain ⟨v, h1, h2, h3⟩ := h; exact ⟨v, h1, .inl ⟨by decide, ⟨HS.out.1.trans (h3.out.mono HS.out.1.size), fun hx => (HS.out.2.1 hx).trans (h3.out.mono (HS.out.2.1 hx).size), fun hx => absurd (N7.out (by decide)) (by rw [hx]; decide)⟩, .inr h2.out, h3.out⟩⟩) ?_
              refine wpOp_plain rfl rfl ?_
              clear hdep h0
              unfold Oper.wp
              go_simp
              refine (HN.out W).mono ?_
              rintro e W' ⟨rfl, hg, hb⟩
              exact ⟨_, rfl, Lib.hid ⟨_, rfl, hg⟩, Lib.hid hb⟩
            · obtain rfl := Option.some.inj ho
              have e1 : A0.tmps.getD 1 undef = .pointer (some ⟨w.heap.size, 0, none⟩) := (Hold.out 1 (fun j hj hd => by have := (line_in2 j 1 hj hd).1; omega)).trans rfl
              have HF := Lib.hid (HG3.out.kept (HS.out.2.1 (N7.out (by decide))))
              refine wpOp_mono (fun a' w' (h : ∃ v, a' = A0.put (some 43) v ∧ Hid (lineSpec2 w.heap.size k (setC2 k t n a b) X V 1 v w') ∧ Hid (Below W.heap.size W w')) => by obtain ⟨v, h1, h2, h3⟩ := h; exact ⟨v, h1, .inl ⟨by decide, ⟨HS.out.1.trans (h3.out.mono HS.out.1.size), fun hx => (HS.out.2.1 hx).trans (h3.out.mono (HS.out.2.1 hx).size), fun hx => absurd (N7.out (by decide)) (by rw [hx]; decide)⟩, .inr h2.out, h3.out⟩⟩) ?_
              refine wpOp_plain rfl rfl ?_
              clear hdep h0
              unfold Oper.wp
              go_simp
              exact ⟨_, rfl, Lib.hid ⟨rfl, HF.out⟩, Lib.hid (Below.refl _ _)⟩
            · obtain rfl := Option.some.inj ho
              have v1 : A0.tmps.getD 43 undef = F 1 := Hget.out 1 43 (by decide) (hdep ⟨1, .data⟩ (by simp) rfl) rfl
              have s1 := Hsp.out 1 (by decide) (by decide) (hdep ⟨1, .data⟩ (by simp) rfl)
              rw [s1.1] at v1
              have y0 := s1.2.cell 0 rfl
              clear s1
              refine wpOp_mono (fun a' w' (h : ∃ v, a' = A0.put (some 44) v ∧ Hid (lineSpec2 w.heap.size k (setC2 k t n a b) X V 2 v w') ∧ Hid (Below W.heap.size W w')) => by obtain ⟨v, h1, h2, h3⟩ := h; exact ⟨v, h1, .inl ⟨by decide, ⟨HS.out.1.trans (h3.out.mono HS.out.1.size), fun hx => (HS.out.2.1 hx).trans (h3.out.mono (HS.out.2.1 hx).size), fun hx => absurd (N7.out (by decide)) (by rw [hx]; decide)⟩, .inr h2.out, h3.out⟩⟩) ?_
              refine wpOp_plain rfl rfl ?_
              clear hdep h0
              unfold Oper.wp
              go_simp
              exact ⟨_, rfl, Lib.hid rfl, Lib.hid (Below.refl _ _)⟩
            · obtain rfl := Option.some.inj ho
              have v0 : A0.tmps.getD 42 undef = F 0 := Hget.out 0 42 (by decide) (hdep ⟨0, .data⟩ (by simp) rfl) rfl
              have s0 := Hsp.out 0 (by decide) (by decide) (hdep ⟨0, .data⟩ (by simp) rfl)
              have v2 : A0.tmps.getD 44 undef = F 2 := Hget.out 2 44 (by decide) (hdep ⟨2, .data⟩ (by simp) rfl) rfl
              have s2 := Hsp.out 2 (by decide) (by decide) (hdep ⟨2, .data⟩ (by simp) rfl)
              obtain ⟨g, s0, b0⟩ := s0
              rw [s0] at v0
              rw [show F 2 = _ from s2] at v2
              have hk11 : (k : Int) < 11 := by omega
              have B0 := Lib.hid b0
              clear s0 s2 b0
              refine wpOp_mono (fun a' w' (h : ∃ v, a' = A0.put (some 45) v ∧ Hid (lineSpec2 w.heap.size k (setC2 k t n a b) X V 3 v w') ∧ Hid (Below W.heap.size W w')) => by obtain ⟨v, h1, h2, h3⟩ := h; exact ⟨v, h1, .inl ⟨by decide, ⟨HS.out.1.trans (h3.out.mono HS.out.1.size), fun hx => (HS.out.2.1 hx).trans (h3.out.mono (HS.out.2.1 hx).size), fun hx => absurd (N7.out (by decide)) (by rw [hx]; decide)⟩, .inr h2.out, h3.out⟩⟩) ?_
              refine wpOp_plain rfl rfl ?_
              clear hdep h0
              unfold Oper.wp
              go_simp
              exact ⟨_, rfl, Lib.hid ⟨g, rfl, B0.out⟩, Lib.hid (Below.refl _ _)⟩
            · obtain rfl := Option.some.inj ho
              have v3 : A0.tmps.getD 45 undef = F 3 := Hget.out 3 45 (by decide) (hdep ⟨3, .data⟩ (by simp) rfl) rfl
              have s3 := Hsp.out 3 (by decide) (by decide) (hdep ⟨3, .data⟩ (by simp) rfl)
              obtain ⟨g, s3, b3⟩ := s3
              rw [s3] at v3
              have y0 := b3.cell k (show nameCells[k]? = some (.string X) by rw [HX.out]; exact nameCells_at k hk10)
              clear s3 b3
              refine wpOp_mono (fun a' w' (h : ∃ v, a' = A0.put (some 46) v ∧ Hid (lineSpec2 w.heap.size k (setC2 k t n a b) X V 4 v w') ∧ Hid (Below W.heap.size W w')) => by obtain ⟨v, h1, h2, h3⟩ := h; exact ⟨v, h1, .inl ⟨by decide, ⟨HS.out.1.trans (h3.out.mono HS.out.1.size), fun hx => (HS.out.2.1 hx).trans (h3.out.mono (HS.out.2.1 hx).size), fun hx => absurd (N7.out (by decide)) (by rw [hx]; decide)⟩, .inr h2.out, h3.out⟩⟩) ?_
              refine wpOp_plain rfl rfl ?_
              clear hdep h0
              unfold Oper.wp
              go_simp
              exact ⟨_, rfl, Lib.hid rfl, Lib.hid (Below.refl _ _)⟩
            · obtain rfl := Option.some.inj ho
              have e5 : A0.tmps.getD 5 undef = .string V := (Hold.out 5 (fun j hj hd => by have := (line_in2 j 5 hj hd).1; omega)).trans rfl
              refine wpOp_mono (fun a' w' (h : ∃ v, a' = A0.put (some 47) v ∧ Hid (lineSpec2 w.heap.size k (setC2 k t n a b) X V 5 v w') ∧ Hid (Below W.heap.size W w')) => by obtain ⟨v, h1, h2, h3⟩ := h; exact ⟨v, h1, .inl ⟨by decide, ⟨HS.out.1.trans (h3.out.mono HS.out.1.size), fun hx => (HS.out.2.1 hx).trans (h3.out.mono (HS.out.2.1 hx).size), fun hx => absurd (N7.out (by decide)) (by rw [hx]; decide)⟩, .inr h2.out, h3.out⟩⟩) ?_
              refine wpOp_plain rfl rfl ?_
              clear hdep h0
              unfold Oper.wp
              go_simp
              exact ⟨_, rfl, Lib.hid rfl, Lib.hid (Below.refl _ _)⟩
            · obtain rfl := Option.some.inj ho
              have v4 : A0.tmps.getD 46 undef = F 4 := Hget.out 4 46 (by decide) (hdep ⟨4, .data⟩ (by simp) rfl) rfl
              have s4 := Hsp.out 4 (by decide) (by decide) (hdep ⟨4, .data⟩ (by simp) rfl)
              have v5 : A0.tmps.getD 47 undef = F 5 := Hget.out 5 47 (by decide) (hdep ⟨5, .data⟩ (by simp) rfl) rfl
              have s5 := Hsp.out 5 (by decide) (by decide) (hdep ⟨5, .data⟩ (by simp) rfl)
              rw [show F 4 = _ from s4] at v4
              rw [show F 5 = _ from s5] at v5
              clear s4 s5
              have v4' : A0.tmps[46]?.getD undef = .string X := by simpa using v4
              have v5' : A0.tmps[47]?.getD undef = .string V := by simpa using v5
              refine wpOp_mono (fun a' w' (h : ∃ v, a' = A0.put (some 48) v ∧ Hid (lineSpec2 w.heap.size k (setC2 k t n a b) X V 6 v w') ∧ Hid (Below W.heap.size W w')) => by obtain ⟨v, h1, h2, h3⟩ := h; exact ⟨v, h1, .inl ⟨by decide, ⟨HS.out.1.trans (h3.out.mono HS.out.1.size), fun hx => (HS.out.2.1 hx).trans (h3.out.mono (HS.out.2.1 hx).size), fun hx => absurd (N7.out (by decide)) (by rw [hx]; decide)⟩, .inr h2.out, h3.out⟩⟩) ?_
              refine wpOp_plain rfl rfl ?_
              clear hdep h0
              unfold Oper.wp
              go_simp
              exact ⟨_, rfl, Lib.hid rfl, Lib.hid (Below.refl _ _)⟩
            · obtain rfl := Option.some.inj ho
              have v6 : A0.tmps.getD 48 undef = F 6 := Hget.out 6 48 (by decide) (hdep ⟨6, .data⟩ (by simp) rfl) rfl
              have s6 := Hsp.out 6 (by decide) (by decide) (hdep ⟨6, .data⟩ (by simp) rfl)
              rw [show F 6 = _ from s6] at v6
              unfold lineV at v6
              simp only at v6
              have v6' : A0.tmps[48]?.getD undef = .agg #[.string X, .string V] := by simpa using v6
              have e2 : A0.tmps.getD 2 undef = .pointer (some ⟨w.heap.size + 1, 0, none⟩) := (Hold.out 2 (fun j hj hd => by have := (line_in2 j 2 hj hd).1; omega)).trans rfl
              have hRW := HR3.out.kept (HS.out.2.1 (N7.out (by decide)))
              have c0 := hRW.cell 0 rfl
              have c1 := hRW.cell 1 rfl
              have f0 := hRW.frozen (by decide) 0
              have f1 := hRW.frozen (by decide) 1
              have HE := Lib.hid (hRW.set2 (.string X) (.string V))
              have HBE := Lib.hid ((HS.out.1.setCell (p := ⟨w.heap.size + 1, 0, none⟩) (Nat.le_succ _) (.string X)).setCell (p := ⟨w.heap.size + 1, 1, none⟩) (Nat.le_succ _) (.string V))
              clear s6 hRW
              refine wpOp_mono (fun a' w' (h : ∃ v, a' = A0.put none v ∧ Hid (Blk w' (w.heap.size + 1) 23 [.string X, .string V]) ∧ Hid (Below w.heap.size w w')) => by obtain ⟨v, h1, h2, h3⟩ := h; exact ⟨v, h1, .inr ⟨rfl, ⟨h3.out, fun hx => (by cases hx), fun _ => h2.out⟩, .inr trivial⟩⟩) ?_
              refine wpOp_plain rfl rfl ?_
              clear hdep h0
              unfold Oper.wp
              go_simp
              all_goals exact ⟨undef, rfl, HE, HBE⟩
            · obtain rfl := Option.some.inj ho
              have l7 := hdep ⟨7, .chain⟩ (by simp) rfl
              refine wpOp_mono (fun a' w' (h : ∃ v, a' = A0.put (some 3) v ∧ Hid (v = .int .i64 0) ∧ Hid (w' = W)) => by obtain ⟨v, h1, h2, h3⟩ := h; exact ⟨v, h1, .inl ⟨by decide, by rw [h3.out]; exact HS.out, .inr h2.out, by rw [h3.out]; exact Below.refl _ _⟩⟩) ?_
              refine wpOp_plain rfl rfl ?_
              clear hdep h0
              unfold Oper.wp
              go_simp
              exact ⟨_, rfl, Lib.hid rfl, Lib.hid (by trivial)⟩
      · have d6 : ((k : Int) == 6) = false := by simpa using h6
        obtain rfl : V = V0 := by rw [hvv.out, if_neg (fun e => h6 e.1)]
        clear hvv h6
        go_upto_region 17 with fail
        obtain ⟨w3, hw3⟩ : ∃ w3, w3 = wc := ⟨_, rfl⟩
        subst hw3
        have HD := HC
        have HG3 : Hid (Blk w3 w.heap.size 28 (setC2 k t n a b)) := Lib.hid HD.out.1
        have HR3 := Lib.hid HD.out.2.1
        have HB3 := Lib.hid HD.out.2.2
        have HN := Lib.hid (fun W => ref_names W)
        obtain ⟨X, hX⟩ : ∃ X, X = Bt.nameOf k := ⟨_, rfl⟩
        have HX := Lib.hid hX
        have HL : Hid (Bt.line ⟨(k : Int), t, n, a, b⟩ = ⟨X, V⟩) := Lib.hid (by rw [Hl.out, HX.out, HV.out]; unfold Bt.lineOf; simp only [Int.toNat_natCast])
        clear hX HZ g0 g1 g2 g3 g4 hse HC
        have hmix : Tryz.prog.follows .mixedOrders = true := by kernel_rfl
        refine wp_region_vals 9 7 lineDst2 (fun b' j v W => (b' = true ∧ j < 7) ∨ lineSpec2 w.heap.size k (setC2 k t n a b) X V j v W) (fun b' W => Below w.heap.size w W ∧ (b' = false → Below w3.heap.size w3 W) ∧ (b' = true → Blk W (w.heap.size + 1) 23 [.string X, .string V])) hmix rfl line_dist2 ?low ?inn ?stab ?drop ?late ?s0 ?step ?done
        case low =>
          intro i o ho
          have hi : i < 9 := by
            have := (Array.getElem?_eq_some_iff.1 ho).1
            simpa using this
          have hc : i = 0 ∨ i = 1 ∨ i = 2 ∨ i = 3 ∨ i = 4 ∨ i = 5 ∨ i = 6 ∨ i = 7 ∨ i = 8 := by omega
          rcases hc with rfl | rfl | rfl | rfl | rfl | rfl | rfl | rfl | rfl <;> (obtain rfl := Option.some.inj ho; simp)
        case inn =>
          intro i d hi hd
          have hle := (line_in2 i d hi hd).2
          exact Nat.lt_of_le_of_lt hle (of_decide_eq_true rfl)
        case stab =>
          intro b' j u W W' hb h
          rcases h with h | h
          · exact .inl h
          · exact .inr (lineSpec2_kept hb h)
        case drop => exact fun j u W hj => .inl ⟨rfl, hj⟩
        case late =>
          intro j o hj ho
          have hi : j < 9 := by
            have := (Array.getElem?_eq_some_iff.1 ho).1
            simpa using this
          obtain rfl : j = 8 := by omega
          obtain rfl := Option.some.inj ho
          exact ⟨⟨7, .chain⟩, by simp, rfl, rfl⟩
        case s0 => exact ⟨HB3.out.drew, fun _ => (Below.refl _ _).drew, fun h => by cases h⟩
        case done =>
          intro F W hS hR
          have h8 : F 8 = .int .i64 0 := by
            rcases hR 8 (by decide) with ⟨_, h⟩ | h
            · omega
            · exact h
          have HE := Lib.hid (hS.2.2 rfl)
          have HBf := Lib.hid hS.1
          rw [line_put2, h8]
          simp only [Act.put, List.setIfInBounds_toArray, List.set_cons_succ, List.set_cons_zero]
          clear hR hS h8
          go_wp2
          exact bodyPost_ret (ret_cell (load_line HE.out rfl) Tryz.results19 rfl rfl) rfl ⟨by rw [HL.out, He.out]; rfl, HBf.out⟩
        case step =>
          intro listed W hs' hcl hSW A0 F hget hR hold i o ho h0 hdep
          have hi : i < 9 := by
            have := (Array.getElem?_eq_some_iff.1 ho).1
            simpa using this
          have hc : i = 0 ∨ i = 1 ∨ i = 2 ∨ i = 3 ∨ i = 4 ∨ i = 5 ∨ i = 6 ∨ i = 7 ∨ i = 8 := by omega
          have n7 : i < 8 → listed.getD 7 false = false := by
            intro hi8
            cases hx : listed.getD 7 false with
            | false => rfl
            | true =>
              exfalso
              have l6 := hcl 7 _ rfl hx ⟨6, .data⟩ (by simp) rfl
              have l5 := hcl 6 _ rfl l6 ⟨5, .data⟩ (by simp) rfl
              have l4 := hcl 6 _ rfl l6 ⟨4, .data⟩ (by simp) rfl
              have l3 := hcl 4 _ rfl l4 ⟨3, .data⟩ (by simp) rfl
              have l0 := hcl 3 _ rfl l3 ⟨0, .data⟩ (by simp) rfl
              have l2 := hcl 3 _ rfl l3 ⟨2, .data⟩ (by simp) rfl
              have l1 := hcl 2 _ rfl l2 ⟨1, .data⟩ (by simp) rfl
              rcases hc with rfl | rfl | rfl | rfl | rfl | rfl | rfl | rfl | rfl <;> first | omega | (simp_all)
          have Hsp := Lib.hid (show ∀ j, j < 7 → i < 8 → listed.getD j false = true → lineSpec2 w.heap.size k (setC2 k t n a b) X V j (F j) W by
            intro j hj hi8 hlj
            rcases hR j (by omega) hlj with ⟨hx, _⟩ | h
            · rw [n7 hi8] at hx; cases hx
            · exact h)
          have Hget := Lib.hid hget
          have Hold := Lib.hid hold
          have HS := Lib.hid hSW
          have N7 := Lib.hid n7
          clear hget hcl hold hSW hR n7
          rcases hc with rfl | rfl | rfl | rfl | rfl | rfl | rfl | rfl | rfl
          · obtain rfl := Option.some.inj ho
            refine wpOp_mono (fun a' w' (h : ∃ v, a' = A0.put (some 42) v ∧ Hid (lineSpec2 w.heap.size k (setC2 k t n a b) X V 0 v w') ∧ Hid (Below W.heap.size W w')) => by obtain ⟨v, h1, h2, h3⟩ := h; exact ⟨v, h1, .inl ⟨by decide, ⟨HS.out.1.trans (h3.out.mono HS.out.1.size), fun hx => (HS.out.2.1 hx).trans (h3.out.mono (HS.out.2.1 hx).size), fun hx => absurd (N7.out (by decide)) (by rw [hx]; decide)⟩, .inr h2.out, h3.out⟩⟩) ?_
            refine wpOp_plain rfl rfl ?_
            clear hdep h0
            unfold Oper.wp
            go_simp
            refine (HN.out W).mono ?_
            rintro e W' ⟨rfl, hg, hb⟩
            exact ⟨_, rfl, Lib.hid ⟨_, rfl, hg⟩, Lib.hid hb⟩
          · obtain rfl := Option.some.inj ho
            have e1 : A0.tmps.getD 1 undef = .pointer (some ⟨w.heap.size, 0, none⟩) := (Hold.out 1 (fun j hj hd => by have := (line_in2 j 1 hj hd).1; omega)).trans rfl
            have HF := Lib.hid (HG3.out.kept (HS.out.2.1 (N7.out (by decide))))
            refine wpOp_mono (fun a' w' (h : ∃ v, a' = A0.put (some 43) v ∧ Hid (lineSpec2 w.heap.size k (setC2 k t n a b) X V 1 v w') ∧ Hid (Below W.heap.size W w')) => by obtain ⟨v, h1, h2, h3⟩ := h; exact ⟨v, h1, .inl ⟨by decide, ⟨HS.out.1.trans (h3.out.mono HS.out.1.size), fun hx => (HS.out.2.1 hx).trans (h3.out.mono (HS.out.2.1 hx).size), fun hx => absurd (N7.out (by decide)) (by rw [hx]; decide)⟩, .inr h2.out, h3.out⟩⟩) ?_
            refine wpOp_plain rfl rfl ?_
            clear hdep h0
            unfold Oper.wp
            go_simp
            exact ⟨_, rfl, Lib.hid ⟨rfl, HF.out⟩, Lib.hid (Below.refl _ _)⟩
          · obtain rfl := Option.some.inj ho
            have v1 : A0.tmps.getD 43 undef = F 1 := Hget.out 1 43 (by decide) (hdep ⟨1, .data⟩ (by simp) rfl) rfl
            have s1 := Hsp.out 1 (by decide) (by decide) (hdep ⟨1, .data⟩ (by simp) rfl)
            rw [s1.1] at v1
            have y0 := s1.2.cell 0 rfl
            clear s1
            refine wpOp_mono (fun a' w' (h : ∃ v, a' = A0.put (some 44) v ∧ Hid (lineSpec2 w.heap.size k (setC2 k t n a b) X V 2 v w') ∧ Hid (Below W.heap.size W w')) => by obtain ⟨v, h1, h2, h3⟩ := h; exact ⟨v, h1, .inl ⟨by decide, ⟨HS.out.1.trans (h3.out.mono HS.out.1.size), fun hx => (HS.out.2.1 hx).trans (h3.out.mono (HS.out.2.1 hx).size), fun hx => absurd (N7.out (by decide)) (by rw [hx]; decide)⟩, .inr h2.out, h3.out⟩⟩) ?_
            refine wpOp_plain rfl rfl ?_
            clear hdep h0
            unfold Oper.wp
            go_simp
            exact ⟨_, rfl, Lib.hid rfl, Lib.hid (Below.refl _ _)⟩
          · obtain rfl := Option.some.inj ho
            have v0 : A0.tmps.getD 42 undef = F 0 := Hget.out 0 42 (by decide) (hdep ⟨0, .data⟩ (by simp) rfl) rfl
            have s0 := Hsp.out 0 (by decide) (by decide) (hdep ⟨0, .data⟩ (by simp) rfl)
            have v2 : A0.tmps.getD 44 undef = F 2 := Hget.out 2 44 (by decide) (hdep ⟨2, .data⟩ (by simp) rfl) rfl
            have s2 := Hsp.out 2 (by decide) (by decide) (hdep ⟨2, .data⟩ (by simp) rfl)
            obtain ⟨g, s0, b0⟩ := s0
            rw [s0] at v0
            rw [show F 2 = _ from s2] at v2
            have hk11 : (k : Int) < 11 := by omega
            have B0 := Lib.hid b0
            clear s0 s2 b0
            refine wpOp_mono (fun a' w' (h : ∃ v, a' = A0.put (some 45) v ∧ Hid (lineSpec2 w.heap.size k (setC2 k t n a b) X V 3 v w') ∧ Hid (Below W.heap.size W w')) => by obtain ⟨v, h1, h2, h3⟩ := h; exact ⟨v, h1, .inl ⟨by decide, ⟨HS.out.1.trans (h3.out.mono HS.out.1.size), fun hx => (HS.out.2.1 hx).trans (h3.out.mono (HS.out.2.1 hx).size), fun hx => absurd (N7.out (by decide)) (by rw [hx]; decide)⟩, .inr h2.out, h3.out⟩⟩) ?_
            refine wpOp_plain rfl rfl ?_
            clear hdep h0
            unfold Oper.wp
            go_simp
            exact ⟨_, rfl, Lib.hid ⟨g, rfl, B0.out⟩, Lib.hid (Below.refl _ _)⟩
          · obtain rfl := Option.some.inj ho
            have v3 : A0.tmps.getD 45 undef = F 3 := Hget.out 3 45 (by decide) (hdep ⟨3, .data⟩ (by simp) rfl) rfl
            have s3 := Hsp.out 3 (by decide) (by decide) (hdep ⟨3, .data⟩ (by simp) rfl)
            obtain ⟨g, s3, b3⟩ := s3
            rw [s3] at v3
            have y0 := b3.cell k (show nameCells[k]? = some (.string X) by rw [HX.out]; exact nameCells_at k hk10)
            clear s3 b3
            refine wpOp_mono (fun a' w' (h : ∃ v, a' = A0.put (some 46) v ∧ Hid (lineSpec2 w.heap.size k (setC2 k t n a b) X V 4 v w') ∧ Hid (Below W.heap.size W w')) => by obtain ⟨v, h1, h2, h3⟩ := h; exact ⟨v, h1, .inl ⟨by decide, ⟨HS.out.1.trans (h3.out.mono HS.out.1.size), fun hx => (HS.out.2.1 hx).trans (h3.out.mono (HS.out.2.1 hx).size), fun hx => absurd (N7.out (by decide)) (by rw [hx]; decide)⟩, .inr h2.out, h3.out⟩⟩) ?_
            refine wpOp_plain rfl rfl ?_
            clear hdep h0
            unfold Oper.wp
            go_simp
            exact ⟨_, rfl, Lib.hid rfl, Lib.hid (Below.refl _ _)⟩
          · obtain rfl := Option.some.inj ho
            have e5 : A0.tmps.getD 5 undef = .string V := (Hold.out 5 (fun j hj hd => by have := (line_in2 j 5 hj hd).1; omega)).trans rfl
            refine wpOp_mono (fun a' w' (h : ∃ v, a' = A0.put (some 47) v ∧ Hid (lineSpec2 w.heap.size k (setC2 k t n a b) X V 5 v w') ∧ Hid (Below W.heap.size W w')) => by obtain ⟨v, h1, h2, h3⟩ := h; exact ⟨v, h1, .inl ⟨by decide, ⟨HS.out.1.trans (h3.out.mono HS.out.1.size), fun hx => (HS.out.2.1 hx).trans (h3.out.mono (HS.out.2.1 hx).size), fun hx => absurd (N7.out (by decide)) (by rw [hx]; decide)⟩, .inr h2.out, h3.out⟩⟩) ?_
            refine wpOp_plain rfl rfl ?_
            clear hdep h0
            unfold Oper.wp
            go_simp
            exact ⟨_, rfl, Lib.hid rfl, Lib.hid (Below.refl _ _)⟩
          · obtain rfl := Option.some.inj ho
            have v4 : A0.tmps.getD 46 undef = F 4 := Hget.out 4 46 (by decide) (hdep ⟨4, .data⟩ (by simp) rfl) rfl
            have s4 := Hsp.out 4 (by decide) (by decide) (hdep ⟨4, .data⟩ (by simp) rfl)
            have v5 : A0.tmps.getD 47 undef = F 5 := Hget.out 5 47 (by decide) (hdep ⟨5, .data⟩ (by simp) rfl) rfl
            have s5 := Hsp.out 5 (by decide) (by decide) (hdep ⟨5, .data⟩ (by simp) rfl)
            rw [show F 4 = _ from s4] at v4
            rw [show F 5 = _ from s5] at v5
            clear s4 s5
            have v4' : A0.tmps[46]?.getD undef = .string X := by simpa using v4
            have v5' : A0.tmps[47]?.getD undef = .string V := by simpa using v5
            refine wpOp_mono (fun a' w' (h : ∃ v, a' = A0.put (some 48) v ∧ Hid (lineSpec2 w.heap.size k (setC2 k t n a b) X V 6 v w') ∧ Hid (Below W.heap.size W w')) => by obtain ⟨v, h1, h2, h3⟩ := h; exact ⟨v, h1, .inl ⟨by decide, ⟨HS.out.1.trans (h3.out.mono HS.out.1.size), fun hx => (HS.out.2.1 hx).trans (h3.out.mono (HS.out.2.1 hx).size), fun hx => absurd (N7.out (by decide)) (by rw [hx]; decide)⟩, .inr h2.out, h3.out⟩⟩) ?_
            refine wpOp_plain rfl rfl ?_
            clear hdep h0
            unfold Oper.wp
            go_simp
            exact ⟨_, rfl, Lib.hid rfl, Lib.hid (Below.refl _ _)⟩
          · obtain rfl := Option.some.inj ho
            have v6 : A0.tmps.getD 48 undef = F 6 := Hget.out 6 48 (by decide) (hdep ⟨6, .data⟩ (by simp) rfl) rfl
            have s6 := Hsp.out 6 (by decide) (by decide) (hdep ⟨6, .data⟩ (by simp) rfl)
            rw [show F 6 = _ from s6] at v6
            unfold lineV at v6
            simp only at v6
            have v6' : A0.tmps[48]?.getD undef = .agg #[.string X, .string V] := by simpa using v6
            have e2 : A0.tmps.getD 2 undef = .pointer (some ⟨w.heap.size + 1, 0, none⟩) := (Hold.out 2 (fun j hj hd => by have := (line_in2 j 2 hj hd).1; omega)).trans rfl
            have hRW := HR3.out.kept (HS.out.2.1 (N7.out (by decide)))
            have c0 := hRW.cell 0 rfl
            have c1 := hRW.cell 1 rfl
            have f0 := hRW.frozen (by decide) 0
            have f1 := hRW.frozen (by decide) 1
            have HE := Lib.hid (hRW.set2 (.string X) (.string V))
            have HBE := Lib.hid ((HS.out.1.setCell (p := ⟨w.heap.size + 1, 0, none⟩) (Nat.le_succ _) (.string X)).setCell (p := ⟨w.heap.size + 1, 1, none⟩) (Nat.le_succ _) (.string V))
            clear s6 hRW
            refine wpOp_mono (fun a' w' (h : ∃ v, a' = A0.put none v ∧ Hid (Blk w' (w.heap.size + 1) 23 [.string X, .string V]) ∧ Hid (Below w.heap.size w w')) => by obtain ⟨v, h1, h2, h3⟩ := h; exact ⟨v, h1, .inr ⟨rfl, ⟨h3.out, fun hx => (by cases hx), fun _ => h2.out⟩, .inr trivial⟩⟩) ?_
            refine wpOp_plain rfl rfl ?_
            clear hdep h0
            unfold Oper.wp
            go_simp
            all_goals exact ⟨undef, rfl, HE, HBE⟩
          · obtain rfl := Option.some.inj ho
            have l7 := hdep ⟨7, .chain⟩ (by simp) rfl
            refine wpOp_mono (fun a' w' (h : ∃ v, a' = A0.put (some 3) v ∧ Hid (v = .int .i64 0) ∧ Hid (w' = W)) => by obtain ⟨v, h1, h2, h3⟩ := h; exact ⟨v, h1, .inl ⟨by decide, by rw [h3.out]; exact HS.out, .inr h2.out, by rw [h3.out]; exact Below.refl _ _⟩⟩) ?_
            refine wpOp_plain rfl rfl ?_
            clear hdep h0
            unfold Oper.wp
            go_simp
            exact ⟨_, rfl, Lib.hid rfl, Lib.hid (by trivial)⟩
end Go.Proofs.YthlagpmacnijfaaGreatDoor

namespace Go.Proofs.YthlagpmacnijfaaGreatDoor.Ad

theorem parts_length (c : UInt8) : ∀ l : List UInt8, (parts c l).length = l.count c + 1 := by
  intro l
  induction l with
  | nil => rfl
  | cons x r ih =>
    by_cases hx : x = c
    · subst hx
      rw [parts, if_pos rfl, List.count_cons_self, List.length_cons, ih]
    · rw [parts, if_neg hx, List.count_cons_of_ne hx]
      match hp : parts c r, parts_ne c r with
      | p :: ps, _ => rw [hp] at ih; simpa using ih
/-- A text at its first byte c. -/
theorem at_first (c : UInt8) (l : List UInt8) : (Lib.index l [c] = -1 ∧ c ∉ l) ∨ ∃ i : Nat, Lib.index l [c] = (i : Int) ∧ c ∉ l.take i ∧ l = l.take i ++ c :: l.drop (i + 1) := by
  rw [Lib.index_one]
  have hge := Lib.indexByte_ge l c
  by_cases h : Lib.indexByte l c = -1
  · left
    refine ⟨h, fun hm => ?_⟩
    obtain ⟨i, hi, he⟩ := List.mem_iff_getElem.1 hm
    exact Lib.indexByte_none h i (by rw [List.getElem?_eq_getElem hi, he])
  · right
    obtain ⟨i, hi⟩ : ∃ i : Nat, Lib.indexByte l c = (i : Int) := ⟨(Lib.indexByte l c).toNat, by omega⟩
    obtain ⟨h1, h2⟩ := Lib.indexByte_some hi
    have hlt : i < l.length := by
      by_cases hk : i < l.length
      · exact hk
      · rw [List.getElem?_eq_none (by omega)] at h1; cases h1
    refine ⟨i, hi, fun hm => ?_, ?_⟩
    · obtain ⟨j, hj, he⟩ := List.mem_iff_getElem.1 hm
      rw [List.length_take] at hj
      rw [List.getElem_take] at he
      exact h2 j (by omega) (by rw [List.getElem?_eq_getElem (by omega), he])
    · rw [List.getElem?_eq_getElem hlt] at h1
      injection h1 with h1
      rw [← h1, ← List.drop_eq_getElem_cons hlt, List.take_append_drop]
theorem split_hit (c : UInt8) (k : Nat) (l : List UInt8) (i : Nat) (h : Lib.index l [c] = (i : Int)) : Lib.splitK [c] 0 (k + 1) l = l.take i :: Lib.splitK [c] 0 k (l.drop (i + 1)) := by
  rw [Lib.splitK, h, if_neg (by simp), Int.toNat_natCast]
  rfl
theorem split_miss (c : UInt8) (k : Nat) (l : List UInt8) (h : Lib.index l [c] = -1) : Lib.splitK [c] 0 k l = [l] := by
  cases k with
  | zero => rfl
  | succ k => rw [Lib.splitK, h]; rfl
theorem count_at (c : UInt8) (p r : List UInt8) (h : c ∉ p) : (p ++ c :: r).count c = r.count c + 1 := by
  rw [List.count_append, List.count_eq_zero.2 h, List.count_cons_self]; omega
/-- Cut at as many bytes as there are: the pieces. -/
theorem split_all (c : UInt8) : ∀ (k : Nat) (l : List UInt8), l.count c ≤ k → Lib.splitK [c] 0 k l = parts c l := by
  intro k
  induction k with
  | zero =>
    intro l h
    rw [parts_plain c l (List.count_eq_zero.1 (by omega))]
    rfl
  | succ k ih =>
    intro l h
    rcases at_first c l with ⟨hi, hm⟩ | ⟨i, hi, hm, he⟩
    · rw [split_miss c _ l hi, parts_plain c l hm]
    · rw [split_hit c k l i hi]
      have hc : (l.drop (i + 1)).count c ≤ k := by
        rw [he, count_at c _ _ hm] at h; omega
      rw [ih _ hc]
      conv => rhs; rw [he, parts_front c _ _ hm]
/-- Cut at fewer: one piece more than cuts. -/
theorem split_some (c : UInt8) : ∀ (k : Nat) (l : List UInt8), k < l.count c → (Lib.splitK [c] 0 k l).length = k + 1 := by
  intro k
  induction k with
  | zero => intro l _; rfl
  | succ k ih =>
    intro l h
    rcases at_first c l with ⟨hi, hm⟩ | ⟨i, hi, hm, he⟩
    · rw [List.count_eq_zero.2 hm] at h; omega
    · rw [split_hit c k l i hi, List.length_cons]
      have hc : k < (l.drop (i + 1)).count c := by
        rw [he, count_at c _ _ hm] at h; omega
      rw [ih _ hc]
/-- Cut at the first four at most, or at as many as the text has letters: four pieces exactly if there are four in all, and then they are these. -/
theorem split_four (c : UInt8) (l : List UInt8) (N : Nat) (hN : N = min 5 (l.length + 1)) :
    (Lib.splitK [c] 0 (N - 1) l).length = 4 ∧ Lib.splitK [c] 0 (N - 1) l = parts c l ∨ (Lib.splitK [c] 0 (N - 1) l).length ≠ 4 ∧ (parts c l).length ≠ 4 := by
  have hcl := List.count_le_length (a := c) (l := l)
  by_cases h : l.count c ≤ N - 1
  · rw [split_all c _ l h]
    by_cases h4 : (parts c l).length = 4
    · exact .inl ⟨h4, rfl⟩
    · exact .inr ⟨h4, h4⟩
  · right
    rw [split_some c _ l (by omega), parts_length]
    omega
end Go.Proofs.YthlagpmacnijfaaGreatDoor.Ad

namespace Go.Proofs.YthlagpmacnijfaaGreatDoor

theorem good_lt (l : List UInt8) : Ad.addrOut l < 4294967296 := by
  unfold Ad.addrOut
  by_cases h : Ad.good l = true
  · rw [if_pos h]; exact (Ad.text_good l h).1
  · rw [if_neg h]; decide
theorem num_le (l : List UInt8) (most : Nat) : Ad.numOut l (most : Int) ≤ most := by
  unfold Ad.numOut
  by_cases h : Ad.numErr l (most : Int) = 0
  · rw [if_pos h]
    unfold Ad.numErr at h
    by_cases hc : Ad.isNum l = true ∧ (Ad.val l : Int) ≤ (most : Int)
    · omega
    · rw [if_neg hc] at h; cases h
  · rw [if_neg h]; omega
end Go.Proofs.YthlagpmacnijfaaGreatDoor
