/- The contract of the laws' helper message, kind 1. -/
import Derived.Test.YtfgkodgdoplpbabWireKeep1
namespace Go.Proofs.Ytfgkodgdoplpbab
open Go.RowKit

set_option maxRecDepth 10000 in
set_option maxHeartbeats 8000000 in
theorem keep_message_1 (k a b : Int) (s : ByteArray) (w : World) (k0 : -9223372036854775808 ≤ k) (k1 : k ≤ 9223372036854775807) (a0 : -9223372036854775808 ≤ a) (a1 : a ≤ 9223372036854775807) (b0 : -9223372036854775808 ≤ b) (b1 : b ≤ 9223372036854775807) (hp : pick k 3 = 1) :
    Calls Try.prog 16 #[rawV k a b s] w fun e w' => ∃ gb, e = .returned (messV (Wr.gk k) (Wr.gs k a) (Wr.gr k a b) (Wr.gc k b) (some ⟨gb, 0, none⟩) (Wr.gn k s) (Wr.gn k s)) ∧ BytesAt w' w'.heap.size (some ⟨gb, 0, none⟩) (Wr.gn k s) (Wr.gb k s) ∧ Below w.heap.size w w' := by
  have HK : Hid (∀ W, Calls Try.prog 18 #[.int .i64 k, .int .i64 3] W fun e w' => e = .returned (.int .i64 1) ∧ W = w') := Lib.hid (fun W => by
    have := keep_picked k 3 W k0 k1 (by decide) (by decide)
    rw [hp] at this
    exact this)
  have EK : Hid (Wr.gk k = 2 ∧ Wr.gs k a = pick a 4294967296 ∧ Wr.gr k a b = pick b 4294967296 ∧ Wr.gc k b = 0 ∧ Wr.gn k s = 24) := Lib.hid (by unfold Wr.gk Wr.gs Wr.gr Wr.gc Wr.gn; rw [hp]; exact ⟨rfl, rfl, rfl, rfl, rfl⟩)
  have EB := Lib.hid (show Wr.gb k s = s.data.toList.take (Wr.gn k s) ++ (List.replicate (Wr.gn k s) 0).drop s.size from rfl)
  have HS := Lib.hid (fun W => keep_picked a 4294967296 W a0 a1 (by decide) (by decide))
  have HR := Lib.hid (fun W => keep_picked b 4294967296 W b0 b1 (by decide) (by decide))
  have lS := pick_lt a 4294967296 (by decide)
  have lR := pick_lt b 4294967296 (by decide)
  have hmk : ∀ W, (Instr.makeSlice 22 (.int .i64 24) (.int .i64 24)).run Try.prog W = .ok (.slice (some ⟨W.heap.size, 0, none⟩) 24 24) (W.alloc (.cells (bcells (List.replicate 24 0)).toArray 5)) := make8_full 24 (by decide)
  obtain ⟨Z, hZ⟩ : ∃ Z : Obj, Z = .cells (bcells (List.replicate 24 0)).toArray 5 := ⟨_, rfl⟩
  simp only [← hZ] at hmk
  have HZe := Lib.hid hZ
  clear hZ
  obtain ⟨g, hg⟩ : ∃ g, g = w.heap.size := ⟨_, rfl⟩
  obtain ⟨w4, hw4⟩ : ∃ w4, w4 = (((w.alloc (.cells #[.int .i64 k, .int .i64 a, .int .i64 b, .string s] 36)).alloc (.cells #[.int .i64 0, .int .i64 0, .int .i64 0, .int .i64 0, .slice none 0 0] 24)).alloc (.cells #[.int .i64 1, .int .i64 2, .int .i64 4] 3)).alloc (.cells #[.int .i64 2, .int .i64 0, .int .i64 0, .int .i64 0, .slice none 0 0] 24) := ⟨_, rfl⟩
  have z1 : (w.alloc (.cells #[.int .i64 k, .int .i64 a, .int .i64 b, .string s] 36)).heap.size = g + 1 := by rw [hg]; simp
  have z2 : ((w.alloc (.cells #[.int .i64 k, .int .i64 a, .int .i64 b, .string s] 36)).alloc (.cells #[.int .i64 0, .int .i64 0, .int .i64 0, .int .i64 0, .slice none 0 0] 24)).heap.size = g + 1 + 1 := by rw [hg]; simp
  have z3 : (((w.alloc (.cells #[.int .i64 k, .int .i64 a, .int .i64 b, .string s] 36)).alloc (.cells #[.int .i64 0, .int .i64 0, .int .i64 0, .int .i64 0, .slice none 0 0] 24)).alloc (.cells #[.int .i64 1, .int .i64 2, .int .i64 4] 3)).heap.size = g + 1 + 1 + 1 := by rw [hg]; simp
  have z4 : w4.heap.size = g + 1 + 1 + 1 + 1 := by rw [hw4, hg]; simp
  have hA : Below g w w4 := by rw [hw4, hg]; exact ((((Below.refl _ _).alloc (Nat.le_refl _) _).alloc (by simp) _).alloc (by simp; omega) _).alloc (by simp; omega) _
  have hR4 : Blk w4 g 36 [.int .i64 k, .int .i64 a, .int .i64 b, .string s] := by
    rw [hw4, hg]; exact (((Blk.new w 36 [.int .i64 k, .int .i64 a, .int .i64 b, .string s]).kept ((Below.refl _ _).alloc (Nat.le_refl _) _)).kept ((Below.refl _ _).alloc (Nat.le_refl _) _)).kept ((Below.refl _ _).alloc (Nat.le_refl _) _)
  have hP4 : Blk w4 (g + 1) 24 [.int .i64 0, .int .i64 0, .int .i64 0, .int .i64 0, .slice none 0 0] := by
    have := ((Blk.new (w.alloc (.cells #[.int .i64 k, .int .i64 a, .int .i64 b, .string s] 36)) 24 [.int .i64 0, .int .i64 0, .int .i64 0, .int .i64 0, .slice none 0 0]).kept ((Below.refl _ _).alloc (Nat.le_refl _) (.cells #[.int .i64 1, .int .i64 2, .int .i64 4] 3))).kept ((Below.refl _ _).alloc (Nat.le_refl _) (.cells #[.int .i64 2, .int .i64 0, .int .i64 0, .int .i64 0, .slice none 0 0] 24))
    rw [z1] at this
    rw [hw4]; exact this
  have hM4 : Blk w4 (g + 1 + 1 + 1) 24 [.int .i64 2, .int .i64 0, .int .i64 0, .int .i64 0, .slice none 0 0] := by
    have := Blk.new (((w.alloc (.cells #[.int .i64 k, .int .i64 a, .int .i64 b, .string s] 36)).alloc (.cells #[.int .i64 0, .int .i64 0, .int .i64 0, .int .i64 0, .slice none 0 0] 24)).alloc (.cells #[.int .i64 1, .int .i64 2, .int .i64 4] 3)) 24 [.int .i64 2, .int .i64 0, .int .i64 0, .int .i64 0, .slice none 0 0]
    rw [z3] at this
    rw [hw4]; exact this
  have HR4 := Lib.hid hR4
  have HP4 := Lib.hid hP4
  have HM4 := Lib.hid hM4
  have HA := Lib.hid hA
  have HW := Lib.hid hw4
  have HG := Lib.hid hg
  have Z4 := Lib.hid z4
  have h5 : 5 ≤ maxLen := by decide
  have H5 := Lib.hid h5
  clear hR4 hP4 hM4 hA hw4 hg z1 z2 z3 z4 h5 hp
  unfold rawV
  go_enter Try.func16, Try.ntmps16
  go_upto_region 1 with fail
  go_upto_region 2 with (go_at_call 18; refine (HK.out _).mono ?_; rintro e w' ⟨rfl, rfl⟩)
  rw [← HW.out, ← HG.out]
  obtain ⟨G, hG⟩ : ∃ G, G = g + 1 + 1 + 1 := ⟨_, rfl⟩
  rw [← hG] at HM4 Z4 ⊢
  have HGG := Lib.hid hG
  have m0 := HM4.out.cell 0 rfl
  have r1 := HR4.out.cell 1 rfl
  have r2 := HR4.out.cell 2 rfl
  have r3 := HR4.out.cell 3 rfl
  have hMd := HM4.out.kept (Below.refl w4.heap.size w4).drew
  have f1 := HM4.out.frozen H5.out 1
  have f2 := HM4.out.frozen H5.out 2
  have f3 := HM4.out.frozen H5.out 3
  have f4 := HM4.out.frozen H5.out 4
  have m1 := HM4.out.cell 1 rfl
  have m2 := HM4.out.cell 2 rfl
  have m3 := HM4.out.cell 3 rfl
  have m4 := HM4.out.cell 4 rfl
  have gG : g < G := by omega
  have gz : G < w4.heap.size := by have := Z4.out; omega
  have gz2 : g < w4.heap.size := by omega
  have gne : ¬ g = G := by omega
  have gne2 : ¬ G = g := by omega
  clear hG hMd
  obtain ⟨S, hS⟩ : ∃ S, S = pick a 4294967296 := ⟨_, rfl⟩
  rw [← hS] at HS lS EK
  have ES := Lib.hid hS
  clear hS
  obtain ⟨R, hR⟩ : ∃ R, R = pick b 4294967296 := ⟨_, rfl⟩
  rw [← hR] at HR lR EK
  have ER := Lib.hid hR
  clear hR
  go_upto_block 0 with fail
  go_cut [] (fun wx => ∃ gb, gb = w4.heap.size ∧ Hid (Blk wx gb 5 (bcells (List.replicate 24 0)) ∧ Blk wx G 24 [.int .i64 2, .int .i64 (S : Int), .int .i64 (R : Int), .int .i64 0, .slice (some ⟨gb, 0, none⟩) 24 24] ∧ Blk wx g 36 [.int .i64 k, .int .i64 a, .int .i64 b, .string s] ∧ Blk wx (g + 1) 24 [.int .i64 0, .int .i64 0, .int .i64 0, .int .i64 0, .slice none 0 0] ∧ Below g w wx ∧ G < wx.heap.size))
  case first =>
    go_upto_region 7 with fail
    go_region_with (first
      | (go_at_call_of 18 (Value.int IntKind.i64 a); refine (HS.out _).mono ?_; rintro e w' ⟨rfl, rfl⟩)
      | (go_at_call_of 18 (Value.int IntKind.i64 b); refine (HR.out _).mono ?_; rintro e w' ⟨rfl, rfl⟩))
    all_goals
      go_wp2_with fail
      go_meet
      case rel =>
        have h5 := H5.out
        have hb0 := (Below.refl w4.heap.size w4).drew
        have hgw : g ≤ w.heap.size := by rw [HG.out]; exact Nat.le_refl _
        have hbA := HA.out.trans (hb0.mono (by omega))
        have nR : g ≠ G := by omega
        have nP : g + 1 ≠ G := by have := HGG.out; omega
        have nZ : w4.heap.size ≠ G := by omega
        have hGw : g ≤ G := by omega
        exact ⟨_, rfl, Lib.hid ⟨((blk_at HZe.out (by simp)).kept (Below.refl _ _).drew), (((((HM4.out.set h5 1 (.int .i64 (S : Int))).set h5 2 (.int .i64 (R : Int))).set h5 4 (.slice (some ⟨w4.heap.size, 0, none⟩) 24 24)).kept (step_alloc _ Z)).kept (Below.refl _ _).drew), (((((HR4.out.other (i := 1) nR (.int .i64 (S : Int))).other (i := 2) nR (.int .i64 (R : Int))).other (i := 4) nR (.slice (some ⟨w4.heap.size, 0, none⟩) 24 24)).kept (step_alloc _ Z)).kept (Below.refl _ _).drew), (((((HP4.out.other (i := 1) nP (.int .i64 (S : Int))).other (i := 2) nP (.int .i64 (R : Int))).other (i := 4) nP (.slice (some ⟨w4.heap.size, 0, none⟩) 24 24)).kept (step_alloc _ Z)).kept (Below.refl _ _).drew), ((below_alloc (((HA.out.setCell (p := ⟨G, 1, none⟩) hGw (.int .i64 (S : Int))).setCell (p := ⟨G, 2, none⟩) hGw (.int .i64 (R : Int))).setCell (p := ⟨G, 4, none⟩) hGw (.slice (some ⟨w4.heap.size, 0, none⟩) 24 24)) hgw Z).drew), (((((HM4.out.set h5 1 (.int .i64 (S : Int))).set h5 2 (.int .i64 (R : Int))).set h5 4 (.slice (some ⟨w4.heap.size, 0, none⟩) 24 24)).kept (step_alloc _ Z)).kept (Below.refl _ _).drew).lt⟩⟩
  case rest =>
    obtain ⟨gb, hgb, HR⟩ := hcut
    obtain ⟨hZ, hM, hR, hP, hB, hGw⟩ := HR.out
    have hne1 : G ≠ gb := by omega
    have hne2 : g ≠ gb := by omega
    have hne3 : g + 1 ≠ gb := by have := HGG.out; omega
    have hgb2 : g ≤ gb := by omega
    have HgL := Lib.hid hgb2
    clear hgb
    have hcp := fun ty => copy_text wc gb 24 24 s (List.replicate 24 0) 5 ty hZ (List.length_replicate)
    have hgr := grown_set_row wc gb (bcells (s.data.toList.take 24 ++ (List.replicate 24 0).drop s.size)).toArray
    have hnew : (wc.setRow gb (bcells (s.data.toList.take 24 ++ (List.replicate 24 0).drop s.size)).toArray).heap[gb]? = some (.cells (bcells (s.data.toList.take 24 ++ (List.replicate 24 0).drop s.size)).toArray 5 (0, 0)) := setRow_heap wc gb _ _ 5 _ hZ
    obtain ⟨V, hV⟩ : ∃ V, V = wc.setRow gb (bcells (s.data.toList.take 24 ++ (List.replicate 24 0).drop s.size)).toArray := ⟨_, rfl⟩
    simp only [← hV] at hcp
    rw [← hV] at hgr hnew
    have hEB : s.data.toList.take 24 ++ (List.replicate 24 0).drop s.size = Wr.gb k s := by rw [EB.out, EK.out.2.2.2.2]
    rw [hEB] at hnew
    have hgw : g ≤ w.heap.size := by rw [HG.out]; exact Nat.le_refl _
    have HnewV := Lib.hid hnew
    have hMV := hM.beside hgr hne1
    have HPV := Lib.hid (hP.beside hgr hne3)
    have HBV := Lib.hid (below_row hB hgr (Nat.le_trans hgw hB.size) hgb2)
    have m4 := hM.cell 4 rfl
    have r3' := hR.cell 3 rfl
    have n0 := hMV.cell 0 rfl
    have n1 := hMV.cell 1 rfl
    have n2 := hMV.cell 2 rfl
    have n3 := hMV.cell 3 rfl
    have n4 := hMV.cell 4 rfl
    have HEB := Lib.hid hEB
    clear hV hgr hnew hMV hZ hM hR hP hB HR hEB r1 r2 r3 m0 m1 m2 m3 f1 f2 f3 f4
    go_wp2_with (refine wpL_storeBlk (o := ⟨none, _, _, _, _, _⟩) rfl 24 (.tmp 2) (.tmp 53) rfl (g + 1) _ [.int .i64 2, .int .i64 (S : Int), .int .i64 (R : Int), .int .i64 0, .slice (some ⟨gb, 0, none⟩) 24 24] rfl rfl HPV.out size_mess rfl rfl ?_)
    intro w11 hk11 hg11 hz11
    have HK11 := Lib.hid hk11
    have HB11 := Lib.hid (below_row HBV.out hg11 (Nat.le_trans hgw HBV.out.size) (by omega))
    have hb11 := (Blk.beside (show Blk V gb 5 (bcells (Wr.gb k s)) from HnewV.out) hg11 (by omega))
    have HY := Lib.hid (bytes_blk hb11 hb11.lt)
    clear hk11 hg11 hz11 hb11
    go_wp2
    refine bodyPost_ret (ret_cell1 (load_mess HK11.out rfl) Try.results16 rfl) rfl ⟨gb, ?_, ?_, ?_⟩
    · rw [EK.out.1, EK.out.2.1, EK.out.2.2.1, EK.out.2.2.2.1, EK.out.2.2.2.2]
      rfl
    · have := HY.out
      rw [Wr.gb_length] at this
      exact this
    · rw [← HG.out]
      exact HB11.out
end Go.Proofs.Ytfgkodgdoplpbab
