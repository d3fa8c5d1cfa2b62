/- The contract of the laws' helper message, kind 2. -/
import Derived.Test.YtfgkodgdoplpbabWireKeep1
import Derived.Test.YtfgkodgdoplpbabWireKeepW
namespace Go.Proofs.Ytfgkodgdoplpbab
open Go.RowKit

set_option maxRecDepth 10000 in
set_option maxHeartbeats 8000000 in
theorem keep_message_2 (k a b : Int) (s : ByteArray) (w : World) (k0 : -9223372036854775808 ≤ k) (k1 : k ≤ 9223372036854775807) (a0 : -9223372036854775808 ≤ a) (a1 : a ≤ 9223372036854775807) (b0 : -9223372036854775808 ≤ b) (b1 : b ≤ 9223372036854775807) (hp : pick k 3 = 2) :
    Calls Try.prog 16 #[rawV k a b s] w fun e w' => ∃ gb, e = .returned (messV (Wr.gk k) (Wr.gs k a) (Wr.gr k a b) (Wr.gc k b) (some ⟨gb, 0, none⟩) (Wr.gn k s) (Wr.gn k s)) ∧ BytesAt w' w'.heap.size (some ⟨gb, 0, none⟩) (Wr.gn k s) (Wr.gb k s) ∧ Below w.heap.size w w' := by
  have HK : Hid (∀ W, Calls Try.prog 18 #[.int .i64 k, .int .i64 3] W fun e w' => e = .returned (.int .i64 2) ∧ W = w') := Lib.hid (fun W => by
    have := keep_picked k 3 W k0 k1 (by decide) (by decide)
    rw [hp] at this
    exact this)
  have EK : Hid (Wr.gk k = 4 ∧ Wr.gs k a = 0 ∧ Wr.gr k a b = pick a 4294967296 ∧ Wr.gc k b = pick b 1099511627777 ∧ Wr.gn k s = 16 + min s.size 200) := Lib.hid (by unfold Wr.gk Wr.gs Wr.gr Wr.gc Wr.gn; rw [hp]; exact ⟨rfl, rfl, rfl, rfl, rfl⟩)
  have EB := Lib.hid (show Wr.gb k s = s.data.toList.take (Wr.gn k s) ++ (List.replicate (Wr.gn k s) 0).drop s.size from rfl)
  obtain ⟨q, hq⟩ : ∃ q, q = min s.size 200 := ⟨_, rfl⟩
  have hqm : min (s.size : Int) 200 = (q : Int) := by omega
  obtain ⟨M, hM⟩ : ∃ M, M = 16 + q := ⟨_, rfl⟩
  have hsum : (16 : Int) + (q : Int) = (M : Int) := by omega
  have hwM : IntKind.i64.wrap (M : Int) = (M : Int) := IntWalk.i64_in _ (by omega)
  have HM := Lib.hid (show 16 + min s.size 200 = M by omega)
  have HR := Lib.hid (fun W => keep_picked a 4294967296 W a0 a1 (by decide) (by decide))
  have HC := Lib.hid (fun W => keep_picked b 1099511627777 W b0 b1 (by decide) (by decide))
  have lR := pick_lt a 4294967296 (by decide)
  have lC := pick_lt b 1099511627777 (by decide)
  have hmk := make8_full M (by omega)
  obtain ⟨Z, hZ⟩ : ∃ Z : Obj, Z = .cells (bcells (List.replicate M 0)).toArray 5 := ⟨_, rfl⟩
  simp only [← hZ] at hmk
  have HZe := Lib.hid hZ
  clear hZ
  obtain ⟨g, hg⟩ : ∃ g, g = w.heap.size := ⟨_, rfl⟩
  obtain ⟨w4, hw4⟩ : ∃ w4, w4 = (((w.alloc (.cells #[.int .i64 k, .int .i64 a, .int .i64 b, .string s] 36)).alloc (.cells #[.int .i64 0, .int .i64 0, .int .i64 0, .int .i64 0, .slice none 0 0] 24)).alloc (.cells #[.int .i64 1, .int .i64 2, .int .i64 4] 3)).alloc (.cells #[.int .i64 4, .int .i64 0, .int .i64 0, .int .i64 0, .slice none 0 0] 24) := ⟨_, rfl⟩
  have z1 : (w.alloc (.cells #[.int .i64 k, .int .i64 a, .int .i64 b, .string s] 36)).heap.size = g + 1 := by rw [hg]; simp
  have z2 : ((w.alloc (.cells #[.int .i64 k, .int .i64 a, .int .i64 b, .string s] 36)).alloc (.cells #[.int .i64 0, .int .i64 0, .int .i64 0, .int .i64 0, .slice none 0 0] 24)).heap.size = g + 1 + 1 := by rw [hg]; simp
  have z3 : (((w.alloc (.cells #[.int .i64 k, .int .i64 a, .int .i64 b, .string s] 36)).alloc (.cells #[.int .i64 0, .int .i64 0, .int .i64 0, .int .i64 0, .slice none 0 0] 24)).alloc (.cells #[.int .i64 1, .int .i64 2, .int .i64 4] 3)).heap.size = g + 1 + 1 + 1 := by rw [hg]; simp
  have z4 : w4.heap.size = g + 1 + 1 + 1 + 1 := by rw [hw4, hg]; simp
  have hA : Below g w w4 := by rw [hw4, hg]; exact ((((Below.refl _ _).alloc (Nat.le_refl _) _).alloc (by simp) _).alloc (by simp; omega) _).alloc (by simp; omega) _
  have hR4 : Blk w4 g 36 [.int .i64 k, .int .i64 a, .int .i64 b, .string s] := by
    rw [hw4, hg]; exact (((Blk.new w 36 [.int .i64 k, .int .i64 a, .int .i64 b, .string s]).kept ((Below.refl _ _).alloc (Nat.le_refl _) _)).kept ((Below.refl _ _).alloc (Nat.le_refl _) _)).kept ((Below.refl _ _).alloc (Nat.le_refl _) _)
  have hP4 : Blk w4 (g + 1) 24 [.int .i64 0, .int .i64 0, .int .i64 0, .int .i64 0, .slice none 0 0] := by
    have := ((Blk.new (w.alloc (.cells #[.int .i64 k, .int .i64 a, .int .i64 b, .string s] 36)) 24 [.int .i64 0, .int .i64 0, .int .i64 0, .int .i64 0, .slice none 0 0]).kept ((Below.refl _ _).alloc (Nat.le_refl _) (.cells #[.int .i64 1, .int .i64 2, .int .i64 4] 3))).kept ((Below.refl _ _).alloc (Nat.le_refl _) (.cells #[.int .i64 4, .int .i64 0, .int .i64 0, .int .i64 0, .slice none 0 0] 24))
    rw [z1] at this
    rw [hw4]; exact this
  have hM4 : Blk w4 (g + 1 + 1 + 1) 24 [.int .i64 4, .int .i64 0, .int .i64 0, .int .i64 0, .slice none 0 0] := by
    have := Blk.new (((w.alloc (.cells #[.int .i64 k, .int .i64 a, .int .i64 b, .string s] 36)).alloc (.cells #[.int .i64 0, .int .i64 0, .int .i64 0, .int .i64 0, .slice none 0 0] 24)).alloc (.cells #[.int .i64 1, .int .i64 2, .int .i64 4] 3)) 24 [.int .i64 4, .int .i64 0, .int .i64 0, .int .i64 0, .slice none 0 0]
    rw [z3] at this
    rw [hw4]; exact this
  have HR4 := Lib.hid hR4
  have HP4 := Lib.hid hP4
  have HM4 := Lib.hid hM4
  have HA := Lib.hid hA
  have HW := Lib.hid hw4
  have HG := Lib.hid hg
  have Z4 := Lib.hid z4
  have h5 : 5 ≤ maxLen := by decide
  have H5 := Lib.hid h5
  clear hR4 hP4 hM4 hA hw4 hg z1 z2 z3 z4 h5 hp hq hM
  unfold rawV
  go_enter Try.func16, Try.ntmps16
  go_upto_region 1 with fail
  go_upto_region 2 with (go_at_call 18; refine (HK.out _).mono ?_; rintro e w' ⟨rfl, rfl⟩)
  rw [← HW.out, ← HG.out]
  obtain ⟨G, hG⟩ : ∃ G, G = g + 1 + 1 + 1 := ⟨_, rfl⟩
  rw [← hG] at HM4 Z4 ⊢
  have HGG := Lib.hid hG
  have m0 := HM4.out.cell 0 rfl
  have r1 := HR4.out.cell 1 rfl
  have r2 := HR4.out.cell 2 rfl
  have r3 := HR4.out.cell 3 rfl
  have hMd := HM4.out.kept (Below.refl w4.heap.size w4).drew
  have f1 := HM4.out.frozen H5.out 1
  have f2 := HM4.out.frozen H5.out 2
  have f3 := HM4.out.frozen H5.out 3
  have f4 := HM4.out.frozen H5.out 4
  have m1 := HM4.out.cell 1 rfl
  have m2 := HM4.out.cell 2 rfl
  have m3 := HM4.out.cell 3 rfl
  have m4 := HM4.out.cell 4 rfl
  have gG : g < G := by omega
  have gz : G < w4.heap.size := by have := Z4.out; omega
  have gz2 : g < w4.heap.size := by omega
  have gne : ¬ g = G := by omega
  have gne2 : ¬ G = g := by omega
  clear hG hMd
  obtain ⟨R, hR⟩ : ∃ R, R = pick a 4294967296 := ⟨_, rfl⟩
  rw [← hR] at HR lR EK
  have ER := Lib.hid hR
  clear hR
  obtain ⟨C, hC⟩ : ∃ C, C = pick b 1099511627777 := ⟨_, rfl⟩
  rw [← hC] at HC lC EK
  have EC := Lib.hid hC
  clear hC
  go_upto_block 0 with fail
  go_cut [] (fun wx => ∃ gb, gb = w4.heap.size ∧ Hid (Blk wx gb 5 (bcells (List.replicate M 0)) ∧ Blk wx G 24 [.int .i64 4, .int .i64 0, .int .i64 (R : Int), .int .i64 (C : Int), .slice (some ⟨gb, 0, none⟩) M M] ∧ Blk wx g 36 [.int .i64 k, .int .i64 a, .int .i64 b, .string s] ∧ Blk wx (g + 1) 24 [.int .i64 0, .int .i64 0, .int .i64 0, .int .i64 0, .slice none 0 0] ∧ Below g w wx ∧ G < wx.heap.size))
  case first =>
    go_upto_region 3 with fail
    have hmix : Try.prog.follows .mixedOrders = true := by kernel_rfl
    have hRd := HR4.out.kept (Below.refl w4.heap.size w4).drew
    have hMd := HM4.out.kept (Below.refl w4.heap.size w4).drew
    have gz' : G < w4.drew.heap.size := gz
    have nGg : g ≠ G := by omega
    have HRl := Lib.hid (fun l => msgW_raw (G := G) (x := .int .i64 (R : Int)) (y := .int .i64 (C : Int)) (z := .slice (some ⟨w4.heap.size, 0, none⟩) M M) (Z := Z) (l := l) hRd nGg)
    have HMl := Lib.hid (fun l => msgW_mess (x := .int .i64 (R : Int)) (y := .int .i64 (C : Int)) (z := .slice (some ⟨w4.heap.size, 0, none⟩) M M) (Z := Z) (l := l) ⟨_, _, _, _, _, hMd⟩)
    clear r1 r2 r3 m0 m1 m2 m3 m4 f1 f2 f3 f4 hRd hMd
    refine wp_region_frames 18 msgDst (msgF g G w4.heap.size a b R C q M s) (msgW w4.drew G (.int .i64 (R : Int)) (.int .i64 (C : Int)) (.slice (some ⟨w4.heap.size, 0, none⟩) M M) Z) hmix rfl msg_dist ?low ?inn ?w0 ?step ?done
    case w0 => rfl
    case inn =>
      intro i d hi hd
      have hle := msg_in i d hi hd
      exact Nat.lt_of_le_of_lt hle (of_decide_eq_true rfl)
    case low =>
      intro i o ho
      have hi : i < 18 := by
        have := (Array.getElem?_eq_some_iff.1 ho).1
        simpa using this
      have hc : i = 0 ∨ i = 1 ∨ i = 2 ∨ i = 3 ∨ i = 4 ∨ i = 5 ∨ i = 6 ∨ i = 7 ∨ i = 8 ∨ i = 9 ∨ i = 10 ∨ i = 11 ∨ i = 12 ∨ i = 13 ∨ i = 14 ∨ i = 15 ∨ i = 16 ∨ i = 17 := by omega
      rcases hc with rfl | rfl | rfl | rfl | rfl | rfl | rfl | rfl | rfl | rfl | rfl | rfl | rfl | rfl | rfl | rfl | rfl | rfl <;> (obtain rfl := Option.some.inj ho; simp)
    case done =>
      rw [msg_put]
      rw [show msgW w4.drew G (.int .i64 (R : Int)) (.int .i64 (C : Int)) (.slice (some ⟨w4.heap.size, 0, none⟩) M M) Z (Array.replicate 18 true) = ((((w4.drew.setCell ⟨G, 2, none⟩ (.int .i64 (R : Int))).setCell ⟨G, 3, none⟩ (.int .i64 (C : Int))).setCell ⟨G, 4, none⟩ (.slice (some ⟨w4.heap.size, 0, none⟩) M M)).alloc Z) from rfl]
      have h5 := H5.out
      have hgw : g ≤ w.heap.size := by rw [HG.out]; exact Nat.le_refl _
      have nR : g ≠ G := by omega
      have nP : g + 1 ≠ G := by have := HGG.out; omega
      have hGw : g ≤ G := by omega
      have HRel : Hid (Blk ((((w4.drew.setCell ⟨G, 2, none⟩ (.int .i64 (R : Int))).setCell ⟨G, 3, none⟩ (.int .i64 (C : Int))).setCell ⟨G, 4, none⟩ (.slice (some ⟨w4.heap.size, 0, none⟩) M M)).alloc Z) w4.heap.size 5 (bcells (List.replicate M 0)) ∧ Blk ((((w4.drew.setCell ⟨G, 2, none⟩ (.int .i64 (R : Int))).setCell ⟨G, 3, none⟩ (.int .i64 (C : Int))).setCell ⟨G, 4, none⟩ (.slice (some ⟨w4.heap.size, 0, none⟩) M M)).alloc Z) G 24 [.int .i64 4, .int .i64 0, .int .i64 (R : Int), .int .i64 (C : Int), .slice (some ⟨w4.heap.size, 0, none⟩) M M] ∧ Blk ((((w4.drew.setCell ⟨G, 2, none⟩ (.int .i64 (R : Int))).setCell ⟨G, 3, none⟩ (.int .i64 (C : Int))).setCell ⟨G, 4, none⟩ (.slice (some ⟨w4.heap.size, 0, none⟩) M M)).alloc Z) g 36 [.int .i64 k, .int .i64 a, .int .i64 b, .string s] ∧ Blk ((((w4.drew.setCell ⟨G, 2, none⟩ (.int .i64 (R : Int))).setCell ⟨G, 3, none⟩ (.int .i64 (C : Int))).setCell ⟨G, 4, none⟩ (.slice (some ⟨w4.heap.size, 0, none⟩) M M)).alloc Z) (g + 1) 24 [.int .i64 0, .int .i64 0, .int .i64 0, .int .i64 0, .slice none 0 0] ∧ Below g w ((((w4.drew.setCell ⟨G, 2, none⟩ (.int .i64 (R : Int))).setCell ⟨G, 3, none⟩ (.int .i64 (C : Int))).setCell ⟨G, 4, none⟩ (.slice (some ⟨w4.heap.size, 0, none⟩) M M)).alloc Z) ∧ G < ((((w4.drew.setCell ⟨G, 2, none⟩ (.int .i64 (R : Int))).setCell ⟨G, 3, none⟩ (.int .i64 (C : Int))).setCell ⟨G, 4, none⟩ (.slice (some ⟨w4.heap.size, 0, none⟩) M M)).alloc Z).heap.size) := by
        have hM := ((((HM4.out.kept (Below.refl w4.heap.size w4).drew).set h5 2 (.int .i64 (R : Int))).set h5 3 (.int .i64 (C : Int))).set h5 4 (.slice (some ⟨w4.heap.size, 0, none⟩) M M)).kept (step_alloc _ Z)
        have hRr := ((((HR4.out.kept (Below.refl w4.heap.size w4).drew).other (i := 2) nR (.int .i64 (R : Int))).other (i := 3) nR (.int .i64 (C : Int))).other (i := 4) nR (.slice (some ⟨w4.heap.size, 0, none⟩) M M)).kept (step_alloc _ Z)
        have hPp := ((((HP4.out.kept (Below.refl w4.heap.size w4).drew).other (i := 2) nP (.int .i64 (R : Int))).other (i := 3) nP (.int .i64 (C : Int))).other (i := 4) nP (.slice (some ⟨w4.heap.size, 0, none⟩) M M)).kept (step_alloc _ Z)
        have hBb := below_alloc ((((HA.out.drew).setCell (p := ⟨G, 2, none⟩) hGw (.int .i64 (R : Int))).setCell (p := ⟨G, 3, none⟩) hGw (.int .i64 (C : Int))).setCell (p := ⟨G, 4, none⟩) hGw (.slice (some ⟨w4.heap.size, 0, none⟩) M M)) hgw Z
        exact Lib.hid ⟨blk_at HZe.out (by simp), hM, hRr, hPp, hBb, hM.lt⟩
      clear HRl HMl HM4 HR4 HP4
      generalize ((((w4.drew.setCell ⟨G, 2, none⟩ (.int .i64 (R : Int))).setCell ⟨G, 3, none⟩ (.int .i64 (C : Int))).setCell ⟨G, 4, none⟩ (.slice (some ⟨w4.heap.size, 0, none⟩) M M)).alloc Z) = WF at *
      simp only [Act.put, List.setIfInBounds_toArray, List.set_cons_succ, List.set_cons_zero]
      go_wp2_with fail
      go_meet
      case rel => exact ⟨_, rfl, HRel⟩
    case step =>
      intro listed hs hcl A hget hold i o ho h0 hdep
      have hi : i < 18 := by
        have := (Array.getElem?_eq_some_iff.1 ho).1
        simpa using this
      have hc : i = 0 ∨ i = 1 ∨ i = 2 ∨ i = 3 ∨ i = 4 ∨ i = 5 ∨ i = 6 ∨ i = 7 ∨ i = 8 ∨ i = 9 ∨ i = 10 ∨ i = 11 ∨ i = 12 ∨ i = 13 ∨ i = 14 ∨ i = 15 ∨ i = 16 ∨ i = 17 := by omega
      have e1 : A.tmps.getD 1 undef = .pointer (some ⟨g, 0, none⟩) := hold 1 (by decide)
      have e3 : A.tmps.getD 3 undef = .pointer (some ⟨G, 0, none⟩) := hold 3 (by decide)
      have hR := HRl.out listed
      obtain ⟨x0, x1, x2, x3, x4, hM⟩ := HMl.out listed
      have y1 := hR.cell 1 rfl
      have y2 := hR.cell 2 rfl
      have y3 := hR.cell 3 rfl
      obtain ⟨⟨_, k1, k2, k3, k4⟩, ⟨_, j1, j2, j3, j4⟩⟩ := hM.facts5
      have Hget := Lib.hid hget
      have Hcl := Lib.hid hcl
      clear hold hget hcl hR hM
      rcases hc with rfl | rfl | rfl | rfl | rfl | rfl | rfl | rfl | rfl | rfl | rfl | rfl | rfl | rfl | rfl | rfl | rfl | rfl
      · obtain rfl := Option.some.inj ho
        refine wpOp_plain rfl rfl ?_
        clear hdep h0
        unfold Oper.wp
        go_simp
        exact ⟨rfl, (msgW_other (by decide) (by decide) (by decide) (by decide)).symm⟩
      · obtain rfl := Option.some.inj ho
        have v0 : A.tmps.getD 13 undef = .pointer (some ⟨g, 1, none⟩) := Hget.out 0 13 (by decide) (hdep ⟨0, .data⟩ (by simp) rfl) rfl
        refine wpOp_plain rfl rfl ?_
        clear hdep h0
        unfold Oper.wp
        go_simp
        exact ⟨rfl, (msgW_other (by decide) (by decide) (by decide) (by decide)).symm⟩
      · obtain rfl := Option.some.inj ho
        have v1 : A.tmps.getD 14 undef = .int .i64 a := Hget.out 1 14 (by decide) (hdep ⟨1, .data⟩ (by simp) rfl) rfl
        refine wpOp_plain rfl rfl ?_
        clear hdep h0
        unfold Oper.wp
        go_simp
        refine (HR.out _).mono ?_
        rintro e W' ⟨rfl, rfl⟩
        exact ⟨rfl, (msgW_other (by decide) (by decide) (by decide) (by decide)).symm⟩
      · obtain rfl := Option.some.inj ho
        refine wpOp_plain rfl rfl ?_
        clear hdep h0
        unfold Oper.wp
        go_simp
        exact ⟨rfl, (msgW_other (by decide) (by decide) (by decide) (by decide)).symm⟩
      · obtain rfl := Option.some.inj ho
        have v3 : A.tmps.getD 16 undef = .pointer (some ⟨g, 2, none⟩) := Hget.out 3 16 (by decide) (hdep ⟨3, .data⟩ (by simp) rfl) rfl
        refine wpOp_plain rfl rfl ?_
        clear hdep h0
        unfold Oper.wp
        go_simp
        exact ⟨rfl, (msgW_other (by decide) (by decide) (by decide) (by decide)).symm⟩
      · obtain rfl := Option.some.inj ho
        have v4 : A.tmps.getD 17 undef = .int .i64 b := Hget.out 4 17 (by decide) (hdep ⟨4, .data⟩ (by simp) rfl) rfl
        refine wpOp_plain rfl rfl ?_
        clear hdep h0
        unfold Oper.wp
        go_simp
        refine (HC.out _).mono ?_
        rintro e W' ⟨rfl, rfl⟩
        exact ⟨rfl, (msgW_other (by decide) (by decide) (by decide) (by decide)).symm⟩
      · obtain rfl := Option.some.inj ho
        refine wpOp_plain rfl rfl ?_
        clear hdep h0
        unfold Oper.wp
        go_simp
        exact ⟨rfl, (msgW_other (by decide) (by decide) (by decide) (by decide)).symm⟩
      · obtain rfl := Option.some.inj ho
        have v6 : A.tmps.getD 19 undef = .pointer (some ⟨g, 3, none⟩) := Hget.out 6 19 (by decide) (hdep ⟨6, .data⟩ (by simp) rfl) rfl
        refine wpOp_plain rfl rfl ?_
        clear hdep h0
        unfold Oper.wp
        go_simp
        exact ⟨rfl, (msgW_other (by decide) (by decide) (by decide) (by decide)).symm⟩
      · obtain rfl := Option.some.inj ho
        have v7 : A.tmps.getD 20 undef = .string s := Hget.out 7 20 (by decide) (hdep ⟨7, .data⟩ (by simp) rfl) rfl
        refine wpOp_plain rfl rfl ?_
        clear hdep h0
        unfold Oper.wp
        go_simp
        exact ⟨rfl, (msgW_other (by decide) (by decide) (by decide) (by decide)).symm⟩
      · obtain rfl := Option.some.inj ho
        have v8 : A.tmps.getD 21 undef = .int .i64 (s.size : Int) := Hget.out 8 21 (by decide) (hdep ⟨8, .data⟩ (by simp) rfl) rfl
        refine wpOp_plain rfl rfl ?_
        clear hdep h0
        unfold Oper.wp
        go_simp
        exact ⟨rfl, (msgW_other (by decide) (by decide) (by decide) (by decide)).symm⟩
      · obtain rfl := Option.some.inj ho
        have v9 : A.tmps.getD 22 undef = .int .i64 (q : Int) := Hget.out 9 22 (by decide) (hdep ⟨9, .data⟩ (by simp) rfl) rfl
        refine wpOp_plain rfl rfl ?_
        clear hdep h0
        unfold Oper.wp
        go_simp
        exact ⟨rfl, (msgW_other (by decide) (by decide) (by decide) (by decide)).symm⟩
      · obtain rfl := Option.some.inj ho
        have v10 : A.tmps.getD 23 undef = .int .i64 (M : Int) := Hget.out 10 23 (by decide) (hdep ⟨10, .data⟩ (by simp) rfl) rfl
        have hsz := msgW_size (w := w4.drew) (G := G) (x := .int .i64 (R : Int)) (y := .int .i64 (C : Int)) (z := .slice (some ⟨w4.heap.size, 0, none⟩) M M) (Z := Z) h0
        have HF := Lib.hid (msgW_make (w := w4.drew) (G := G) (x := .int .i64 (R : Int)) (y := .int .i64 (C : Int)) (z := .slice (some ⟨w4.heap.size, 0, none⟩) M M) (Z := Z) h0 (by omega))
        have hsz' : (msgW w4.drew G (.int .i64 (R : Int)) (.int .i64 (C : Int)) (.slice (some ⟨w4.heap.size, 0, none⟩) M M) Z listed).heap.size = w4.heap.size := hsz
        clear hsz
        refine wpOp_plain rfl rfl ?_
        clear hdep h0
        unfold Oper.wp
        go_simp
        exact ⟨rfl, HF.out.symm⟩
      · obtain rfl := Option.some.inj ho
        refine wpOp_plain rfl rfl ?_
        clear hdep h0
        unfold Oper.wp
        go_simp
        exact ⟨rfl, (msgW_other (by decide) (by decide) (by decide) (by decide)).symm⟩
      · obtain rfl := Option.some.inj ho
        have v12 : A.tmps.getD 25 undef = .pointer (some ⟨G, 2, none⟩) := Hget.out 12 25 (by decide) (hdep ⟨12, .data⟩ (by simp) rfl) rfl
        have v2 : A.tmps.getD 15 undef = .int .i64 (R : Int) := Hget.out 2 15 (by decide) (hdep ⟨2, .data⟩ (by simp) rfl) rfl
        have h15 : listed.getD 15 false = false := by
          cases h : listed.getD 15 false
          · rfl
          · have := Hcl.out 15 _ rfl h ⟨13, .chain⟩ (by simp) rfl
            rw [h0] at this
            cases this
        have h17 : listed.getD 17 false = false := by
          cases h : listed.getD 17 false
          · rfl
          · have := Hcl.out 17 _ rfl h ⟨15, .chain⟩ (by simp) rfl
            rw [h15] at this
            cases this
        have HF := Lib.hid (msgW_13 (x := .int .i64 (R : Int)) (y := .int .i64 (C : Int)) (z := .slice (some ⟨w4.heap.size, 0, none⟩) M M) (Z := Z) h15 h17 h0 (by omega) gz')
        clear h15 h17
        refine wpOp_plain rfl rfl ?_
        clear hdep h0
        unfold Oper.wp
        go_simp
        exact ⟨rfl, HF.out.symm⟩
      · obtain rfl := Option.some.inj ho
        refine wpOp_plain rfl rfl ?_
        clear hdep h0
        unfold Oper.wp
        go_simp
        exact ⟨rfl, (msgW_other (by decide) (by decide) (by decide) (by decide)).symm⟩
      · obtain rfl := Option.some.inj ho
        have v14 : A.tmps.getD 26 undef = .pointer (some ⟨G, 3, none⟩) := Hget.out 14 26 (by decide) (hdep ⟨14, .data⟩ (by simp) rfl) rfl
        have v5 : A.tmps.getD 18 undef = .int .i64 (C : Int) := Hget.out 5 18 (by decide) (hdep ⟨5, .data⟩ (by simp) rfl) rfl
        have h13 : listed.getD 13 false = true := hdep ⟨13, .chain⟩ (by simp) rfl
        have h17 : listed.getD 17 false = false := by
          cases h : listed.getD 17 false
          · rfl
          · have := Hcl.out 17 _ rfl h ⟨15, .chain⟩ (by simp) rfl
            rw [h0] at this
            cases this
        have HF := Lib.hid (msgW_15 (x := .int .i64 (R : Int)) (y := .int .i64 (C : Int)) (z := .slice (some ⟨w4.heap.size, 0, none⟩) M M) (Z := Z) h13 h17 h0 (by omega) gz')
        clear h13 h17
        refine wpOp_plain rfl rfl ?_
        clear hdep h0
        unfold Oper.wp
        go_simp
        exact ⟨rfl, HF.out.symm⟩
      · obtain rfl := Option.some.inj ho
        refine wpOp_plain rfl rfl ?_
        clear hdep h0
        unfold Oper.wp
        go_simp
        exact ⟨rfl, (msgW_other (by decide) (by decide) (by decide) (by decide)).symm⟩
      · obtain rfl := Option.some.inj ho
        have v16 : A.tmps.getD 27 undef = .pointer (some ⟨G, 4, none⟩) := Hget.out 16 27 (by decide) (hdep ⟨16, .data⟩ (by simp) rfl) rfl
        have v11 : A.tmps.getD 24 undef = .slice (some ⟨w4.heap.size, 0, none⟩) M M := Hget.out 11 24 (by decide) (hdep ⟨11, .data⟩ (by simp) rfl) rfl
        have h15 : listed.getD 15 false = true := hdep ⟨15, .chain⟩ (by simp) rfl
        have h13 : listed.getD 13 false = true := Hcl.out 15 _ rfl h15 ⟨13, .chain⟩ (by simp) rfl
        have h11 : listed.getD 11 false = true := hdep ⟨11, .data⟩ (by simp) rfl
        have HF := Lib.hid (msgW_17 (x := .int .i64 (R : Int)) (y := .int .i64 (C : Int)) (z := .slice (some ⟨w4.heap.size, 0, none⟩) M M) (Z := Z) h13 h15 h11 h0 (by omega) gz')
        clear h13 h15 h11
        refine wpOp_plain rfl rfl ?_
        clear hdep h0
        unfold Oper.wp
        go_simp
        exact ⟨rfl, HF.out.symm⟩
  case rest =>
    obtain ⟨gb, hgb, HR⟩ := hcut
    obtain ⟨hZ, hM, hR, hP, hB, hGw⟩ := HR.out
    have hne1 : G ≠ gb := by omega
    have hne2 : g ≠ gb := by omega
    have hne3 : g + 1 ≠ gb := by have := HGG.out; omega
    have hgb2 : g ≤ gb := by omega
    have HgL := Lib.hid hgb2
    clear hgb
    have hcp := fun ty => copy_text wc gb M M s (List.replicate M 0) 5 ty hZ (List.length_replicate)
    have hgr := grown_set_row wc gb (bcells (s.data.toList.take M ++ (List.replicate M 0).drop s.size)).toArray
    have hnew : (wc.setRow gb (bcells (s.data.toList.take M ++ (List.replicate M 0).drop s.size)).toArray).heap[gb]? = some (.cells (bcells (s.data.toList.take M ++ (List.replicate M 0).drop s.size)).toArray 5 (0, 0)) := setRow_heap wc gb _ _ 5 _ hZ
    obtain ⟨V, hV⟩ : ∃ V, V = wc.setRow gb (bcells (s.data.toList.take M ++ (List.replicate M 0).drop s.size)).toArray := ⟨_, rfl⟩
    simp only [← hV] at hcp
    rw [← hV] at hgr hnew
    have hEB : s.data.toList.take M ++ (List.replicate M 0).drop s.size = Wr.gb k s := by rw [EB.out, EK.out.2.2.2.2, HM.out]
    rw [hEB] at hnew
    have hgw : g ≤ w.heap.size := by rw [HG.out]; exact Nat.le_refl _
    have HnewV := Lib.hid hnew
    have hMV := hM.beside hgr hne1
    have HPV := Lib.hid (hP.beside hgr hne3)
    have HBV := Lib.hid (below_row hB hgr (Nat.le_trans hgw hB.size) hgb2)
    have m4 := hM.cell 4 rfl
    have r3' := hR.cell 3 rfl
    have n0 := hMV.cell 0 rfl
    have n1 := hMV.cell 1 rfl
    have n2 := hMV.cell 2 rfl
    have n3 := hMV.cell 3 rfl
    have n4 := hMV.cell 4 rfl
    have HEB := Lib.hid hEB
    clear hV hgr hnew hMV hZ hM hR hP hB HR hEB r1 r2 r3 m0 m1 m2 m3 f1 f2 f3 f4
    go_wp2_with (refine wpL_storeBlk (o := ⟨none, _, _, _, _, _⟩) rfl 24 (.tmp 2) (.tmp 53) rfl (g + 1) _ [.int .i64 4, .int .i64 0, .int .i64 (R : Int), .int .i64 (C : Int), .slice (some ⟨gb, 0, none⟩) M M] rfl rfl HPV.out size_mess rfl rfl ?_)
    intro w11 hk11 hg11 hz11
    have HK11 := Lib.hid hk11
    have HB11 := Lib.hid (below_row HBV.out hg11 (Nat.le_trans hgw HBV.out.size) (by omega))
    have hb11 := (Blk.beside (show Blk V gb 5 (bcells (Wr.gb k s)) from HnewV.out) hg11 (by omega))
    have HY := Lib.hid (bytes_blk hb11 hb11.lt)
    clear hk11 hg11 hz11 hb11
    go_wp2
    refine bodyPost_ret (ret_cell1 (load_mess HK11.out rfl) Try.results16 rfl) rfl ⟨gb, ?_, ?_, ?_⟩
    · rw [EK.out.1, EK.out.2.1, EK.out.2.2.1, EK.out.2.2.2.1, EK.out.2.2.2.2, HM.out]
      rfl
    · have := HY.out
      rw [Wr.gb_length] at this
      exact this
    · rw [← HG.out]
      exact HB11.out
end Go.Proofs.Ytfgkodgdoplpbab
