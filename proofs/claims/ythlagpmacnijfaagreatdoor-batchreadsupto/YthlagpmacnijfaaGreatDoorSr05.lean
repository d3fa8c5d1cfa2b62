/- What the listed variables give: Go's library's, and the landed code's table of kinds; a world for the witness. -/
import Derived.Test.YthlagpmacnijfaaGreatDoorSr04
import Derived.Test.YthlagpmacnijfaaGreatDoorSr01
import Derived.Test.YthlagpmacnijfaaGreatDoorRows
import Derived.Test.YthlagpmacnijfaaGreatDoorMem
import Derived.ProofKit
import Derived.OpenShut
import Derived.ShutString
import Derived.ChangeOld
import Derived.Below
import Derived.SizedLaws
import Derived.Test.YthlagpmacnijfaaGreatDoorLineMem
import Derived.Deep.SlicePairs
import Derived.Lib.SmallJoins
import Derived.Test.YthlagpmacnijfaaGreatDoorSr02
import Derived.Test.YthlagpmacnijfaaGreatDoorCards
import Derived.Test.YthlagpmacnijfaaGreatDoorTie
import Derived.Deep.DeepHandedRow
import Derived.Deep.DeepLaidRun
import Derived.Lib.LaidTab
import Derived.MakeChecks
import Derived.Stop.LaidErr
import Derived.Test.YthlagpmacnijfaaGreatDoorSr03
namespace Go.Proofs.YthlagpmacnijfaaGreatDoor
open Go.RowKit

set_option maxRecDepth 20000 in
set_option maxHeartbeats 8000000 in
theorem batch_Read (l : Ln.L) (w : World) (hs : l.v.size ≤ 1048576) (hT : BTabs w) :
    Calls Tryz.prog 6 #[lineV l] w fun e w' => e = .returned (.tuple #[setV (Bt.ofLine l).1, .int .i64 ((Bt.ofLine l).2 : Int)]) ∧ Below w.heap.size w w' := by
  rw [Bt.of_guess l hs]
  obtain ⟨K, V⟩ := l
  simp only at hs ⊢
  have hS := set_beside w (Ln.lineC ⟨K, V⟩) zeroC 23 28
  obtain ⟨w1, hw1⟩ : ∃ w1, w1 = (w.alloc (.cells (Ln.lineC ⟨K, V⟩).toArray 23)).alloc (.cells zeroC.toArray 28) := ⟨_, rfl⟩
  rw [← hw1] at hS
  obtain ⟨hA, hG, hR⟩ := hS
  have HA := Lib.hid hA
  have HG := Lib.hid hG
  have HR := Lib.hid hR
  have hgl := hG.lt
  have hrl := hR.lt
  have HK := Lib.hid (batch_kindOf K w1 (hT.2.below hA))
  have HT := Lib.hid hT
  have hw1' : w1 = (w.alloc (.cells #[.string K, .string V] 23)).alloc (.cells #[.int .i64 0, .string ⟨#[]⟩, .int .i64 0, .int .u32 0, .int .i64 0] 28) := hw1
  have g0 := hG.cell 0 rfl
  have g1 := hG.cell 1 rfl
  unfold lineV
  rcases Bt.kindOf_cases K with hk | ⟨hk1, hk2, -⟩
  · rw [hk] at HK ⊢
    rw [decide_eq_false (by omega : ¬ (0 : Nat) ≠ 0)] at HK
    rw [if_pos rfl]
    clear hk hT hA hG hR hw1 hs
    unfold setV
    go_enter Tryz.func6, Tryz.ntmps6
    go_upto_region 1 with fail
    rw [← hw1']
    clear hw1'
    go_wp2_with fail
    refine HK.out.mono ?_
    rintro e w2 ⟨rfl, hb2⟩
    have HR2 := Lib.hid (HR.out.kept hb2)
    have HB2 := Lib.hid (HA.out.trans (hb2.mono HA.out.size))
    clear hb2 g0 g1
    go_wp2_with (refine wpL_storeBlk (o := ⟨none, _, _, _, _, _⟩) rfl 28 (.tmp 2) (.tmp 17) rfl (w.heap.size + 1) zeroC [.int .i64 0, .string ⟨#[]⟩, .int .i64 0, .int .u32 0, .int .i64 0] rfl rfl HR2.out size_set rfl rfl ?_)
    intro w9 hR9 hg9 hz9
    have hB9 := below_row HB2.out hg9 (by have := HB2.out.size; omega) (Nat.le_succ _)
    go_wp2
    exact bodyPost_ret (ret_cell (load_set hR9 rfl) Tryz.results6 rfl rfl) rfl ⟨rfl, hB9⟩
  · obtain ⟨k, hkk⟩ : ∃ k, k = Bt.kindOf K := ⟨_, rfl⟩
    rw [← hkk] at hk1 hk2 HK ⊢
    rw [if_neg (by omega)]
    rw [decide_eq_true (by omega : k ≠ 0)] at HK
    have HGu := Lib.hid (fun W hW => batch_guess (k : Int) V W (by omega) (by omega) hs (HT.out.below hW))
    have hgo := Bt.guess_ok (k : Int) V hs
    generalize Bt.guess (k : Int) V = s at *
    have HL := Lib.hid (fun W hW => batch_Line s W hgo.1 hgo.2.1 hgo.2.2.1 hgo.2.2.2 (HT.out.below hW))
    clear hkk hT hA hG hR hw1 hs hgo
    obtain ⟨L, hLL⟩ : ∃ L, L = Bt.line s := ⟨_, rfl⟩
    rw [← hLL] at HL ⊢
    obtain ⟨X, Y⟩ := L
    unfold lineV at HL
    by_cases he : Bt.err s = 0
    · rcases line_parts X K Y V with ⟨rfl, rfl⟩ | z0 | ⟨rfl, z0⟩
      · rw [if_pos ⟨he, rfl⟩]
        rw [he] at HL
        clear he hLL
        obtain ⟨sk, st, sn, sa, sb⟩ := s
        unfold setV at HGu HL ⊢
        go_enter Tryz.func6, Tryz.ntmps6
        go_upto_region 1 with fail
        rw [← hw1']
        clear hw1'
        go_wp2_with fail
        refine HK.out.mono ?_
        rintro e w2 ⟨rfl, hb2⟩
        have hG2 := HG.out.kept hb2
        have HG2 := Lib.hid hG2
        have HR2 := Lib.hid (HR.out.kept hb2)
        have HB2 := Lib.hid (HA.out.trans (hb2.mono HA.out.size))
        have k1 := hG2.cell 1 rfl
        clear hb2 g0 g1 hG2
        go_wp2_with fail
        refine (HGu.out w2 HB2.out).mono ?_
        rintro e w3 ⟨rfl, hb3⟩
        obtain ⟨w4, hw4⟩ : ∃ w4, w4 = w3.alloc (.cells #[.int .i64 sk, .string st, .int .i64 sn, .int .u32 (sa : Int), .int .i64 sb] 28) := ⟨_, rfl⟩
        have hA4 : Below w3.heap.size w3 w4 := by rw [hw4]; exact (Below.refl _ _).alloc (Nat.le_refl _) _
        have HS4 := Lib.hid (show Blk w4 w3.heap.size 28 [.int .i64 sk, .string st, .int .i64 sn, .int .u32 (sa : Int), .int .i64 sb] by rw [hw4]; exact Blk.new _ _ _)
        have hB24 := hb3.trans (hA4.mono hb3.size)
        have HG4 := Lib.hid (HG2.out.kept hB24)
        have HR4 := Lib.hid (HR2.out.kept hB24)
        have HB4 := Lib.hid (HB2.out.trans (hB24.mono HB2.out.size))
        have hg3 : w.heap.size + 1 < w3.heap.size := Nat.lt_of_lt_of_le HR2.out.lt hb3.size
        clear hA4 hB24 hb3 k1
        go_upto_region 5 with fail
        rw [← hw4]
        clear hw4
        obtain ⟨⟨s0, s1, s2, s3, s4⟩, -⟩ := HS4.out.facts5
        go_wp2_with fail
        refine (HL.out w4 HB4.out).mono ?_
        rintro e w5 ⟨rfl, hb5⟩
        obtain ⟨w6, hw6⟩ : ∃ w6, w6 = w5.alloc (.cells #[.string X, .string Y] 23) := ⟨_, rfl⟩
        have hA6 : Below w5.heap.size w5 w6 := by rw [hw6]; exact (Below.refl _ _).alloc (Nat.le_refl _) _
        have hM := show Blk w6 w5.heap.size 23 [.string X, .string Y] by rw [hw6]; exact Blk.new _ _ _
        have hB46 := hb5.trans (hA6.mono hb5.size)
        have hG6 := HG4.out.kept hB46
        have HR6 := Lib.hid (HR4.out.kept hB46)
        have hS6 := HS4.out.kept hB46
        have HB6 := Lib.hid (HB4.out.trans (hB46.mono HB4.out.size))
        obtain ⟨⟨s0, s1, s2, s3, s4⟩, -⟩ := hS6.facts5
        have k0 := hG6.cell 0 rfl
        have k1 := hG6.cell 1 rfl
        have m0 := hM.cell 0 rfl
        have m1 := hM.cell 1 rfl
        clear hA6 hB46 hb5 hM hG6 hS6
        go_upto_region 6 with fail
        rw [← hw6]
        clear hw6
        go_wp2_with (refine wpL_storeBlk (o := ⟨none, _, _, _, _, _⟩) rfl 28 (.tmp 2) (.tmp 35) rfl (w.heap.size + 1) zeroC [.int .i64 sk, .string st, .int .i64 sn, .int .u32 (sa : Int), .int .i64 sb] rfl rfl HR6.out size_set rfl rfl ?_)
        intro w9 hR9 hg9 hz9
        have hB9 := below_row HB6.out hg9 (by have := HB6.out.size; omega) (Nat.le_succ _)
        go_wp2
        exact bodyPost_ret (ret_cell (load_set hR9 rfl) Tryz.results6 rfl rfl) rfl ⟨rfl, hB9⟩
      · rw [if_neg (fun h => by have := h.2; injection this with e1 e2; subst e1; simp at z0)]
        rw [he] at HL
        clear he hLL
        obtain ⟨sk, st, sn, sa, sb⟩ := s
        unfold setV at HGu HL ⊢
        go_enter Tryz.func6, Tryz.ntmps6
        go_upto_region 1 with fail
        rw [← hw1']
        clear hw1'
        go_wp2_with fail
        refine HK.out.mono ?_
        rintro e w2 ⟨rfl, hb2⟩
        have hG2 := HG.out.kept hb2
        have HG2 := Lib.hid hG2
        have HR2 := Lib.hid (HR.out.kept hb2)
        have HB2 := Lib.hid (HA.out.trans (hb2.mono HA.out.size))
        have k1 := hG2.cell 1 rfl
        clear hb2 g0 g1 hG2
        go_wp2_with fail
        refine (HGu.out w2 HB2.out).mono ?_
        rintro e w3 ⟨rfl, hb3⟩
        obtain ⟨w4, hw4⟩ : ∃ w4, w4 = w3.alloc (.cells #[.int .i64 sk, .string st, .int .i64 sn, .int .u32 (sa : Int), .int .i64 sb] 28) := ⟨_, rfl⟩
        have hA4 : Below w3.heap.size w3 w4 := by rw [hw4]; exact (Below.refl _ _).alloc (Nat.le_refl _) _
        have HS4 := Lib.hid (show Blk w4 w3.heap.size 28 [.int .i64 sk, .string st, .int .i64 sn, .int .u32 (sa : Int), .int .i64 sb] by rw [hw4]; exact Blk.new _ _ _)
        have hB24 := hb3.trans (hA4.mono hb3.size)
        have HG4 := Lib.hid (HG2.out.kept hB24)
        have HR4 := Lib.hid (HR2.out.kept hB24)
        have HB4 := Lib.hid (HB2.out.trans (hB24.mono HB2.out.size))
        have hg3 : w.heap.size + 1 < w3.heap.size := Nat.lt_of_lt_of_le HR2.out.lt hb3.size
        clear hA4 hB24 hb3 k1
        go_upto_region 5 with fail
        rw [← hw4]
        clear hw4
        obtain ⟨⟨s0, s1, s2, s3, s4⟩, -⟩ := HS4.out.facts5
        go_wp2_with fail
        refine (HL.out w4 HB4.out).mono ?_
        rintro e w5 ⟨rfl, hb5⟩
        obtain ⟨w6, hw6⟩ : ∃ w6, w6 = w5.alloc (.cells #[.string X, .string Y] 23) := ⟨_, rfl⟩
        have hA6 : Below w5.heap.size w5 w6 := by rw [hw6]; exact (Below.refl _ _).alloc (Nat.le_refl _) _
        have hM := show Blk w6 w5.heap.size 23 [.string X, .string Y] by rw [hw6]; exact Blk.new _ _ _
        have hB46 := hb5.trans (hA6.mono hb5.size)
        have hG6 := HG4.out.kept hB46
        have HR6 := Lib.hid (HR4.out.kept hB46)
        have hS6 := HS4.out.kept hB46
        have HB6 := Lib.hid (HB4.out.trans (hB46.mono HB4.out.size))
        obtain ⟨⟨s0, s1, s2, s3, s4⟩, -⟩ := hS6.facts5
        have k0 := hG6.cell 0 rfl
        have k1 := hG6.cell 1 rfl
        have m0 := hM.cell 0 rfl
        have m1 := hM.cell 1 rfl
        clear hA6 hB46 hb5 hM hG6 hS6
        go_upto_region 6 with fail
        rw [← hw6]
        clear hw6
        go_wp2_with (refine wpL_storeBlk (o := ⟨none, _, _, _, _, _⟩) rfl 28 (.tmp 2) (.tmp 34) rfl (w.heap.size + 1) zeroC [.int .i64 0, .string ⟨#[]⟩, .int .i64 0, .int .u32 0, .int .i64 0] rfl rfl HR6.out size_set rfl rfl ?_)
        intro w9 hR9 hg9 hz9
        have hB9 := below_row HB6.out hg9 (by have := HB6.out.size; omega) (Nat.le_succ _)
        go_wp2
        exact bodyPost_ret (ret_cell (load_set hR9 rfl) Tryz.results6 rfl rfl) rfl ⟨rfl, hB9⟩
      · rw [if_neg (fun h => by have := h.2; injection this with e1 e2; subst e2; simp at z0)]
        rw [he] at HL
        clear he hLL
        obtain ⟨sk, st, sn, sa, sb⟩ := s
        unfold setV at HGu HL ⊢
        go_enter Tryz.func6, Tryz.ntmps6
        go_upto_region 1 with fail
        rw [← hw1']
        clear hw1'
        go_wp2_with fail
        refine HK.out.mono ?_
        rintro e w2 ⟨rfl, hb2⟩
        have hG2 := HG.out.kept hb2
        have HG2 := Lib.hid hG2
        have HR2 := Lib.hid (HR.out.kept hb2)
        have HB2 := Lib.hid (HA.out.trans (hb2.mono HA.out.size))
        have k1 := hG2.cell 1 rfl
        clear hb2 g0 g1 hG2
        go_wp2_with fail
        refine (HGu.out w2 HB2.out).mono ?_
        rintro e w3 ⟨rfl, hb3⟩
        obtain ⟨w4, hw4⟩ : ∃ w4, w4 = w3.alloc (.cells #[.int .i64 sk, .string st, .int .i64 sn, .int .u32 (sa : Int), .int .i64 sb] 28) := ⟨_, rfl⟩
        have hA4 : Below w3.heap.size w3 w4 := by rw [hw4]; exact (Below.refl _ _).alloc (Nat.le_refl _) _
        have HS4 := Lib.hid (show Blk w4 w3.heap.size 28 [.int .i64 sk, .string st, .int .i64 sn, .int .u32 (sa : Int), .int .i64 sb] by rw [hw4]; exact Blk.new _ _ _)
        have hB24 := hb3.trans (hA4.mono hb3.size)
        have HG4 := Lib.hid (HG2.out.kept hB24)
        have HR4 := Lib.hid (HR2.out.kept hB24)
        have HB4 := Lib.hid (HB2.out.trans (hB24.mono HB2.out.size))
        have hg3 : w.heap.size + 1 < w3.heap.size := Nat.lt_of_lt_of_le HR2.out.lt hb3.size
        clear hA4 hB24 hb3 k1
        go_upto_region 5 with fail
        rw [← hw4]
        clear hw4
        obtain ⟨⟨s0, s1, s2, s3, s4⟩, -⟩ := HS4.out.facts5
        go_wp2_with fail
        refine (HL.out w4 HB4.out).mono ?_
        rintro e w5 ⟨rfl, hb5⟩
        obtain ⟨w6, hw6⟩ : ∃ w6, w6 = w5.alloc (.cells #[.string X, .string Y] 23) := ⟨_, rfl⟩
        have hA6 : Below w5.heap.size w5 w6 := by rw [hw6]; exact (Below.refl _ _).alloc (Nat.le_refl _) _
        have hM := show Blk w6 w5.heap.size 23 [.string X, .string Y] by rw [hw6]; exact Blk.new _ _ _
        have hB46 := hb5.trans (hA6.mono hb5.size)
        have hG6 := HG4.out.kept hB46
        have HR6 := Lib.hid (HR4.out.kept hB46)
        have hS6 := HS4.out.kept hB46
        have HB6 := Lib.hid (HB4.out.trans (hB46.mono HB4.out.size))
        obtain ⟨⟨s0, s1, s2, s3, s4⟩, -⟩ := hS6.facts5
        have k0 := hG6.cell 0 rfl
        have k1 := hG6.cell 1 rfl
        have m0 := hM.cell 0 rfl
        have m1 := hM.cell 1 rfl
        clear hA6 hB46 hb5 hM hG6 hS6
        go_upto_region 6 with fail
        rw [← hw6]
        clear hw6
        go_wp2_with (refine wpL_storeBlk (o := ⟨none, _, _, _, _, _⟩) rfl 28 (.tmp 2) (.tmp 34) rfl (w.heap.size + 1) zeroC [.int .i64 0, .string ⟨#[]⟩, .int .i64 0, .int .u32 0, .int .i64 0] rfl rfl HR6.out size_set rfl rfl ?_)
        intro w9 hR9 hg9 hz9
        have hB9 := below_row HB6.out hg9 (by have := HB6.out.size; omega) (Nat.le_succ _)
        go_wp2
        exact bodyPost_ret (ret_cell (load_set hR9 rfl) Tryz.results6 rfl rfl) rfl ⟨rfl, hB9⟩
    · rw [if_neg (fun h => he h.1)]
      have hn : ((Bt.err s : Int) != 0) = true := by simpa using he
      clear he hLL
      generalize Bt.err s = r at *
      obtain ⟨sk, st, sn, sa, sb⟩ := s
      unfold setV at HGu HL ⊢
      go_enter Tryz.func6, Tryz.ntmps6
      go_upto_region 1 with fail
      rw [← hw1']
      clear hw1'
      go_wp2_with fail
      refine HK.out.mono ?_
      rintro e w2 ⟨rfl, hb2⟩
      have hG2 := HG.out.kept hb2
      have HG2 := Lib.hid hG2
      have HR2 := Lib.hid (HR.out.kept hb2)
      have HB2 := Lib.hid (HA.out.trans (hb2.mono HA.out.size))
      have k1 := hG2.cell 1 rfl
      clear hb2 g0 g1 hG2
      go_wp2_with fail
      refine (HGu.out w2 HB2.out).mono ?_
      rintro e w3 ⟨rfl, hb3⟩
      obtain ⟨w4, hw4⟩ : ∃ w4, w4 = w3.alloc (.cells #[.int .i64 sk, .string st, .int .i64 sn, .int .u32 (sa : Int), .int .i64 sb] 28) := ⟨_, rfl⟩
      have hA4 : Below w3.heap.size w3 w4 := by rw [hw4]; exact (Below.refl _ _).alloc (Nat.le_refl _) _
      have HS4 := Lib.hid (show Blk w4 w3.heap.size 28 [.int .i64 sk, .string st, .int .i64 sn, .int .u32 (sa : Int), .int .i64 sb] by rw [hw4]; exact Blk.new _ _ _)
      have hB24 := hb3.trans (hA4.mono hb3.size)
      have HG4 := Lib.hid (HG2.out.kept hB24)
      have HR4 := Lib.hid (HR2.out.kept hB24)
      have HB4 := Lib.hid (HB2.out.trans (hB24.mono HB2.out.size))
      have hg3 : w.heap.size + 1 < w3.heap.size := Nat.lt_of_lt_of_le HR2.out.lt hb3.size
      clear hA4 hB24 hb3 k1
      go_upto_region 5 with fail
      rw [← hw4]
      clear hw4
      obtain ⟨⟨s0, s1, s2, s3, s4⟩, -⟩ := HS4.out.facts5
      go_wp2_with fail
      refine (HL.out w4 HB4.out).mono ?_
      rintro e w5 ⟨rfl, hb5⟩
      obtain ⟨w6, hw6⟩ : ∃ w6, w6 = w5.alloc (.cells #[.string X, .string Y] 23) := ⟨_, rfl⟩
      have hA6 : Below w5.heap.size w5 w6 := by rw [hw6]; exact (Below.refl _ _).alloc (Nat.le_refl _) _
      have hM := show Blk w6 w5.heap.size 23 [.string X, .string Y] by rw [hw6]; exact Blk.new _ _ _
      have hB46 := hb5.trans (hA6.mono hb5.size)
      have hG6 := HG4.out.kept hB46
      have HR6 := Lib.hid (HR4.out.kept hB46)
      have hS6 := HS4.out.kept hB46
      have HB6 := Lib.hid (HB4.out.trans (hB46.mono HB4.out.size))
      obtain ⟨⟨s0, s1, s2, s3, s4⟩, -⟩ := hS6.facts5
      have k0 := hG6.cell 0 rfl
      have k1 := hG6.cell 1 rfl
      have m0 := hM.cell 0 rfl
      have m1 := hM.cell 1 rfl
      clear hA6 hB46 hb5 hM hG6 hS6
      go_upto_region 6 with fail
      rw [← hw6]
      clear hw6
      go_wp2_with (refine wpL_storeBlk (o := ⟨none, _, _, _, _, _⟩) rfl 28 (.tmp 2) (.tmp 34) rfl (w.heap.size + 1) zeroC [.int .i64 0, .string ⟨#[]⟩, .int .i64 0, .int .u32 0, .int .i64 0] rfl rfl HR6.out size_set rfl rfl ?_)
      intro w9 hR9 hg9 hz9
      have hB9 := below_row HB6.out hg9 (by have := HB6.out.size; omega) (Nat.le_succ _)
      go_wp2
      exact bodyPost_ret (ret_cell (load_set hR9 rfl) Tryz.results6 rfl rfl) rfl ⟨rfl, hB9⟩
end Go.Proofs.YthlagpmacnijfaaGreatDoor

namespace Go.Proofs.YthlagpmacnijfaaGreatDoor
open Go.ChangeShapes Go.WideShapes Go.ChangeAt Go.RowKit

theorem own_knob : ownKnob Tryz.prog.godebug = none := by kernel_rfl
theorem laid_out : laidOutB Tryz.prog = true := by kernel_rfl

theorem lt_of_cell {w : World} {a : Addr} {v : Value} (h : w.cell? a = some v) : a.block < w.heap.size := by
  rcases Nat.lt_or_ge a.block w.heap.size with hlt | hge
  · exact hlt
  · simp [World.cell?, Array.getElem?_eq_none hge] at h

theorem byte_wf {n : Int} (h : (Lit.int .u8 n).wf = true) : ((UInt8.ofNat n.toNat).toNat : Int) = n := by
  have hb := bounds_u8 h
  rw [UInt8.toNat_ofNat', Nat.mod_eq_of_lt (by omega)]
  omega
end Go.Proofs.YthlagpmacnijfaaGreatDoor

namespace Go.Proofs.YthlagpmacnijfaaGreatDoor
open Go.ChangeShapes Go.WideShapes Go.ChangeAt Go.RowKit Go.Deep

set_option maxRecDepth 100000 in
theorem open_line {H : Type} {enc : TypeId × Value → H} {W : World} {base : Nat} {v : Value} {d : DataW H} {p : List MemPlace} (hv : Value.okWide Tryz.prog W .any base 23 v)
    (h : DataW.Trod enc Tryz.prog W 0 (fun _ => true) true 23 v d p) : ∃ x : Ln.L, v = lineV x := by
  obtain ⟨v0, v1, y0, y1, n, rfl, rfl, rfl, h0, h1⟩ := Joins.open_agg2 Tryz.underlying23 (by kernel_rfl) (by kernel_rfl) hv h
  obtain ⟨a, e0, _, _⟩ := DataW.trod_string Tryz.underlying9 h0
  obtain ⟨b, e1, _, _⟩ := DataW.trod_string Tryz.underlying9 h1
  injection e0 with e0
  injection e1 with e1
  subst e0 e1
  exact ⟨⟨a, b⟩, rfl⟩
set_option maxRecDepth 100000 in
theorem open_lineD {H : Type} {enc : TypeId × Value → H} {W : World} {base : Nat} {v : Value} {d : DataW H} {p : List MemPlace} (hv : Value.okWide Tryz.prog W .any base 23 v)
    (h : DataW.Trod enc Tryz.prog W 0 (fun _ => true) true 23 v d p) : ∃ x : Ln.L, v = lineV x ∧ d = .agg [.lit (.string x.k.data.toList), .lit (.string x.v.data.toList)] := by
  obtain ⟨v0, v1, y0, y1, n, rfl, rfl, rfl, h0, h1⟩ := Joins.open_agg2 Tryz.underlying23 (by kernel_rfl) (by kernel_rfl) hv h
  obtain ⟨a, e0, rfl, _⟩ := DataW.trod_string Tryz.underlying9 h0
  obtain ⟨b, e1, rfl, _⟩ := DataW.trod_string Tryz.underlying9 h1
  injection e0 with e0
  injection e1 with e1
  subst e0 e1
  exact ⟨⟨a, b⟩, rfl, rfl⟩
/-- What the narrowed rows say of a line. -/
theorem line_small {H : Type} {d : DataW H} {x : Ln.L} (hd : d = .agg [.lit (.string x.k.data.toList), .lit (.string x.v.data.toList)]) (h : Rows.uptoBulk d ≤ 1048576) : x.k.size ≤ 1048576 ∧ x.v.size ≤ 1048576 := by
  rw [hd] at h
  simp only [Rows.uptoBulk, Rows.uptoBulkAll] at h
  have h1 : x.k.data.toList.length = x.k.size := by simp
  have h2 : x.v.data.toList.length = x.v.size := by simp
  omega
theorem cells_line : Tryz.prog.cellsOf 23 = 2 := by kernel_rfl
set_option maxRecDepth 100000 in
theorem open_line2 {H : Type} {enc : TypeId × Value → H} {W : World} {n : Nat} {cs : List Value} {x : DataW H × List MemPlace} (hl : cs.length = 2)
    (h : DataW.trod enc Tryz.prog W 0 (fun _ => true) true n 23 cs = some x) : ∃ r : Ln.L, cs = Ln.lineC r := by
  obtain ⟨xs, m, _, _, _, hxl, hf⟩ := DataW.trod_struct Tryz.underlying23 h
  match xs, hxl, cs, hl with
  | [y0, y1], _, [v0, v1], _ =>
    have g0 := hf 0 _ rfl
    have g1 := hf 1 _ rfl
    change DataW.trod enc Tryz.prog W 0 (fun _ => true) true m 9 [v0] = some y0 at g0
    change DataW.trod enc Tryz.prog W 0 (fun _ => true) true m 9 [v1] = some y1 at g1
    obtain ⟨k, e0, _, _⟩ := DataW.trod_string Tryz.underlying9 g0
    obtain ⟨a, e1, _, _⟩ := DataW.trod_string Tryz.underlying9 g1
    injection e0 with e0
    injection e1 with e1
    subst e0 e1
    exact ⟨⟨k, a⟩, rfl⟩
theorem open_lines {H : Type} {enc : TypeId × Value → H} {W : World} {a : Option Addr} {len cap : Nat} {d : DataW H} {p : List MemPlace}
    (h : DataW.Trod enc Tryz.prog W 0 (fun _ => true) true 52 (.slice a len cap) d p) :
    ∃ l : List Ln.L, LinesAt W W.heap.size a len l ∧ len ≤ cap := by
  obtain ⟨fuel, hf⟩ := h
  rcases open_slice Tryz.underlying52 hf with ⟨hcs, hx⟩ | ⟨x, l, c, m, n, D, Pl, hcs, _, hl, hm, hmm, hx, hall⟩
  · simp [Value.cells] at hcs
    obtain ⟨rfl, rfl, rfl⟩ := hcs
    exact ⟨[], ⟨rfl, fun h => absurd h (by omega)⟩, Nat.le_refl _⟩
  · simp [Value.cells] at hcs
    obtain ⟨rfl, rfl, rfl⟩ := hcs
    rw [if_pos rfl] at hmm
    subst hmm
    rw [cells_line] at hall
    have each : ∀ i, i < m → ∃ r : Ln.L, ∀ j, j < 2 → W.cell? (x.add (i * 2 + j)) = (Ln.lineC r)[j]? := by
      intro i hi
      obtain ⟨cs', h1, h2⟩ := hall i hi
      obtain ⟨_, hlen, hcell⟩ := World.cells?_some h1
      obtain ⟨r, rfl⟩ := open_line2 hlen h2
      exact ⟨r, fun j hj => by rw [← add_add]; exact hcell j hj⟩
    obtain ⟨q, hq⟩ := choose_lt each
    refine ⟨(List.range len).map q, ⟨by simp, fun hpos => ?_⟩, hl⟩
    obtain ⟨b, off, spot⟩ := x
    have h0 := hq 0 (by omega) 0 (by omega)
    have hspot : spot = none := by simpa [Addr.add] using World.cell?_spot h0
    subst hspot
    have hc : ∀ i (_ : i < len) j (_ : j < 2), W.cell? ⟨b, off + i * 2 + j, none⟩ = (Ln.lineC (q i))[j]? := by
      intro i hi j hj
      rw [← hq i (by omega) j hj, Addr.add_lit, Nat.add_assoc]
    refine ⟨b, off, rfl, lt_of_cell (a := ⟨b, off + 0 * 2 + 0, none⟩) (hc 0 hpos 0 (by omega)), fun i hi => ?_⟩
    have hi' : i < len := by simpa using hi
    rw [List.getElem_map, List.getElem_range]
    exact ⟨hc i hi' 0 (by omega), hc i hi' 1 (by omega)⟩
end Go.Proofs.YthlagpmacnijfaaGreatDoor

namespace Go.Proofs.YthlagpmacnijfaaGreatDoor
open Go.RowKit

set_option maxRecDepth 20000 in
set_option maxHeartbeats 4000000 in
theorem law_BatchReads (x : Ln.L) (w : World) (u : x.k.size ≤ 1048576 ∧ x.v.size ≤ 1048576) (hT : ATabs w) :
    Calls Tryz.prog 3 #[lineV x] w fun e w' => e = .returned (.bool true) ∧ Below w.heap.size w w' := by
  have H1 := Lib.hid (fun W hW => batch_Read x W u.2 (hT.code.below hW))
  have H2 := Lib.hid (fun W hW => ref_SettingOf x W u.2 (hT.1.below hW))
  clear hT u
  generalize (Bt.ofLine x).2 = r at *
  generalize (Bt.ofLine x).1 = s at *
  obtain ⟨X, Y⟩ := x
  obtain ⟨sk, st, sn, sa, sb⟩ := s
  unfold setV lineV at H1 H2
  unfold lineV
  obtain ⟨w1, hw1⟩ : ∃ w1, w1 = w.alloc (.cells #[.string X, .string Y] 23) := ⟨_, rfl⟩
  have HA := Lib.hid (show Below w.heap.size w w1 by rw [hw1]; exact (Below.refl _ _).alloc (Nat.le_refl _) _)
  have HG := Lib.hid (show Blk w1 w.heap.size 23 [.string X, .string Y] by rw [hw1]; exact Blk.new _ _ _)
  go_enter Tryz.func3, Tryz.ntmps3
  go_wp2_with fail
  rw [← hw1]
  clear hw1
  refine (H1.out w1 HA.out).mono ?_
  rintro e w3 ⟨rfl, hb3⟩
  obtain ⟨w4, hw4⟩ : ∃ w4, w4 = w3.alloc (.cells #[.int .i64 sk, .string st, .int .i64 sn, .int .u32 (sa : Int), .int .i64 sb] 28) := ⟨_, rfl⟩
  have hA4 : Below w3.heap.size w3 w4 := by rw [hw4]; exact (Below.refl _ _).alloc (Nat.le_refl _) _
  have HM4 := Lib.hid (show Blk w4 w3.heap.size 28 [.int .i64 sk, .string st, .int .i64 sn, .int .u32 (sa : Int), .int .i64 sb] by rw [hw4]; exact Blk.new _ _ _)
  have hB24 := hb3.trans (hA4.mono hb3.size)
  have HG4 := Lib.hid (HG.out.kept hB24)
  have HA4 := Lib.hid (HA.out.trans (hB24.mono HA.out.size))
  have g0 := HG4.out.cell 0 rfl
  have g1 := HG4.out.cell 1 rfl
  clear hA4 hB24 hb3 H1
  go_upto_region 2 with fail
  rw [← hw4]
  clear hw4
  go_wp2_with fail
  refine (H2.out w4 HA4.out).mono ?_
  rintro e w6 ⟨rfl, hb6⟩
  obtain ⟨w7, hw7⟩ : ∃ w7, w7 = w6.alloc (.cells #[.int .i64 sk, .string st, .int .i64 sn, .int .u32 (sa : Int), .int .i64 sb] 28) := ⟨_, rfl⟩
  have hA7 : Below w6.heap.size w6 w7 := by rw [hw7]; exact (Below.refl _ _).alloc (Nat.le_refl _) _
  have hM := show Blk w7 w6.heap.size 28 [.int .i64 sk, .string st, .int .i64 sn, .int .u32 (sa : Int), .int .i64 sb] by rw [hw7]; exact Blk.new _ _ _
  have hB57 := hb6.trans (hA7.mono hb6.size)
  have hM5 := HM4.out.kept hB57
  have HA7 := Lib.hid (HA4.out.trans (hB57.mono HA4.out.size))
  obtain ⟨m0, m1, m2, m3, m4⟩ := hM.facts5.1
  obtain ⟨k0, k1, k2, k3, k4⟩ := hM5.facts5.1
  clear hA7 hM hB57 hM5 hb6 g0 g1 H2
  go_upto_region 3 with fail
  rw [← hw7]
  clear hw7
  go_wp2
  go_ret
  exact ⟨rfl, HA7.out⟩
end Go.Proofs.YthlagpmacnijfaaGreatDoor

namespace Go.Proofs.YthlagpmacnijfaaGreatDoor
open Go.ChangeShapes Go.WideShapes Go.ChangeAt Go.RowKit

theorem gPow : Tryz.prog.globalNamed "internal/strconv.uint64pow10" = some 4 := by kernel_rfl
theorem gPowType : (Tryz.prog.globals[4]?).map (·.type) = some 147 := by kernel_rfl
theorem cellsPow : Tryz.prog.cellsOf 147 = 20 := by kernel_rfl
theorem cellsU64 : Tryz.prog.cellsOf 120 = 1 := by kernel_rfl
theorem gRange : Tryz.prog.globalNamed "strconv.ErrRange" = some 3 := by kernel_rfl
theorem gRangeType : (Tryz.prog.globals[3]?).map (·.type) = some 62 := by kernel_rfl
theorem gSyntax : Tryz.prog.globalNamed "strconv.ErrSyntax" = some 2 := by kernel_rfl
theorem gSyntaxType : (Tryz.prog.globals[2]?).map (·.type) = some 62 := by kernel_rfl
theorem cellsErr : Tryz.prog.cellsOf 145 = 1 := by kernel_rfl
theorem cellsStr : Tryz.prog.cellsOf 9 = 1 := by kernel_rfl
theorem star_err : "*" ++ "errors.errorString" = "*errors.errorString" := by decide
theorem row_err (u : TypeId) (h : Tryz.prog.typeName? 3 u = some "*errors.errorString") : u = 143 :=
  typeName_ptr_named (nm := "errors.errorString") (by rw [star_err]; kernel_rfl) (by kernel_rfl) (by decide) u (by rw [star_err]; exact h)
theorem pow_of_head {W : World} {r : List (String × DataW Unit)} (h : laidMet Tryz.prog (("internal/strconv.uint64pow10", Rows.laid_internal_strconv_uint64pow10) :: r) W) : PowTab W :=
  Lib.tabIs_of_head (k := .u64) (zs := Lib.pow10Tab) gPow gPowType Tryz.underlying147 Tryz.underlying120 cellsU64 cellsPow h
theorem err_of_head {W : World} {n : String} {g : Nat} {text : List UInt8} {r : List (String × DataW Unit)} (hg : Tryz.prog.globalNamed n = some g) (ht : (Tryz.prog.globals[g]?).map (·.type) = some 62)
    (h : laidMet Tryz.prog ((n, .iface "*errors.errorString" (.ptr (.agg [.lit (.string text)]))) :: r) W) : ∃ t p, W.cell? ⟨g, 0, none⟩ = some (.iface t p) := by
  obtain ⟨a, s, hv, _⟩ := laid_sentinel h hg ht Tryz.underlying62 row_err Tryz.underlying143 Tryz.underlying145 rfl rfl Tryz.underlying9 cellsErr cellsStr
  exact ⟨_, _, World.var?_cell hg hv 0⟩
theorem max_of_shaped {W : World} (h : W.ShapedOpen Tryz.prog) : MaxTab W := Tryz.laysM145.s1_3 W h

/-- The cells of a datum. -/
def flat : Nat → DataW Unit → List Value
  | n + 1, .agg ps => ps.flatMap (flat n)
  | _, .lit (.int k z) => [.int k z]
  | _, .lit (.string s) => [.string ⟨s.toArray⟩]
  | _, _ => []
/-- A block's cells anew. -/
def put (vs : List Value) : Obj → Obj
  | .cells _ t frozen => .cells vs.toArray t frozen
  | o => o
noncomputable def low : Nat := (World.holding Tryz.prog default ⟨#[], #[], []⟩).heap.size
abbrev rangeS : ByteArray := ⟨#[118, 97, 108, 117, 101, 32, 111, 117, 116, 32, 111, 102, 32, 114, 97, 110, 103, 101]⟩
abbrev syntaxS : ByteArray := ⟨#[105, 110, 118, 97, 108, 105, 100, 32, 115, 121, 110, 116, 97, 120]⟩
end Go.Proofs.YthlagpmacnijfaaGreatDoor

namespace Go.Proofs.YthlagpmacnijfaaGreatDoor
open Go.ChangeShapes Go.WideShapes Go.ChangeAt Go.RowKit

theorem gShapes : Tryz.prog.globalNamed "cattlecreep/batch.shapes" = some 0 := by kernel_rfl
theorem gShapesType : (Tryz.prog.globals[0]?).map (·.type) = some 58 := by kernel_rfl
theorem cellsShapes : Tryz.prog.cellsOf 58 = 22 := by kernel_rfl
theorem cellsShape : Tryz.prog.cellsOf 57 = 2 := by kernel_rfl
/-- The table as the row lists it. -/
theorem shapes_list : (Rows.laid_cattlecreep_batch_shapes : DataW Unit) = .agg ((List.range 11).map fun k => .agg [.lit (.string (Bt.nameOf k).data.toList), .lit (.int .i64 (Bt.fld (k : Int) : Int))]) := by kernel_rfl
set_option maxRecDepth 100000 in
theorem shape_cells {W : World} {base : Nat} {sp : Nat → Bool} {held : Bool} {n : Nat} {cs : List Value} {x : DataW Unit × List MemPlace} {s : ByteArray} {z : Int} {enc : TypeId × Value → Unit} (hl : cs.length = 2)
    (h : DataW.trod enc Tryz.prog W base sp held n 57 cs = some x) (hx : x.1 = .agg [.lit (.string s.data.toList), .lit (.int .i64 z)]) : cs = [.string s, .int .i64 z] := by
  obtain ⟨xs, m, _, ex, _, hxl, hf⟩ := DataW.trod_struct Tryz.underlying57 h
  match xs, hxl, cs, hl with
  | [y0, y1], _, [v0, v1], _ =>
    have g0 := hf 0 _ rfl
    have g1 := hf 1 _ rfl
    change DataW.trod enc Tryz.prog W base sp held m 9 [v0] = some y0 at g0
    change DataW.trod enc Tryz.prog W base sp held m 3 [v1] = some y1 at g1
    obtain ⟨k, e0, d0, _⟩ := DataW.trod_string Tryz.underlying9 g0
    obtain ⟨a, e1, d1, _⟩ := DataW.trod_int Tryz.underlying3 g1
    injection e0 with e0
    injection e1 with e1
    subst e0 e1
    rw [ex] at hx
    simp only [List.map_cons, List.map_nil, DataW.agg.injEq, List.cons.injEq, and_true] at hx
    obtain ⟨h0, h1⟩ := hx
    rw [d0] at h0
    rw [d1] at h1
    injection h0 with h0
    injection h0 with h0
    injection h1 with h1
    injection h1 with _ h1
    rw [h1, show k = s from WideShapes.bytes_inj (by exact h0)]
set_option maxRecDepth 100000 in
theorem shapes_of_head {W : World} {r : List (String × DataW Unit)} (h : laidMet Tryz.prog (("cattlecreep/batch.shapes", Rows.laid_cattlecreep_batch_shapes) :: r) W) : ShapeTab W := by
  obtain ⟨ps, ⟨g', t', csa, fuel, p, q, hg', ht', hvar, hd, _, _⟩, _⟩ := h
  obtain rfl := Option.some.inj (gShapes.symm.trans hg')
  obtain rfl := Option.some.inj (gShapesType.symm.trans ht')
  rw [shapes_list] at hd
  obtain ⟨cs, hcs⟩ : ∃ cs, cs = csa.toList := ⟨_, rfl⟩
  rw [← hcs] at hd
  obtain ⟨xs, m, _, ex, hcl, hxl, hf⟩ := DataW.trod_array Tryz.underlying58 hd
  rw [cellsShapes] at hcl
  rw [cellsShape] at hf
  have e3 := (DataW.agg.inj (Prod.mk.inj ex).1).symm
  have key : ∀ k, k < 11 → (cs.drop (k * 2)).take 2 = [.string (Bt.nameOf k), .int .i64 (Bt.fld (k : Int) : Int)] := by
    intro k hk
    have hE := hf k hk
    rw [List.getElem?_eq_getElem (by omega)] at hE
    refine shape_cells (by rw [List.length_take, List.length_drop]; omega) hE ?_
    have e4 := congrArg (·[k]?) e3
    simp only [List.getElem?_map] at e4
    rw [List.getElem?_eq_getElem (by omega), List.getElem?_eq_getElem (by rw [List.length_range]; omega)] at e4
    simpa using e4
  have hc : ∀ i, i < 22 → W.cell? ⟨0, i, none⟩ = cs[i]? := by
    intro i hi
    have := World.var?_cell gShapes hvar i
    rw [hcs]
    simpa using this
  have hat : ∀ k, k < 11 → W.cell? ⟨0, k * 2, none⟩ = some (.string (Bt.nameOf k)) ∧ W.cell? ⟨0, k * 2 + 1, none⟩ = some (.int .i64 (Bt.fld (k : Int) : Int)) := by
    intro k hk
    have hk2 := key k hk
    have a0 := congrArg (·[0]?) hk2
    have a1 := congrArg (·[1]?) hk2
    simp only [List.getElem?_take, List.getElem?_drop] at a0 a1
    rw [hc _ (by omega), hc _ (by omega)]
    exact ⟨by simpa using a0, by simpa using a1⟩
  exact ⟨lt_of_cell (hat 0 (by decide)).1, hat⟩

/-- A WORLD FOR THE WITNESS: the settled one, the listed variables holding what their initialisers lay. -/
noncomputable def laidWorld (os : Os) : World :=
  let w0 := World.holding Tryz.prog os ⟨#[.cells #[.string rangeS] 145, .cells #[.string syntaxS] 145], #[], []⟩
  let h1 := w0.heap.modify 7 (put (flat 4 Rows.laid_math_bits_deBruijn32tab))
  let h2 := h1.modify 8 (put (flat 4 Rows.laid_math_bits_deBruijn64tab))
  let h3 := h2.modify 4 (put (flat 4 Rows.laid_internal_strconv_uint64pow10))
  let h4 := h3.modify 6 (put (flat 4 Rows.laid_unicode_utf8_acceptRanges))
  let h5 := h4.modify 3 (put [.iface 143 (.pointer (some ⟨low, 0, none⟩))])
  let h6 := h5.modify 2 (put [.iface 143 (.pointer (some ⟨low + 1, 0, none⟩))])
  let h7 := h6.modify 5 (put (flat 4 Rows.laid_unicode_utf8_first))
  let h8 := h7.modify 0 (put (flat 4 Rows.laid_cattlecreep_batch_shapes))
  { w0 with heap := h8 }
abbrev laid8 : List (String × DataW Unit) := [("math/bits.deBruijn32tab", Rows.laid_math_bits_deBruijn32tab), ("math/bits.deBruijn64tab", Rows.laid_math_bits_deBruijn64tab), ("internal/strconv.uint64pow10", Rows.laid_internal_strconv_uint64pow10), ("unicode/utf8.acceptRanges", Rows.laid_unicode_utf8_acceptRanges), ("strconv.ErrRange", Rows.laid_strconv_ErrRange), ("strconv.ErrSyntax", Rows.laid_strconv_ErrSyntax), ("cattlecreep/batch.shapes", Rows.laid_cattlecreep_batch_shapes), ("unicode/utf8.first", Rows.laid_unicode_utf8_first)]
/-- WHAT THE ROWS' LISTS GIVE. -/
theorem tabs8 {W : World} (h : laidMetH Tryz.prog laid8 W) (hs : W.ShapedOpen Tryz.prog) : ATabs W := by
  rw [MakeChecks.laidMetH_plain _ _ _ (by kernel_rfl)] at h
  exact ⟨⟨pow_of_head h.tail.tail, ⟨err_of_head gSyntax gSyntaxType h.tail.tail.tail.tail.tail, err_of_head gRange gRangeType h.tail.tail.tail.tail⟩, max_of_shaped hs⟩, shapes_of_head h.tail.tail.tail.tail.tail.tail⟩
theorem laid8_met (os : Os) (args : Array Value) : laidMet Tryz.prog laid8 ((laidWorld os).forCall (fun _ _ => 0) ⟨#[], args, []⟩).memory :=
  laidMet_of_run3 300 (by kernel_rfl) (by kernel_rfl) (by kernel_rfl)
end Go.Proofs.YthlagpmacnijfaaGreatDoor
