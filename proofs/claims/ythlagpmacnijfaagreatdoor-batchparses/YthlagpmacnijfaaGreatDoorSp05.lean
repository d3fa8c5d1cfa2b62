/- What the listed variables give: Go's library's, and the landed code's table of kinds; a world for the witness. -/
import Derived.Test.YthlagpmacnijfaaGreatDoorSp04
import Derived.Test.YthlagpmacnijfaaGreatDoorSp01
import Derived.Laws.MakeOwn
import Derived.Laws.OwnMore
import Derived.Laws.CopyRow
import Derived.Test.YthlagpmacnijfaaGreatDoorSp02
import Derived.Test.YthlagpmacnijfaaGreatDoorBatchMem
import Derived.BigQuiet
import Derived.Test.YthlagpmacnijfaaGreatDoorSp03
import Derived.SizedLaws
import Derived.Test.YthlagpmacnijfaaGreatDoorRows
import Derived.Test.YthlagpmacnijfaaGreatDoorMem
import Derived.ProofKit
import Derived.OpenShut
import Derived.ShutString
import Derived.ChangeOld
import Derived.Below
import Derived.Test.YthlagpmacnijfaaGreatDoorCards
import Derived.Test.YthlagpmacnijfaaGreatDoorTie
import Derived.Deep.DeepHandedRow
import Derived.Deep.DeepLaidRun
import Derived.Lib.LaidTab
import Derived.MakeChecks
import Derived.Stop.LaidErr
namespace Go.Proofs.YthlagpmacnijfaaGreatDoor
open Go.RowKit

set_option maxRecDepth 20000 in
set_option maxHeartbeats 8000000 in
theorem batch_Read (l : Ln.L) (w : World) (hs : l.v.size ≤ 1048576) (hT : BTabs w) :
    Calls Tryz.prog 6 #[lineV l] w fun e w' => e = .returned (.tuple #[setV (Bt.ofLine l).1, .int .i64 ((Bt.ofLine l).2 : Int)]) ∧ Below w.heap.size w w' := by
  rw [Bt.of_guess l hs]
  obtain ⟨K, V⟩ := l
  simp only at hs ⊢
  have hS := set_beside w (Ln.lineC ⟨K, V⟩) zeroC 23 28
  obtain ⟨w1, hw1⟩ : ∃ w1, w1 = (w.alloc (.cells (Ln.lineC ⟨K, V⟩).toArray 23)).alloc (.cells zeroC.toArray 28) := ⟨_, rfl⟩
  rw [← hw1] at hS
  obtain ⟨hA, hG, hR⟩ := hS
  have HA := Lib.hid hA
  have HG := Lib.hid hG
  have HR := Lib.hid hR
  have hgl := hG.lt
  have hrl := hR.lt
  have HK := Lib.hid (batch_kindOf K w1 (hT.2.below hA))
  have HT := Lib.hid hT
  have hw1' : w1 = (w.alloc (.cells #[.string K, .string V] 23)).alloc (.cells #[.int .i64 0, .string ⟨#[]⟩, .int .i64 0, .int .u32 0, .int .i64 0] 28) := hw1
  have g0 := hG.cell 0 rfl
  have g1 := hG.cell 1 rfl
  unfold lineV
  rcases Bt.kindOf_cases K with hk | ⟨hk1, hk2, -⟩
  · rw [hk] at HK ⊢
    rw [decide_eq_false (by omega : ¬ (0 : Nat) ≠ 0)] at HK
    rw [if_pos rfl]
    clear hk hT hA hG hR hw1 hs
    unfold setV
    go_enter Tryz.func6, Tryz.ntmps6
    go_upto_region 1 with fail
    rw [← hw1']
    clear hw1'
    go_wp2_with fail
    refine HK.out.mono ?_
    rintro e w2 ⟨rfl, hb2⟩
    have HR2 := Lib.hid (HR.out.kept hb2)
    have HB2 := Lib.hid (HA.out.trans (hb2.mono HA.out.size))
    clear hb2 g0 g1
    go_wp2_with (refine wpL_storeBlk (o := ⟨none, _, _, _, _, _⟩) rfl 28 (.tmp 2) (.tmp 17) rfl (w.heap.size + 1) zeroC [.int .i64 0, .string ⟨#[]⟩, .int .i64 0, .int .u32 0, .int .i64 0] rfl rfl HR2.out size_set rfl rfl ?_)
    intro w9 hR9 hg9 hz9
    have hB9 := below_row HB2.out hg9 (by have := HB2.out.size; omega) (Nat.le_succ _)
    go_wp2
    exact bodyPost_ret (ret_cell (load_set hR9 rfl) Tryz.results6 rfl rfl) rfl ⟨rfl, hB9⟩
  · obtain ⟨k, hkk⟩ : ∃ k, k = Bt.kindOf K := ⟨_, rfl⟩
    rw [← hkk] at hk1 hk2 HK ⊢
    rw [if_neg (by omega)]
    rw [decide_eq_true (by omega : k ≠ 0)] at HK
    have HGu := Lib.hid (fun W hW => batch_guess (k : Int) V W (by omega) (by omega) hs (HT.out.below hW))
    have hgo := Bt.guess_ok (k : Int) V hs
    generalize Bt.guess (k : Int) V = s at *
    have HL := Lib.hid (fun W hW => batch_Line s W hgo.1 hgo.2.1 hgo.2.2.1 hgo.2.2.2 (HT.out.below hW))
    clear hkk hT hA hG hR hw1 hs hgo
    obtain ⟨L, hLL⟩ : ∃ L, L = Bt.line s := ⟨_, rfl⟩
    rw [← hLL] at HL ⊢
    obtain ⟨X, Y⟩ := L
    unfold lineV at HL
    by_cases he : Bt.err s = 0
    · rcases line_parts X K Y V with ⟨rfl, rfl⟩ | z0 | ⟨rfl, z0⟩
      · rw [if_pos ⟨he, rfl⟩]
        rw [he] at HL
        clear he hLL
        obtain ⟨sk, st, sn, sa, sb⟩ := s
        unfold setV at HGu HL ⊢
        go_enter Tryz.func6, Tryz.ntmps6
        go_upto_region 1 with fail
        rw [← hw1']
        clear hw1'
        go_wp2_with fail
        refine HK.out.mono ?_
        rintro e w2 ⟨rfl, hb2⟩
        have hG2 := HG.out.kept hb2
        have HG2 := Lib.hid hG2
        have HR2 := Lib.hid (HR.out.kept hb2)
        have HB2 := Lib.hid (HA.out.trans (hb2.mono HA.out.size))
        have k1 := hG2.cell 1 rfl
        clear hb2 g0 g1 hG2
        go_wp2_with fail
        refine (HGu.out w2 HB2.out).mono ?_
        rintro e w3 ⟨rfl, hb3⟩
        obtain ⟨w4, hw4⟩ : ∃ w4, w4 = w3.alloc (.cells #[.int .i64 sk, .string st, .int .i64 sn, .int .u32 (sa : Int), .int .i64 sb] 28) := ⟨_, rfl⟩
        have hA4 : Below w3.heap.size w3 w4 := by rw [hw4]; exact (Below.refl _ _).alloc (Nat.le_refl _) _
        have HS4 := Lib.hid (show Blk w4 w3.heap.size 28 [.int .i64 sk, .string st, .int .i64 sn, .int .u32 (sa : Int), .int .i64 sb] by rw [hw4]; exact Blk.new _ _ _)
        have hB24 := hb3.trans (hA4.mono hb3.size)
        have HG4 := Lib.hid (HG2.out.kept hB24)
        have HR4 := Lib.hid (HR2.out.kept hB24)
        have HB4 := Lib.hid (HB2.out.trans (hB24.mono HB2.out.size))
        have hg3 : w.heap.size + 1 < w3.heap.size := Nat.lt_of_lt_of_le HR2.out.lt hb3.size
        clear hA4 hB24 hb3 k1
        go_upto_region 5 with fail
        rw [← hw4]
        clear hw4
        obtain ⟨⟨s0, s1, s2, s3, s4⟩, -⟩ := HS4.out.facts5
        go_wp2_with fail
        refine (HL.out w4 HB4.out).mono ?_
        rintro e w5 ⟨rfl, hb5⟩
        obtain ⟨w6, hw6⟩ : ∃ w6, w6 = w5.alloc (.cells #[.string X, .string Y] 23) := ⟨_, rfl⟩
        have hA6 : Below w5.heap.size w5 w6 := by rw [hw6]; exact (Below.refl _ _).alloc (Nat.le_refl _) _
        have hM := show Blk w6 w5.heap.size 23 [.string X, .string Y] by rw [hw6]; exact Blk.new _ _ _
        have hB46 := hb5.trans (hA6.mono hb5.size)
        have hG6 := HG4.out.kept hB46
        have HR6 := Lib.hid (HR4.out.kept hB46)
        have hS6 := HS4.out.kept hB46
        have HB6 := Lib.hid (HB4.out.trans (hB46.mono HB4.out.size))
        obtain ⟨⟨s0, s1, s2, s3, s4⟩, -⟩ := hS6.facts5
        have k0 := hG6.cell 0 rfl
        have k1 := hG6.cell 1 rfl
        have m0 := hM.cell 0 rfl
        have m1 := hM.cell 1 rfl
        clear hA6 hB46 hb5 hM hG6 hS6
        go_upto_region 6 with fail
        rw [← hw6]
        clear hw6
        go_wp2_with (refine wpL_storeBlk (o := ⟨none, _, _, _, _, _⟩) rfl 28 (.tmp 2) (.tmp 35) rfl (w.heap.size + 1) zeroC [.int .i64 sk, .string st, .int .i64 sn, .int .u32 (sa : Int), .int .i64 sb] rfl rfl HR6.out size_set rfl rfl ?_)
        intro w9 hR9 hg9 hz9
        have hB9 := below_row HB6.out hg9 (by have := HB6.out.size; omega) (Nat.le_succ _)
        go_wp2
        exact bodyPost_ret (ret_cell (load_set hR9 rfl) Tryz.results6 rfl rfl) rfl ⟨rfl, hB9⟩
      · rw [if_neg (fun h => by have := h.2; injection this with e1 e2; subst e1; simp at z0)]
        rw [he] at HL
        clear he hLL
        obtain ⟨sk, st, sn, sa, sb⟩ := s
        unfold setV at HGu HL ⊢
        go_enter Tryz.func6, Tryz.ntmps6
        go_upto_region 1 with fail
        rw [← hw1']
        clear hw1'
        go_wp2_with fail
        refine HK.out.mono ?_
        rintro e w2 ⟨rfl, hb2⟩
        have hG2 := HG.out.kept hb2
        have HG2 := Lib.hid hG2
        have HR2 := Lib.hid (HR.out.kept hb2)
        have HB2 := Lib.hid (HA.out.trans (hb2.mono HA.out.size))
        have k1 := hG2.cell 1 rfl
        clear hb2 g0 g1 hG2
        go_wp2_with fail
        refine (HGu.out w2 HB2.out).mono ?_
        rintro e w3 ⟨rfl, hb3⟩
        obtain ⟨w4, hw4⟩ : ∃ w4, w4 = w3.alloc (.cells #[.int .i64 sk, .string st, .int .i64 sn, .int .u32 (sa : Int), .int .i64 sb] 28) := ⟨_, rfl⟩
        have hA4 : Below w3.heap.size w3 w4 := by rw [hw4]; exact (Below.refl _ _).alloc (Nat.le_refl _) _
        have HS4 := Lib.hid (show Blk w4 w3.heap.size 28 [.int .i64 sk, .string st, .int .i64 sn, .int .u32 (sa : Int), .int .i64 sb] by rw [hw4]; exact Blk.new _ _ _)
        have hB24 := hb3.trans (hA4.mono hb3.size)
        have HG4 := Lib.hid (HG2.out.kept hB24)
        have HR4 := Lib.hid (HR2.out.kept hB24)
        have HB4 := Lib.hid (HB2.out.trans (hB24.mono HB2.out.size))
        have hg3 : w.heap.size + 1 < w3.heap.size := Nat.lt_of_lt_of_le HR2.out.lt hb3.size
        clear hA4 hB24 hb3 k1
        go_upto_region 5 with fail
        rw [← hw4]
        clear hw4
        obtain ⟨⟨s0, s1, s2, s3, s4⟩, -⟩ := HS4.out.facts5
        go_wp2_with fail
        refine (HL.out w4 HB4.out).mono ?_
        rintro e w5 ⟨rfl, hb5⟩
        obtain ⟨w6, hw6⟩ : ∃ w6, w6 = w5.alloc (.cells #[.string X, .string Y] 23) := ⟨_, rfl⟩
        have hA6 : Below w5.heap.size w5 w6 := by rw [hw6]; exact (Below.refl _ _).alloc (Nat.le_refl _) _
        have hM := show Blk w6 w5.heap.size 23 [.string X, .string Y] by rw [hw6]; exact Blk.new _ _ _
        have hB46 := hb5.trans (hA6.mono hb5.size)
        have hG6 := HG4.out.kept hB46
        have HR6 := Lib.hid (HR4.out.kept hB46)
        have hS6 := HS4.out.kept hB46
        have HB6 := Lib.hid (HB4.out.trans (hB46.mono HB4.out.size))
        obtain ⟨⟨s0, s1, s2, s3, s4⟩, -⟩ := hS6.facts5
        have k0 := hG6.cell 0 rfl
        have k1 := hG6.cell 1 rfl
        have m0 := hM.cell 0 rfl
        have m1 := hM.cell 1 rfl
        clear hA6 hB46 hb5 hM hG6 hS6
        go_upto_region 6 with fail
        rw [← hw6]
        clear hw6
        go_wp2_with (refine wpL_storeBlk (o := ⟨none, _, _, _, _, _⟩) rfl 28 (.tmp 2) (.tmp 34) rfl (w.heap.size + 1) zeroC [.int .i64 0, .string ⟨#[]⟩, .int .i64 0, .int .u32 0, .int .i64 0] rfl rfl HR6.out size_set rfl rfl ?_)
        intro w9 hR9 hg9 hz9
        have hB9 := below_row HB6.out hg9 (by have := HB6.out.size; omega) (Nat.le_succ _)
        go_wp2
        exact bodyPost_ret (ret_cell (load_set hR9 rfl) Tryz.results6 rfl rfl) rfl ⟨rfl, hB9⟩
      · rw [if_neg (fun h => by have := h.2; injection this with e1 e2; subst e2; simp at z0)]
        rw [he] at HL
        clear he hLL
        obtain ⟨sk, st, sn, sa, sb⟩ := s
        unfold setV at HGu HL ⊢
        go_enter Tryz.func6, Tryz.ntmps6
        go_upto_region 1 with fail
        rw [← hw1']
        clear hw1'
        go_wp2_with fail
        refine HK.out.mono ?_
        rintro e w2 ⟨rfl, hb2⟩
        have hG2 := HG.out.kept hb2
        have HG2 := Lib.hid hG2
        have HR2 := Lib.hid (HR.out.kept hb2)
        have HB2 := Lib.hid (HA.out.trans (hb2.mono HA.out.size))
        have k1 := hG2.cell 1 rfl
        clear hb2 g0 g1 hG2
        go_wp2_with fail
        refine (HGu.out w2 HB2.out).mono ?_
        rintro e w3 ⟨rfl, hb3⟩
        obtain ⟨w4, hw4⟩ : ∃ w4, w4 = w3.alloc (.cells #[.int .i64 sk, .string st, .int .i64 sn, .int .u32 (sa : Int), .int .i64 sb] 28) := ⟨_, rfl⟩
        have hA4 : Below w3.heap.size w3 w4 := by rw [hw4]; exact (Below.refl _ _).alloc (Nat.le_refl _) _
        have HS4 := Lib.hid (show Blk w4 w3.heap.size 28 [.int .i64 sk, .string st, .int .i64 sn, .int .u32 (sa : Int), .int .i64 sb] by rw [hw4]; exact Blk.new _ _ _)
        have hB24 := hb3.trans (hA4.mono hb3.size)
        have HG4 := Lib.hid (HG2.out.kept hB24)
        have HR4 := Lib.hid (HR2.out.kept hB24)
        have HB4 := Lib.hid (HB2.out.trans (hB24.mono HB2.out.size))
        have hg3 : w.heap.size + 1 < w3.heap.size := Nat.lt_of_lt_of_le HR2.out.lt hb3.size
        clear hA4 hB24 hb3 k1
        go_upto_region 5 with fail
        rw [← hw4]
        clear hw4
        obtain ⟨⟨s0, s1, s2, s3, s4⟩, -⟩ := HS4.out.facts5
        go_wp2_with fail
        refine (HL.out w4 HB4.out).mono ?_
        rintro e w5 ⟨rfl, hb5⟩
        obtain ⟨w6, hw6⟩ : ∃ w6, w6 = w5.alloc (.cells #[.string X, .string Y] 23) := ⟨_, rfl⟩
        have hA6 : Below w5.heap.size w5 w6 := by rw [hw6]; exact (Below.refl _ _).alloc (Nat.le_refl _) _
        have hM := show Blk w6 w5.heap.size 23 [.string X, .string Y] by rw [hw6]; exact Blk.new _ _ _
        have hB46 := hb5.trans (hA6.mono hb5.size)
        have hG6 := HG4.out.kept hB46
        have HR6 := Lib.hid (HR4.out.kept hB46)
        have hS6 := HS4.out.kept hB46
        have HB6 := Lib.hid (HB4.out.trans (hB46.mono HB4.out.size))
        obtain ⟨⟨s0, s1, s2, s3, s4⟩, -⟩ := hS6.facts5
        have k0 := hG6.cell 0 rfl
        have k1 := hG6.cell 1 rfl
        have m0 := hM.cell 0 rfl
        have m1 := hM.cell 1 rfl
        clear hA6 hB46 hb5 hM hG6 hS6
        go_upto_region 6 with fail
        rw [← hw6]
        clear hw6
        go_wp2_with (refine wpL_storeBlk (o := ⟨none, _, _, _, _, _⟩) rfl 28 (.tmp 2) (.tmp 34) rfl (w.heap.size + 1) zeroC [.int .i64 0, .string ⟨#[]⟩, .int .i64 0, .int .u32 0, .int .i64 0] rfl rfl HR6.out size_set rfl rfl ?_)
        intro w9 hR9 hg9 hz9
        have hB9 := below_row HB6.out hg9 (by have := HB6.out.size; omega) (Nat.le_succ _)
        go_wp2
        exact bodyPost_ret (ret_cell (load_set hR9 rfl) Tryz.results6 rfl rfl) rfl ⟨rfl, hB9⟩
    · rw [if_neg (fun h => he h.1)]
      have hn : ((Bt.err s : Int) != 0) = true := by simpa using he
      clear he hLL
      generalize Bt.err s = r at *
      obtain ⟨sk, st, sn, sa, sb⟩ := s
      unfold setV at HGu HL ⊢
      go_enter Tryz.func6, Tryz.ntmps6
      go_upto_region 1 with fail
      rw [← hw1']
      clear hw1'
      go_wp2_with fail
      refine HK.out.mono ?_
      rintro e w2 ⟨rfl, hb2⟩
      have hG2 := HG.out.kept hb2
      have HG2 := Lib.hid hG2
      have HR2 := Lib.hid (HR.out.kept hb2)
      have HB2 := Lib.hid (HA.out.trans (hb2.mono HA.out.size))
      have k1 := hG2.cell 1 rfl
      clear hb2 g0 g1 hG2
      go_wp2_with fail
      refine (HGu.out w2 HB2.out).mono ?_
      rintro e w3 ⟨rfl, hb3⟩
      obtain ⟨w4, hw4⟩ : ∃ w4, w4 = w3.alloc (.cells #[.int .i64 sk, .string st, .int .i64 sn, .int .u32 (sa : Int), .int .i64 sb] 28) := ⟨_, rfl⟩
      have hA4 : Below w3.heap.size w3 w4 := by rw [hw4]; exact (Below.refl _ _).alloc (Nat.le_refl _) _
      have HS4 := Lib.hid (show Blk w4 w3.heap.size 28 [.int .i64 sk, .string st, .int .i64 sn, .int .u32 (sa : Int), .int .i64 sb] by rw [hw4]; exact Blk.new _ _ _)
      have hB24 := hb3.trans (hA4.mono hb3.size)
      have HG4 := Lib.hid (HG2.out.kept hB24)
      have HR4 := Lib.hid (HR2.out.kept hB24)
      have HB4 := Lib.hid (HB2.out.trans (hB24.mono HB2.out.size))
      have hg3 : w.heap.size + 1 < w3.heap.size := Nat.lt_of_lt_of_le HR2.out.lt hb3.size
      clear hA4 hB24 hb3 k1
      go_upto_region 5 with fail
      rw [← hw4]
      clear hw4
      obtain ⟨⟨s0, s1, s2, s3, s4⟩, -⟩ := HS4.out.facts5
      go_wp2_with fail
      refine (HL.out w4 HB4.out).mono ?_
      rintro e w5 ⟨rfl, hb5⟩
      obtain ⟨w6, hw6⟩ : ∃ w6, w6 = w5.alloc (.cells #[.string X, .string Y] 23) := ⟨_, rfl⟩
      have hA6 : Below w5.heap.size w5 w6 := by rw [hw6]; exact (Below.refl _ _).alloc (Nat.le_refl _) _
      have hM := show Blk w6 w5.heap.size 23 [.string X, .string Y] by rw [hw6]; exact Blk.new _ _ _
      have hB46 := hb5.trans (hA6.mono hb5.size)
      have hG6 := HG4.out.kept hB46
      have HR6 := Lib.hid (HR4.out.kept hB46)
      have hS6 := HS4.out.kept hB46
      have HB6 := Lib.hid (HB4.out.trans (hB46.mono HB4.out.size))
      obtain ⟨⟨s0, s1, s2, s3, s4⟩, -⟩ := hS6.facts5
      have k0 := hG6.cell 0 rfl
      have k1 := hG6.cell 1 rfl
      have m0 := hM.cell 0 rfl
      have m1 := hM.cell 1 rfl
      clear hA6 hB46 hb5 hM hG6 hS6
      go_upto_region 6 with fail
      rw [← hw6]
      clear hw6
      go_wp2_with (refine wpL_storeBlk (o := ⟨none, _, _, _, _, _⟩) rfl 28 (.tmp 2) (.tmp 34) rfl (w.heap.size + 1) zeroC [.int .i64 0, .string ⟨#[]⟩, .int .i64 0, .int .u32 0, .int .i64 0] rfl rfl HR6.out size_set rfl rfl ?_)
      intro w9 hR9 hg9 hz9
      have hB9 := below_row HB6.out hg9 (by have := HB6.out.size; omega) (Nat.le_succ _)
      go_wp2
      exact bodyPost_ret (ret_cell (load_set hR9 rfl) Tryz.results6 rfl rfl) rfl ⟨rfl, hB9⟩
end Go.Proofs.YthlagpmacnijfaaGreatDoor

namespace Go.Proofs.YthlagpmacnijfaaGreatDoor
open Go.RowKit

theorem run_storeVar_at (w : World) (g off : Nat) (t ty : TypeId) (cur ys : List Value) (hg : w.heap[g]? = some (.cells cur.toArray t (0, 0))) (hi : (Tryz.prog.info? ty).map (·.size) = some ys.length) (hl : off + ys.length ≤ cur.length) (h1 : ∀ v ∈ ys, v.oneCell' = true) :
    (storeVar ty ⟨g, off, none⟩ (.agg ys.toArray)).run Tryz.prog w = .ok () (w.setRow g (cur.take off ++ ys ++ cur.drop (off + ys.length)).toArray) := by
  have := run_storeCells_at Tryz.prog g off t ys 0 cur.toArray w hg (by simpa using hl) h1
  cases hq : Tryz.prog.info? ty with
  | none => simp [hq] at hi
  | some i =>
    have hs : ys.length = i.size := by simp [hq] at hi; omega
    simp [storeVar, sizeOf, typeInfo, hq, Value.cells, hs, this]
theorem Bt.setsC_set (L : List S) (k : Nat) (s : S) (h : k < L.length) : (setsC L).take (k * 5) ++ setC s ++ (setsC L).drop (k * 5 + (setC s).length) = setsC (L.set k s) := by
  have e : L = L.take k ++ (L[k] :: L.drop (k + 1)) := by simp
  have hk : (setsC (L.take k)).length = k * 5 := by rw [setsC_length, List.length_take, Nat.min_eq_left (by omega)]
  have h1 : setsC L = setsC (L.take k) ++ (setC L[k] ++ setsC (L.drop (k + 1))) := by
    conv => lhs; rw [e]
    rw [setsC_append]
    rfl
  have h2 : setsC (L.set k s) = setsC (L.take k) ++ (setC s ++ setsC (L.drop (k + 1))) := by
    rw [List.set_eq_take_append_cons_drop, if_pos h, setsC_append]
    rfl
  have h3 : k * 5 + (setC s).length = (setsC (L.take k) ++ setC L[k]).length := by rw [List.length_append, hk]; rfl
  rw [h2, h1, ← hk, List.take_left, List.append_assoc]
  congr 2
  rw [hk, h3, ← List.append_assoc, List.drop_left]
/-- One setting of a row written whole. -/
theorem wpL_store_elem {w : World} {ops : Array Oper} {rest : List Oper} {o : Oper} {a : Act} {Q : Exit → Act → World → Prop} (hgd : o.guard = none) (x y : Operand) (ho : o.op = .store 28 x y) (g k : Nat) (L : List Bt.S) (s : Bt.S)
    (hx : a.eval x = .pointer (some ⟨g, k * 5, none⟩)) (hy : a.eval y = .agg (Bt.setC s).toArray) (hg : Blk w g 28 (Bt.setsC L)) (hk : k < L.length)
    (h : ∀ w', Blk w' g 28 (Bt.setsC (L.set k s)) → w.grownBy w' (some g) → w'.heap.size = w.heap.size → wpList Tryz.prog ops Q rest (a.put o.dst undef) w') : wpList Tryz.prog ops Q (o :: rest) a w := by
  refine wpList_plain hgd fun K hK => ?_
  have hr := run_storeVar_at w g (k * 5) 28 28 (Bt.setsC L) (Bt.setC s) hg size_set (by rw [Bt.setsC_length]; show k * 5 + 5 ≤ _; omega) (fun v hv => Bt.setsC_one [s] v (by unfold Bt.setsC; simpa using hv))
  rw [Bt.setsC_set L k s hk] at hr
  unfold Oper.wp execOp
  simp only [ho, hx, hy, Instr.storeAt, Instr.sureAddr, Sem.run_bind, Sem.run_pure, Result.andThen_ok, hr]
  exact hK _ _ (h _ (setRow_heap w g _ _ _ _ hg) (grown_set_row w g _) (by simp))
theorem made_five (n : Nat) : madeCells #[.int .i64 0, .string ByteArray.empty, .int .i64 0, .int .u32 0, .int .i64 0] (n * 5) = (Bt.setsC (List.replicate n Bt.zeroS)).toArray := by
  apply Array.toList_inj.1
  apply List.ext_getElem?
  intro j
  unfold madeCells
  by_cases hj : j < n * 5
  · simp only [Array.toList_map, List.getElem?_map, Array.toList_range, List.getElem?_range hj, Option.map_some]
    have hq : j / 5 < (List.replicate n Bt.zeroS).length := by rw [List.length_replicate]; omega
    have e := Bt.setsC_get (List.replicate n Bt.zeroS) (j / 5) (j % 5) hq (by omega)
    rw [show j / 5 * 5 + j % 5 = j by omega, List.getElem_replicate] at e
    rw [e]
    have h5 : (#[.int .i64 0, .string ByteArray.empty, .int .i64 0, .int .u32 0, .int .i64 0] : Array Value).size = 5 := rfl
    rw [h5]
    have hm : j % 5 = 0 ∨ j % 5 = 1 ∨ j % 5 = 2 ∨ j % 5 = 3 ∨ j % 5 = 4 := by omega
    rcases hm with h | h | h | h | h <;> rw [h] <;> rfl
  · rw [List.getElem?_eq_none (by simp; omega), List.getElem?_eq_none (by show (Bt.setsC _).length ≤ j; rw [Bt.setsC_length, List.length_replicate]; omega)]
theorem make_sets (n : Nat) (hn : n ≤ 2000000) : ∀ W, (Instr.makeSlice 33 (.int .i64 (n : Int)) (.int .i64 (n : Int))).run Tryz.prog W = .ok (.slice (some ⟨W.heap.size, 0, none⟩) n n) (W.alloc (.cells (Bt.setsC (List.replicate n Bt.zeroS)).toArray 28)) := fun W => by
  obtain ⟨i, hi, hz0, hz1, hz2⟩ := info_set
  have hr := run_make (P := Tryz.prog) W 33 28 i _ Tryz.underlying33 hi hz0 .i64 .i64 n n (by omega) (by omega) (by rw [hz2]; omega) (by omega)
  simp only [Int.toNat_natCast, hz1] at hr
  rw [show madeCells (Value.agg #[.int .i64 0, .string ByteArray.empty, .int .i64 0, .int .u32 0, .int .i64 0]).cells (n * 5) = (Bt.setsC (List.replicate n Bt.zeroS)).toArray from made_five n] at hr
  exact hr
/-- The settings so far, zeros behind them. -/
def Bt.sofar (D : List S) (n : Nat) : List S := D ++ List.replicate (n - D.length) zeroS
theorem Bt.sofar_length (D : List S) (n : Nat) (h : D.length ≤ n) : (sofar D n).length = n := by unfold sofar; rw [List.length_append, List.length_replicate]; omega
theorem Bt.sofar_set (D : List S) (n k : Nat) (x : S) (hk : D.length = k) (h : k < n) : (sofar D n).set k x = sofar (D ++ [x]) n := by
  subst hk
  unfold sofar
  obtain ⟨m, hm⟩ : ∃ m, n - D.length = m + 1 := ⟨n - D.length - 1, by omega⟩
  rw [hm, List.set_append_right (h := Nat.le_refl _), Nat.sub_self, List.replicate_succ, List.set_cons_zero, List.length_append, List.length_singleton, show n - (D.length + 1) = m by omega, List.append_assoc]
  rfl
theorem Bt.sofar_full (D : List S) (n : Nat) (h : D.length = n) : sofar D n = D := by unfold sofar; rw [show n - D.length = 0 by omega]; simp
end Go.Proofs.YthlagpmacnijfaaGreatDoor

namespace Go.Proofs.YthlagpmacnijfaaGreatDoor
open Go.RowKit

theorem parsePost_ok {s : ByteArray} {w w' : World} {g : Nat} {O : List Ln.L} (hO : O = Ln.sOut s) (h0 : (Ln.sBad s).2 = 0) (hall : ∀ p ∈ O, (Bt.ofLine p).2 = 0) (hB : Blk w' g 28 (Bt.setsC (O.map fun p => (Bt.ofLine p).1))) (hb : Below w.heap.size w w') :
    ParsePost s w (.returned (.tuple #[.slice (some ⟨g, 0, none⟩) O.length O.length, .int .i64 0, .int .i64 0])) w' := by
  have hp : Bt.pBad s = (0, 0) := by rw [Bt.pBad_wrong h0, ← hO, Bt.wrong_good O 0 hall]
  have ho : Bt.pOut s = O.map fun p => (Bt.ofLine p).1 := by unfold Bt.pOut; rw [hp, if_pos rfl, ← hO]
  have hl : (Bt.pOut s).length = O.length := by rw [ho, List.length_map]
  refine ⟨⟨some ⟨g, 0, none⟩, O.length, ?_, ?_⟩, hb⟩
  · rw [hp, hl]; rfl
  · have := sets_of_row hB
    rw [← ho] at this
    exact this
set_option maxRecDepth 20000 in
set_option maxHeartbeats 8000000 in
theorem batch_Parse (s : ByteArray) (w : World) (hT : BTabs w) : Calls Tryz.prog 8 #[.string s] w (ParsePost s w) := by
  have HS := Lib.hid (line_Split s w hT.1.2)
  have HT := Lib.hid hT
  unfold SplitPost at HS
  by_cases h0 : (Ln.sBad s).2 = 0
  rotate_left
  · have hb := Bt.pBad_split h0
    have hn : (((Ln.sBad s).2 : Int) != 0) = true := by simpa using h0
    have Hr := Lib.hid (fun w' hB => parsePost_err (w := w) (w' := w') (i := (Ln.sBad s).1) (r := (Ln.sBad s).2) hb h0 hB)
    clear h0 hb hT
    generalize (Ln.sBad s).1 = bi at *
    generalize (Ln.sBad s).2 = br at *
    generalize Ln.sOut s = O at *
    go_enter Tryz.func8, Tryz.ntmps8
    go_wp2_with fail
    refine HS.out.mono ?_
    rintro e w1 ⟨⟨a, c, rfl, -⟩, hb1⟩
    have HR1 := Lib.hid (Hr.out w1 hb1)
    clear hb1 HS Hr
    go_wp2
    go_ret3
    exact HR1.out
  · obtain ⟨hl, h60⟩ := Bt.lines_ok h0
    have Hb := Lib.hid (Bt.pBad_wrong h0)
    obtain ⟨O, hO⟩ : ∃ O, O = Ln.sOut s := ⟨_, rfl⟩
    have HO := Lib.hid hO
    have H0 := Lib.hid h0
    have Hok := Lib.hid (fun w' g hall hB hb => parsePost_ok (w := w) (w' := w') (g := g) hO h0 hall hB hb)
    rw [h0] at HS
    rw [← hO] at hl h60 Hb HS
    have Hl := Lib.hid hl
    clear h0 hO hT hl
    generalize (Ln.sBad s).1 = bi at *
    obtain ⟨n, hn⟩ : ∃ n, n = O.length := ⟨_, rfl⟩
    rw [← hn] at HS h60 Hok
    have Hn := Lib.hid hn
    have hmk := make_sets n (by omega)
    clear hn
    go_enter Tryz.func8, Tryz.ntmps8
    go_wp2_with fail
    refine HS.out.mono ?_
    rintro e w1 ⟨⟨a, c, rfl, hat⟩, hb1⟩
    have HL1 := Lib.hid hat
    have HB1 := Lib.hid hb1
    clear hat hb1 HS
    obtain ⟨w2, hw2⟩ : ∃ w2, w2 = w1.alloc (.cells (Bt.setsC (List.replicate n Bt.zeroS)).toArray 28) := ⟨_, rfl⟩
    have HB2 := Lib.hid (show Below w1.heap.size w1 w2 by rw [hw2]; exact (Below.refl _ _).alloc (Nat.le_refl _) _)
    have HG2 := Lib.hid (show Blk w2 w1.heap.size 28 (Bt.setsC (Bt.sofar [] n)) by rw [hw2]; exact Blk.new _ _ _)
    go_wp2
    rw [← hw2]
    clear hmk hw2
    go_loopw [26] (fun i wr => ∃ k : Nat, k ≤ n ∧ i = .int .i64 (k : Int) ∧ Hid (∀ p ∈ O.take k, (Bt.ofLine p).2 = 0) ∧ Hid (Blk wr w1.heap.size 28 (Bt.setsC (Bt.sofar ((O.take k).map fun p => (Bt.ofLine p).1) n))) ∧ Hid (Below w1.heap.size w1 wr)) (fun i _ => n - (intOf i).toNat)
    case atStart => exact ⟨0, Nat.zero_le _, rfl, Lib.hid (fun x hx => by simp at hx), Lib.hid (by simpa using HG2.out), HB2⟩
    case round =>
      obtain ⟨k, hk, rfl, Ha, Hbk, HBr⟩ := hrel
      obtain ⟨wo, hwo⟩ : ∃ wo, wo = wr := ⟨_, rfl⟩
      subst hwo
      have hsz := HBr.out.size
      by_cases hlt : k < n
      · have hlO : k < O.length := by have := Hn.out; omega
        obtain ⟨b, off, rfl, hbl, hc⟩ := (HL1.out.below HBr.out).2 (by omega)
        obtain ⟨c0, c1⟩ := hc k hlO
        have hpz := (Ln.err_zero (Hl.out _ (List.getElem_mem hlO))).1
        have Ht : Hid (O.take (k + 1) = O.take k ++ [O[k]]) := Lib.hid (List.take_succ_eq_append_getElem hlO)
        have Htl : Hid (((O.take k).map fun p => (Bt.ofLine p).1).length = k) := Lib.hid (by rw [List.length_map, List.length_take]; omega)
        have Hf := Lib.hid (fun hn => Bt.wrong_at O 0 k hlO Ha.out hn)
        have HBo := Lib.hid (HB1.out.trans (HBr.out.mono HB1.out.size))
        clear hc
        generalize O[k] = p at *
        have HRd := Lib.hid (fun W hW => batch_Read p W (by omega) (HT.out.below hW))
        have Hm : Hid ((O.take (k + 1)).map (fun p => (Bt.ofLine p).1) = (O.take k).map (fun p => (Bt.ofLine p).1) ++ [(Bt.ofLine p).1]) := Lib.hid (by rw [Ht.out, List.map_append, List.map_singleton])
        have Hn1 := Lib.hid (fun (he : (Bt.ofLine p).2 = 0) => show ∀ y ∈ O.take (k + 1), (Bt.ofLine y).2 = 0 by
          intro y hy
          rw [Ht.out] at hy
          rcases List.mem_append.1 hy with hy | hy
          · exact Ha.out y hy
          · rw [List.mem_singleton.1 hy]; exact he)
        have Hst := Lib.hid (fun x => Bt.sofar_set ((O.take k).map fun p => (Bt.ofLine p).1) n k x Htl.out hlt)
        have Hsl := Lib.hid (Bt.sofar_length ((O.take k).map fun p => (Bt.ofLine p).1) n (by rw [Htl.out]; omega))
        generalize (O.take k).map (fun p => (Bt.ofLine p).1) = D at *
        generalize (Bt.ofLine p).1 = x at *
        by_cases he : (Bt.ofLine p).2 = 0
        · have Hall := Lib.hid (Hn1.out he)
          rw [he] at HRd
          clear he Hf Hn1 Ha
          obtain ⟨X, Y⟩ := p
          unfold lineV at HRd
          obtain ⟨w3, hw3⟩ : ∃ w3, w3 = wo.alloc (.cells #[.string X, .string Y] 23) := ⟨_, rfl⟩
          have hA3 : Below wo.heap.size wo w3 := by rw [hw3]; exact (Below.refl _ _).alloc (Nat.le_refl _) _
          have hM3 := show Blk w3 wo.heap.size 23 [.string X, .string Y] by rw [hw3]; exact Blk.new _ _ _
          have HB3 := Lib.hid (HBr.out.trans (hA3.mono hsz))
          have HG3 := Lib.hid (Hbk.out.kept hA3)
          have m0 := hM3.cell 0 rfl
          have m1 := hM3.cell 1 rfl
          simp only at c0 c1
          clear hA3 hM3
          go_upto_region 8 with fail
          rw [← hw3]
          clear hw3 c0 c1
          go_wp2_with fail
          refine (HRd.out w3 (HB1.out.trans (HB3.out.mono HB1.out.size))).mono ?_
          rintro e w4 ⟨rfl, hb4⟩
          have HG4 := Lib.hid (HG3.out.kept hb4)
          have HB4 := Lib.hid (HB3.out.trans (hb4.mono HB3.out.size))
          have hkn : k < (Bt.sofar D n).length := by rw [Hsl.out]; exact hlt
          clear hb4 m0 m1
          go_wp2_with (refine wpL_store_elem (o := ⟨none, _, _, _, _, _⟩) rfl (.tmp 38) (.tmp 36) rfl w1.heap.size k _ x rfl rfl HG4.out hkn ?_)
          intro w5 hG5 hg5 hz5
          rw [Hst.out x, ← Hm.out] at hG5
          have HG5 := Lib.hid hG5
          have HB5 := Lib.hid (below_row HB4.out hg5 HB4.out.size (Nat.le_refl _))
          clear hG5 hg5 hz5
          go_wp2
          go_roundw
          case rel => exact ⟨k + 1, by omega, by go_num, Hall, HG5, HB5⟩
          case measure => simp [intOf]; omega
        · have hb : Bt.pBad s = (k + 1, (Bt.ofLine p).2) := by rw [Hb.out, Hf.out he, Nat.zero_add]
          have hne : (((Bt.ofLine p).2 : Int) != 0) = true := by simpa using he
          have Hr := Lib.hid (fun w' hB => parsePost_err (w := w) (w' := w') hb he hB)
          clear he Hf Hn1 Ha hb
          generalize (Bt.ofLine p).2 = r at *
          obtain ⟨X, Y⟩ := p
          unfold lineV at HRd
          obtain ⟨w3, hw3⟩ : ∃ w3, w3 = wo.alloc (.cells #[.string X, .string Y] 23) := ⟨_, rfl⟩
          have hA3 : Below wo.heap.size wo w3 := by rw [hw3]; exact (Below.refl _ _).alloc (Nat.le_refl _) _
          have hM3 := show Blk w3 wo.heap.size 23 [.string X, .string Y] by rw [hw3]; exact Blk.new _ _ _
          have HB3 := Lib.hid (HBr.out.trans (hA3.mono hsz))
          have HG3 := Lib.hid (Hbk.out.kept hA3)
          have m0 := hM3.cell 0 rfl
          have m1 := hM3.cell 1 rfl
          simp only at c0 c1
          clear hA3 hM3
          go_upto_region 8 with fail
          rw [← hw3]
          clear hw3 c0 c1
          go_wp2_with fail
          refine (HRd.out w3 (HB1.out.trans (HB3.out.mono HB1.out.size))).mono ?_
          rintro e w4 ⟨rfl, hb4⟩
          have HG4 := Lib.hid (HG3.out.kept hb4)
          have HB4 := Lib.hid (HB3.out.trans (hb4.mono HB3.out.size))
          have hkn : k < (Bt.sofar D n).length := by rw [Hsl.out]; exact hlt
          clear hb4 m0 m1
          go_wp2_with (refine wpL_store_elem (o := ⟨none, _, _, _, _, _⟩) rfl (.tmp 38) (.tmp 36) rfl w1.heap.size k _ x rfl rfl HG4.out hkn ?_)
          intro w5 hG5 hg5 hz5
          have HB5 := Lib.hid (below_row HB4.out hg5 HB4.out.size (Nat.le_refl _))
          have HB6 := Lib.hid (HB1.out.trans (HB5.out.mono HB1.out.size))
          clear hG5 hg5 hz5
          go_wp2
          go_ret3
          have h := Hr.out _ HB6.out
          rwa [Int.natCast_add] at h
      · obtain rfl : k = n := by omega
        have htk : O.take k = O := List.take_of_length_le (by have := Hn.out; omega)
        rw [htk] at Ha Hbk
        have hG := Hbk.out
        rw [Bt.sofar_full _ _ (by rw [List.length_map]; exact Hn.out.symm)] at hG
        have HF := Lib.hid (Hok.out wo w1.heap.size Ha.out hG (HB1.out.trans (HBr.out.mono HB1.out.size)))
        clear htk hG
        go_wp2
        go_ret3
        exact HF.out
end Go.Proofs.YthlagpmacnijfaaGreatDoor

namespace Go.Proofs.YthlagpmacnijfaaGreatDoor
open Go.RowKit

theorem set_parts (xk yk : Int) (xt yt : ByteArray) (xn yn : Int) (xa ya : Nat) (xb yb : Int) : (xk = yk ∧ xt = yt ∧ xn = yn ∧ xa = ya ∧ xb = yb) ∨ (xk == yk) = false ∨ (xk = yk ∧ (xt.toList == yt.toList) = false) ∨ (xk = yk ∧ xt = yt ∧ (xn == yn) = false) ∨ (xk = yk ∧ xt = yt ∧ xn = yn ∧ ((xa : Int) == (ya : Int)) = false) ∨ (xk = yk ∧ xt = yt ∧ xn = yn ∧ xa = ya ∧ (xb == yb) = false) := by
  by_cases h1 : xk = yk
  · rcases text_eq xt yt with h2 | h2
    · by_cases h3 : xn = yn
      · by_cases h4 : xa = ya
        · by_cases h5 : xb = yb
          · exact .inl ⟨h1, h2, h3, h4, h5⟩
          · exact .inr (.inr (.inr (.inr (.inr ⟨h1, h2, h3, h4, beq_eq_false_iff_ne.2 h5⟩))))
        · exact .inr (.inr (.inr (.inr (.inl ⟨h1, h2, h3, beq_eq_false_iff_ne.2 (by omega)⟩))))
      · exact .inr (.inr (.inr (.inl ⟨h1, h2, beq_eq_false_iff_ne.2 h3⟩)))
    · exact .inr (.inr (.inl ⟨h1, h2⟩))
  · exact .inr (.inl (beq_eq_false_iff_ne.2 h1))
set_option maxRecDepth 20000 in
set_option maxHeartbeats 6400000 in
theorem sets_Equal (a b : Option Addr) (n m c d : Nat) (l k : List Bt.S) (w : World) (hl : SetsAt w w.heap.size a n l) (hk : SetsAt w w.heap.size b m k) (hn : n ≤ 2518437208883) :
    Calls Tryz.prog 22 #[.slice a n c, .slice b m d] w fun e w' => ∃ r : Bool, e = .returned (.bool r) ∧ (r = true ↔ l = k) ∧ Below w.heap.size w w' := by
  have Hl := Lib.hid hl
  have Hk := Lib.hid hk
  have hl1 := hl.1
  have hk1 := hk.1
  clear hl hk
  by_cases hnm : n = m
  · subst hnm
    go_enter Tryz.func22, Tryz.ntmps22
    go_wp2
    go_loopw [13] (fun i wr => ∃ j : Nat, j ≤ n ∧ i = .int .i64 j ∧ Hid (l.take j = k.take j) ∧ Below w.heap.size w wr) (fun i _ => n - (intOf i).toNat)
    case atStart => exact ⟨0, Nat.zero_le _, rfl, Lib.hid rfl, Below.refl _ _⟩
    case round =>
      obtain ⟨j, hj, rfl, Ht, hB⟩ := hrel
      by_cases hlt : j < n
      · obtain ⟨b1, o1, rfl, _, hc1⟩ := (Hl.out.below hB).2 (by omega)
        obtain ⟨b2, o2, rfl, _, hc2⟩ := (Hk.out.below hB).2 (by omega)
        obtain ⟨x0, x1, x2, x3, x4⟩ := hc1 j (by omega)
        obtain ⟨y0, y1, y2, y3, y4⟩ := hc2 j (by omega)
        clear hc1 hc2
        generalize hX : l[j] = X at *
        generalize hY : k[j] = Y at *
        have HX := Lib.hid hX
        have HY := Lib.hid hY
        clear hX hY
        obtain ⟨xk, xt, xn, xa, xb⟩ := X
        obtain ⟨yk, yt, yn, ya, yb⟩ := Y
        have i1 : (j : Int) < (n : Int) := by omega
        have hjl : j < l.length := by omega
        have hjk : j < k.length := by omega
        rcases set_parts xk yk xt yt xn yn xa ya xb yb with ⟨rfl, rfl, rfl, rfl, rfl⟩ | q0 | ⟨rfl, q0⟩ | ⟨rfl, rfl, q0⟩ | ⟨rfl, rfl, rfl, q0⟩ | ⟨rfl, rfl, rfl, rfl, q0⟩
        · go_wp2_with fail
          go_quiet (fail)
          go_wp2
          go_roundw
          case rel => exact ⟨j + 1, by omega, by go_num, Lib.hid (by rw [List.take_succ_eq_append_getElem hjl, List.take_succ_eq_append_getElem hjk, Ht.out, HX.out, HY.out]), below_drewN hB _⟩
          case measure => simp [intOf]; omega
        · have hne : l ≠ k := fun e => by subst e; have h := HX.out.symm.trans HY.out; injection h with h1 h2 h3 h4 h5; simp [h1] at q0
          clear HX HY Ht
          go_wp2_with fail
          go_quiet (fail)
          go_wp2
          go_ret
          exact ⟨_, rfl, ⟨fun h => (by cases h), fun h => absurd h hne⟩, below_drewN hB _⟩
        · have hne : l ≠ k := fun e => by subst e; have h := HX.out.symm.trans HY.out; injection h with h1 h2 h3 h4 h5; simp [h2] at q0
          clear HX HY Ht
          go_wp2_with fail
          go_quiet (fail)
          go_wp2
          go_ret
          exact ⟨_, rfl, ⟨fun h => (by cases h), fun h => absurd h hne⟩, below_drewN hB _⟩
        · have hne : l ≠ k := fun e => by subst e; have h := HX.out.symm.trans HY.out; injection h with h1 h2 h3 h4 h5; simp [h3] at q0
          clear HX HY Ht
          go_wp2_with fail
          go_quiet (fail)
          go_wp2
          go_ret
          exact ⟨_, rfl, ⟨fun h => (by cases h), fun h => absurd h hne⟩, below_drewN hB _⟩
        · have hne : l ≠ k := fun e => by subst e; have h := HX.out.symm.trans HY.out; injection h with h1 h2 h3 h4 h5; simp [h4] at q0
          clear HX HY Ht
          go_wp2_with fail
          go_quiet (fail)
          go_wp2
          go_ret
          exact ⟨_, rfl, ⟨fun h => (by cases h), fun h => absurd h hne⟩, below_drewN hB _⟩
        · have hne : l ≠ k := fun e => by subst e; have h := HX.out.symm.trans HY.out; injection h with h1 h2 h3 h4 h5; simp [h5] at q0
          clear HX HY Ht
          go_wp2_with fail
          go_quiet (fail)
          go_wp2
          go_ret
          exact ⟨_, rfl, ⟨fun h => (by cases h), fun h => absurd h hne⟩, below_drewN hB _⟩
      · obtain rfl : j = n := by omega
        have hlk : l = k := by have h := Ht.out; rwa [List.take_of_length_le (by omega), List.take_of_length_le (by omega)] at h
        clear Ht Hl Hk
        go_wp2
        go_ret
        exact ⟨_, rfl, ⟨fun _ => hlk, fun _ => rfl⟩, hB⟩
  · have hne : ((n : Int) != (m : Int)) = true := by simp; omega
    have hlk : l ≠ k := fun e => hnm (by rw [← hl1, ← hk1, e])
    clear Hl Hk
    go_enter Tryz.func22, Tryz.ntmps22
    go_wp2
    go_ret
    exact ⟨_, rfl, ⟨fun h => (by cases h), fun h => absurd h hlk⟩, Below.refl _ _⟩
end Go.Proofs.YthlagpmacnijfaaGreatDoor

namespace Go.Proofs.YthlagpmacnijfaaGreatDoor
open Go.RowKit

theorem parsed_small (s : ByteArray) : (Bt.pOut s).length ≤ 60 := by
  by_cases h : (Bt.pBad s).2 = 0
  · have h0 : (Ln.sBad s).2 = 0 := by
      by_cases h0 : (Ln.sBad s).2 = 0
      · exact h0
      · rw [Bt.pBad_split h0] at h; exact absurd h h0
    have := (Bt.lines_ok h0).2
    unfold Bt.pOut
    rw [if_pos h, List.length_map]
    exact this
  · rw [Bt.pOut_err h]
    exact Nat.zero_le _
set_option maxHeartbeats 800000 in
theorem law_sameSettings (a b : Option Addr) (n c d : Nat) (l : List Bt.S) (w : World) (hl : SetsAt w w.heap.size a n l) (hk : SetsAt w w.heap.size b n l) (hn : n ≤ 1000) :
    Calls Tryz.prog 10 #[.slice a n c, .slice b n d] w fun e w' => e = .returned (.bool true) ∧ Below w.heap.size w w' := by
  have HE := sets_Equal a b n n c d l l w hl hk (by omega)
  clear hl hk
  go_enter Tryz.func10, Tryz.ntmps10
  go_wp2_with fail
  refine HE.mono ?_
  rintro e w1 ⟨r, rfl, hr, hb⟩
  obtain rfl : r = true := hr.2 (by trivial)
  clear hr
  go_wp2
  go_ret
  exact ⟨rfl, hb⟩
set_option maxRecDepth 20000 in
set_option maxHeartbeats 1600000 in
theorem law_BatchParses (s : ByteArray) (w : World) (_ : s.size ≤ reachBytes) (hT : ATabs w) :
    Calls Tryz.prog 4 #[.string s] w fun e w' => e = .returned (.bool true) ∧ Below w.heap.size w w' := by
  have H1 := Lib.hid (batch_Parse s w hT.code)
  have H2 := Lib.hid (fun W (hW : Below w.heap.size w W) => ref_BatchOf s W (hT.1.below hW))
  have hsm := parsed_small s
  unfold ParsePost at H1 H2
  clear hT
  generalize Bt.pOut s = L at *
  generalize (Bt.pBad s).1 = bi at *
  generalize (Bt.pBad s).2 = br at *
  go_enter Tryz.func4, Tryz.ntmps4
  go_wp2_with fail
  refine H1.out.mono ?_
  rintro e w1 ⟨⟨a1, c1, rfl, hat⟩, hb1⟩
  have HL := Lib.hid hat
  have HB1 := Lib.hid hb1
  clear hat hb1 H1
  go_wp2_with fail
  refine (H2.out w1 HB1.out).mono ?_
  rintro e w2 ⟨⟨a2, c2, rfl, hat2⟩, hb2⟩
  have HE := Lib.hid (law_sameSettings a1 a2 _ c1 c2 L w2 (HL.out.kept hb2) hat2 (by omega))
  have HB2 := Lib.hid (HB1.out.trans (hb2.mono HB1.out.size))
  clear hat2 hb2 H2 HL
  generalize L.length = n at *
  go_wp2_with fail
  refine HE.out.mono ?_
  rintro e w3 ⟨rfl, hb3⟩
  have HB3 := Lib.hid (HB2.out.trans (hb3.mono HB2.out.size))
  clear hb3 HE
  go_wp2
  go_ret
  exact ⟨rfl, HB3.out⟩
end Go.Proofs.YthlagpmacnijfaaGreatDoor

namespace Go.Proofs.YthlagpmacnijfaaGreatDoor
open Go.ChangeShapes Go.WideShapes Go.ChangeAt Go.RowKit

theorem own_knob : ownKnob Tryz.prog.godebug = none := by kernel_rfl
theorem laid_out : laidOutB Tryz.prog = true := by kernel_rfl

theorem lt_of_cell {w : World} {a : Addr} {v : Value} (h : w.cell? a = some v) : a.block < w.heap.size := by
  rcases Nat.lt_or_ge a.block w.heap.size with hlt | hge
  · exact hlt
  · simp [World.cell?, Array.getElem?_eq_none hge] at h

theorem byte_wf {n : Int} (h : (Lit.int .u8 n).wf = true) : ((UInt8.ofNat n.toNat).toNat : Int) = n := by
  have hb := bounds_u8 h
  rw [UInt8.toNat_ofNat', Nat.mod_eq_of_lt (by omega)]
  omega
end Go.Proofs.YthlagpmacnijfaaGreatDoor

namespace Go.Proofs.YthlagpmacnijfaaGreatDoor
open Go.ChangeShapes Go.WideShapes Go.ChangeAt Go.RowKit

theorem gPow : Tryz.prog.globalNamed "internal/strconv.uint64pow10" = some 4 := by kernel_rfl
theorem gPowType : (Tryz.prog.globals[4]?).map (·.type) = some 147 := by kernel_rfl
theorem cellsPow : Tryz.prog.cellsOf 147 = 20 := by kernel_rfl
theorem cellsU64 : Tryz.prog.cellsOf 120 = 1 := by kernel_rfl
theorem gRange : Tryz.prog.globalNamed "strconv.ErrRange" = some 3 := by kernel_rfl
theorem gRangeType : (Tryz.prog.globals[3]?).map (·.type) = some 62 := by kernel_rfl
theorem gSyntax : Tryz.prog.globalNamed "strconv.ErrSyntax" = some 2 := by kernel_rfl
theorem gSyntaxType : (Tryz.prog.globals[2]?).map (·.type) = some 62 := by kernel_rfl
theorem cellsErr : Tryz.prog.cellsOf 145 = 1 := by kernel_rfl
theorem cellsStr : Tryz.prog.cellsOf 9 = 1 := by kernel_rfl
theorem star_err : "*" ++ "errors.errorString" = "*errors.errorString" := by decide
theorem row_err (u : TypeId) (h : Tryz.prog.typeName? 3 u = some "*errors.errorString") : u = 143 :=
  typeName_ptr_named (nm := "errors.errorString") (by rw [star_err]; kernel_rfl) (by kernel_rfl) (by decide) u (by rw [star_err]; exact h)
theorem pow_of_head {W : World} {r : List (String × DataW Unit)} (h : laidMet Tryz.prog (("internal/strconv.uint64pow10", Rows.laid_internal_strconv_uint64pow10) :: r) W) : PowTab W :=
  Lib.tabIs_of_head (k := .u64) (zs := Lib.pow10Tab) gPow gPowType Tryz.underlying147 Tryz.underlying120 cellsU64 cellsPow h
theorem err_of_head {W : World} {n : String} {g : Nat} {text : List UInt8} {r : List (String × DataW Unit)} (hg : Tryz.prog.globalNamed n = some g) (ht : (Tryz.prog.globals[g]?).map (·.type) = some 62)
    (h : laidMet Tryz.prog ((n, .iface "*errors.errorString" (.ptr (.agg [.lit (.string text)]))) :: r) W) : ∃ t p, W.cell? ⟨g, 0, none⟩ = some (.iface t p) := by
  obtain ⟨a, s, hv, _⟩ := laid_sentinel h hg ht Tryz.underlying62 row_err Tryz.underlying143 Tryz.underlying145 rfl rfl Tryz.underlying9 cellsErr cellsStr
  exact ⟨_, _, World.var?_cell hg hv 0⟩
theorem max_of_shaped {W : World} (h : W.ShapedOpen Tryz.prog) : MaxTab W := Tryz.laysM145.s1_3 W h

/-- The cells of a datum. -/
def flat : Nat → DataW Unit → List Value
  | n + 1, .agg ps => ps.flatMap (flat n)
  | _, .lit (.int k z) => [.int k z]
  | _, .lit (.string s) => [.string ⟨s.toArray⟩]
  | _, _ => []
/-- A block's cells anew. -/
def put (vs : List Value) : Obj → Obj
  | .cells _ t frozen => .cells vs.toArray t frozen
  | o => o
noncomputable def low : Nat := (World.holding Tryz.prog default ⟨#[], #[], []⟩).heap.size
abbrev rangeS : ByteArray := ⟨#[118, 97, 108, 117, 101, 32, 111, 117, 116, 32, 111, 102, 32, 114, 97, 110, 103, 101]⟩
abbrev syntaxS : ByteArray := ⟨#[105, 110, 118, 97, 108, 105, 100, 32, 115, 121, 110, 116, 97, 120]⟩
end Go.Proofs.YthlagpmacnijfaaGreatDoor

namespace Go.Proofs.YthlagpmacnijfaaGreatDoor
open Go.ChangeShapes Go.WideShapes Go.ChangeAt Go.RowKit

theorem gShapes : Tryz.prog.globalNamed "cattlecreep/batch.shapes" = some 0 := by kernel_rfl
theorem gShapesType : (Tryz.prog.globals[0]?).map (·.type) = some 58 := by kernel_rfl
theorem cellsShapes : Tryz.prog.cellsOf 58 = 22 := by kernel_rfl
theorem cellsShape : Tryz.prog.cellsOf 57 = 2 := by kernel_rfl
/-- The table as the row lists it. -/
theorem shapes_list : (Rows.laid_cattlecreep_batch_shapes : DataW Unit) = .agg ((List.range 11).map fun k => .agg [.lit (.string (Bt.nameOf k).data.toList), .lit (.int .i64 (Bt.fld (k : Int) : Int))]) := by kernel_rfl
set_option maxRecDepth 100000 in
theorem shape_cells {W : World} {base : Nat} {sp : Nat → Bool} {held : Bool} {n : Nat} {cs : List Value} {x : DataW Unit × List MemPlace} {s : ByteArray} {z : Int} {enc : TypeId × Value → Unit} (hl : cs.length = 2)
    (h : DataW.trod enc Tryz.prog W base sp held n 57 cs = some x) (hx : x.1 = .agg [.lit (.string s.data.toList), .lit (.int .i64 z)]) : cs = [.string s, .int .i64 z] := by
  obtain ⟨xs, m, _, ex, _, hxl, hf⟩ := DataW.trod_struct Tryz.underlying57 h
  match xs, hxl, cs, hl with
  | [y0, y1], _, [v0, v1], _ =>
    have g0 := hf 0 _ rfl
    have g1 := hf 1 _ rfl
    change DataW.trod enc Tryz.prog W base sp held m 9 [v0] = some y0 at g0
    change DataW.trod enc Tryz.prog W base sp held m 3 [v1] = some y1 at g1
    obtain ⟨k, e0, d0, _⟩ := DataW.trod_string Tryz.underlying9 g0
    obtain ⟨a, e1, d1, _⟩ := DataW.trod_int Tryz.underlying3 g1
    injection e0 with e0
    injection e1 with e1
    subst e0 e1
    rw [ex] at hx
    simp only [List.map_cons, List.map_nil, DataW.agg.injEq, List.cons.injEq, and_true] at hx
    obtain ⟨h0, h1⟩ := hx
    rw [d0] at h0
    rw [d1] at h1
    injection h0 with h0
    injection h0 with h0
    injection h1 with h1
    injection h1 with _ h1
    rw [h1, show k = s from WideShapes.bytes_inj (by exact h0)]
set_option maxRecDepth 100000 in
theorem shapes_of_head {W : World} {r : List (String × DataW Unit)} (h : laidMet Tryz.prog (("cattlecreep/batch.shapes", Rows.laid_cattlecreep_batch_shapes) :: r) W) : ShapeTab W := by
  obtain ⟨ps, ⟨g', t', csa, fuel, p, q, hg', ht', hvar, hd, _, _⟩, _⟩ := h
  obtain rfl := Option.some.inj (gShapes.symm.trans hg')
  obtain rfl := Option.some.inj (gShapesType.symm.trans ht')
  rw [shapes_list] at hd
  obtain ⟨cs, hcs⟩ : ∃ cs, cs = csa.toList := ⟨_, rfl⟩
  rw [← hcs] at hd
  obtain ⟨xs, m, _, ex, hcl, hxl, hf⟩ := DataW.trod_array Tryz.underlying58 hd
  rw [cellsShapes] at hcl
  rw [cellsShape] at hf
  have e3 := (DataW.agg.inj (Prod.mk.inj ex).1).symm
  have key : ∀ k, k < 11 → (cs.drop (k * 2)).take 2 = [.string (Bt.nameOf k), .int .i64 (Bt.fld (k : Int) : Int)] := by
    intro k hk
    have hE := hf k hk
    rw [List.getElem?_eq_getElem (by omega)] at hE
    refine shape_cells (by rw [List.length_take, List.length_drop]; omega) hE ?_
    have e4 := congrArg (·[k]?) e3
    simp only [List.getElem?_map] at e4
    rw [List.getElem?_eq_getElem (by omega), List.getElem?_eq_getElem (by rw [List.length_range]; omega)] at e4
    simpa using e4
  have hc : ∀ i, i < 22 → W.cell? ⟨0, i, none⟩ = cs[i]? := by
    intro i hi
    have := World.var?_cell gShapes hvar i
    rw [hcs]
    simpa using this
  have hat : ∀ k, k < 11 → W.cell? ⟨0, k * 2, none⟩ = some (.string (Bt.nameOf k)) ∧ W.cell? ⟨0, k * 2 + 1, none⟩ = some (.int .i64 (Bt.fld (k : Int) : Int)) := by
    intro k hk
    have hk2 := key k hk
    have a0 := congrArg (·[0]?) hk2
    have a1 := congrArg (·[1]?) hk2
    simp only [List.getElem?_take, List.getElem?_drop] at a0 a1
    rw [hc _ (by omega), hc _ (by omega)]
    exact ⟨by simpa using a0, by simpa using a1⟩
  exact ⟨lt_of_cell (hat 0 (by decide)).1, hat⟩

/-- A WORLD FOR THE WITNESS: the settled one, the listed variables holding what their initialisers lay. -/
noncomputable def laidWorld (os : Os) : World :=
  let w0 := World.holding Tryz.prog os ⟨#[.cells #[.string rangeS] 145, .cells #[.string syntaxS] 145], #[], []⟩
  let h1 := w0.heap.modify 7 (put (flat 4 Rows.laid_math_bits_deBruijn32tab))
  let h2 := h1.modify 8 (put (flat 4 Rows.laid_math_bits_deBruijn64tab))
  let h3 := h2.modify 4 (put (flat 4 Rows.laid_internal_strconv_uint64pow10))
  let h4 := h3.modify 6 (put (flat 4 Rows.laid_unicode_utf8_acceptRanges))
  let h5 := h4.modify 3 (put [.iface 143 (.pointer (some ⟨low, 0, none⟩))])
  let h6 := h5.modify 2 (put [.iface 143 (.pointer (some ⟨low + 1, 0, none⟩))])
  let h7 := h6.modify 5 (put (flat 4 Rows.laid_unicode_utf8_first))
  let h8 := h7.modify 0 (put (flat 4 Rows.laid_cattlecreep_batch_shapes))
  { w0 with heap := h8 }
abbrev laid8 : List (String × DataW Unit) := [("math/bits.deBruijn32tab", Rows.laid_math_bits_deBruijn32tab), ("math/bits.deBruijn64tab", Rows.laid_math_bits_deBruijn64tab), ("internal/strconv.uint64pow10", Rows.laid_internal_strconv_uint64pow10), ("unicode/utf8.acceptRanges", Rows.laid_unicode_utf8_acceptRanges), ("strconv.ErrRange", Rows.laid_strconv_ErrRange), ("strconv.ErrSyntax", Rows.laid_strconv_ErrSyntax), ("cattlecreep/batch.shapes", Rows.laid_cattlecreep_batch_shapes), ("unicode/utf8.first", Rows.laid_unicode_utf8_first)]
/-- WHAT THE ROWS' LISTS GIVE. -/
theorem tabs8 {W : World} (h : laidMetH Tryz.prog laid8 W) (hs : W.ShapedOpen Tryz.prog) : ATabs W := by
  rw [MakeChecks.laidMetH_plain _ _ _ (by kernel_rfl)] at h
  exact ⟨⟨pow_of_head h.tail.tail, ⟨err_of_head gSyntax gSyntaxType h.tail.tail.tail.tail.tail, err_of_head gRange gRangeType h.tail.tail.tail.tail⟩, max_of_shaped hs⟩, shapes_of_head h.tail.tail.tail.tail.tail.tail⟩
theorem laid8_met (os : Os) (args : Array Value) : laidMet Tryz.prog laid8 ((laidWorld os).forCall (fun _ _ => 0) ⟨#[], args, []⟩).memory :=
  laidMet_of_run3 300 (by kernel_rfl) (by kernel_rfl) (by kernel_rfl)
end Go.Proofs.YthlagpmacnijfaaGreatDoor
