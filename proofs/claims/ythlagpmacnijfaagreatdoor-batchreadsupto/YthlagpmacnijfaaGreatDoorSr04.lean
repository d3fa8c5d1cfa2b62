/- What the listed variables give: Go's library's, and the landed code's table of kinds; a world for the witness. -/
import Derived.Test.YthlagpmacnijfaaGreatDoorSr03
import Derived.Laws.StructEq
import Derived.Deep.DeepCutAuto
import Derived.Test.YthlagpmacnijfaaGreatDoorBatchBits
import Derived.Test.YthlagpmacnijfaaGreatDoorSr01
import Derived.Test.YthlagpmacnijfaaGreatDoorRows
import Derived.Test.YthlagpmacnijfaaGreatDoorMem
import Derived.ProofKit
import Derived.OpenShut
import Derived.ShutString
import Derived.ChangeOld
import Derived.Below
import Derived.SizedLaws
import Derived.Test.YthlagpmacnijfaaGreatDoorLineMem
import Derived.Deep.SlicePairs
import Derived.Lib.SmallJoins
import Derived.Test.YthlagpmacnijfaaGreatDoorCards
import Derived.Test.YthlagpmacnijfaaGreatDoorTie
import Derived.Test.YthlagpmacnijfaaGreatDoorSr02
import Derived.Deep.DeepHandedRow
import Derived.Deep.DeepLaidRun
import Derived.Lib.LaidTab
import Derived.MakeChecks
import Derived.Stop.LaidErr
namespace Go.Proofs.YthlagpmacnijfaaGreatDoor
open Go.RowKit

theorem two_sets (w : World) (xs ys : List Value) (t : TypeId) : Below w.heap.size w ((w.alloc (.cells xs.toArray t)).alloc (.cells ys.toArray t)) ∧ Blk ((w.alloc (.cells xs.toArray t)).alloc (.cells ys.toArray t)) w.heap.size t xs ∧ Blk ((w.alloc (.cells xs.toArray t)).alloc (.cells ys.toArray t)) (w.heap.size + 1) t ys := by
  refine ⟨((Below.refl _ _).alloc (Nat.le_refl _) _).alloc (by simp) _, (Blk.new w t xs).kept ((Below.refl _ _).alloc (Nat.le_refl _) _), ?_⟩
  have := Blk.new (w.alloc (.cells xs.toArray t)) t ys
  rwa [show (w.alloc (.cells xs.toArray t)).heap.size = w.heap.size + 1 by simp] at this

set_option maxRecDepth 20000 in
set_option maxHeartbeats 8000000 in
theorem guess_none (k : Int) (hk : k = 3 ∨ k = 5 ∨ k = 9) (v : ByteArray) (w : World) (hT : BTabs w) :
    Calls Tryz.prog 14 #[.int .i64 k, .string v] w fun e w' => e = .returned (setV ⟨k, ⟨#[]⟩, 0, 0, 0⟩) ∧ Below w.heap.size w w' := by
  unfold setV
  rcases hk with rfl | rfl | rfl
  · have hS := two_sets w zeroC [.int .i64 3, .string ⟨#[]⟩, .int .i64 0, .int .u32 0, .int .i64 0] 28
    obtain ⟨w1, hw1⟩ : ∃ w1, w1 = (w.alloc (.cells zeroC.toArray 28)).alloc (.cells [.int .i64 3, .string ⟨#[]⟩, .int .i64 0, .int .u32 0, .int .i64 0].toArray 28) := ⟨_, rfl⟩
    rw [← hw1] at hS
    obtain ⟨hA, hR, hG⟩ := hS
    have HA := Lib.hid hA
    have HR := Lib.hid hR
    have HG := Lib.hid hG
    have c := (hT.2.below hA).at 3 (by decide) 7 0 rfl rfl
    have hlt := (hT.2.below hA).1
    have hgl := hG.lt
    have hrl := hR.lt
    have hw1' : w1 = (w.alloc (.cells #[.int .i64 0, .string ⟨#[]⟩, .int .i64 0, .int .u32 0, .int .i64 0] 28)).alloc (.cells #[.int .i64 3, .string ⟨#[]⟩, .int .i64 0, .int .u32 0, .int .i64 0] 28) := hw1
    obtain ⟨⟨g0, g1, g2, g3, g4⟩, ⟨z0, z1, z2, z3, z4⟩⟩ := hG.facts5
    clear hA hR hG hw1
    clear hT
    go_enter Tryz.func14, Tryz.ntmps14
    go_upto_region 2 with fail
    rw [← hw1']
    clear hw1'
    go_wp2_with (refine wpL_storeBlk (o := ⟨none, _, _, _, _, _⟩) rfl 28 (.tmp 4) (.tmp 38) rfl w.heap.size zeroC [.int .i64 3, .string ⟨#[]⟩, .int .i64 0, .int .u32 0, .int .i64 0] rfl rfl HR.out size_set rfl rfl ?_)
    intro w9 hR9 hg9 hz9
    have hB9 := below_row HA.out hg9 (by have := HA.out.size; omega) (Nat.le_refl _)
    go_wp2
    exact bodyPost_ret (ret_cell1 (load_set hR9 rfl) Tryz.results14 rfl) rfl ⟨rfl, hB9⟩
  · have hS := two_sets w zeroC [.int .i64 5, .string ⟨#[]⟩, .int .i64 0, .int .u32 0, .int .i64 0] 28
    obtain ⟨w1, hw1⟩ : ∃ w1, w1 = (w.alloc (.cells zeroC.toArray 28)).alloc (.cells [.int .i64 5, .string ⟨#[]⟩, .int .i64 0, .int .u32 0, .int .i64 0].toArray 28) := ⟨_, rfl⟩
    rw [← hw1] at hS
    obtain ⟨hA, hR, hG⟩ := hS
    have HA := Lib.hid hA
    have HR := Lib.hid hR
    have HG := Lib.hid hG
    have c := (hT.2.below hA).at 5 (by decide) 11 0 rfl rfl
    have hlt := (hT.2.below hA).1
    have hgl := hG.lt
    have hrl := hR.lt
    have hw1' : w1 = (w.alloc (.cells #[.int .i64 0, .string ⟨#[]⟩, .int .i64 0, .int .u32 0, .int .i64 0] 28)).alloc (.cells #[.int .i64 5, .string ⟨#[]⟩, .int .i64 0, .int .u32 0, .int .i64 0] 28) := hw1
    obtain ⟨⟨g0, g1, g2, g3, g4⟩, ⟨z0, z1, z2, z3, z4⟩⟩ := hG.facts5
    clear hA hR hG hw1
    clear hT
    go_enter Tryz.func14, Tryz.ntmps14
    go_upto_region 2 with fail
    rw [← hw1']
    clear hw1'
    go_wp2_with (refine wpL_storeBlk (o := ⟨none, _, _, _, _, _⟩) rfl 28 (.tmp 4) (.tmp 38) rfl w.heap.size zeroC [.int .i64 5, .string ⟨#[]⟩, .int .i64 0, .int .u32 0, .int .i64 0] rfl rfl HR.out size_set rfl rfl ?_)
    intro w9 hR9 hg9 hz9
    have hB9 := below_row HA.out hg9 (by have := HA.out.size; omega) (Nat.le_refl _)
    go_wp2
    exact bodyPost_ret (ret_cell1 (load_set hR9 rfl) Tryz.results14 rfl) rfl ⟨rfl, hB9⟩
  · have hS := two_sets w zeroC [.int .i64 9, .string ⟨#[]⟩, .int .i64 0, .int .u32 0, .int .i64 0] 28
    obtain ⟨w1, hw1⟩ : ∃ w1, w1 = (w.alloc (.cells zeroC.toArray 28)).alloc (.cells [.int .i64 9, .string ⟨#[]⟩, .int .i64 0, .int .u32 0, .int .i64 0].toArray 28) := ⟨_, rfl⟩
    rw [← hw1] at hS
    obtain ⟨hA, hR, hG⟩ := hS
    have HA := Lib.hid hA
    have HR := Lib.hid hR
    have HG := Lib.hid hG
    have c := (hT.2.below hA).at 9 (by decide) 19 0 rfl rfl
    have hlt := (hT.2.below hA).1
    have hgl := hG.lt
    have hrl := hR.lt
    have hw1' : w1 = (w.alloc (.cells #[.int .i64 0, .string ⟨#[]⟩, .int .i64 0, .int .u32 0, .int .i64 0] 28)).alloc (.cells #[.int .i64 9, .string ⟨#[]⟩, .int .i64 0, .int .u32 0, .int .i64 0] 28) := hw1
    obtain ⟨⟨g0, g1, g2, g3, g4⟩, ⟨z0, z1, z2, z3, z4⟩⟩ := hG.facts5
    clear hA hR hG hw1
    clear hT
    go_enter Tryz.func14, Tryz.ntmps14
    go_upto_region 2 with fail
    rw [← hw1']
    clear hw1'
    go_wp2_with (refine wpL_storeBlk (o := ⟨none, _, _, _, _, _⟩) rfl 28 (.tmp 4) (.tmp 38) rfl w.heap.size zeroC [.int .i64 9, .string ⟨#[]⟩, .int .i64 0, .int .u32 0, .int .i64 0] rfl rfl HR.out size_set rfl rfl ?_)
    intro w9 hR9 hg9 hz9
    have hB9 := below_row HA.out hg9 (by have := HA.out.size; omega) (Nat.le_refl _)
    go_wp2
    exact bodyPost_ret (ret_cell1 (load_set hR9 rfl) Tryz.results14 rfl) rfl ⟨rfl, hB9⟩
set_option maxRecDepth 20000 in
set_option maxHeartbeats 8000000 in
theorem guess_text (k : Int) (hk : k = 1 ∨ k = 4 ∨ k = 7) (v : ByteArray) (w : World) (hT : BTabs w) :
    Calls Tryz.prog 14 #[.int .i64 k, .string v] w fun e w' => e = .returned (setV ⟨k, v, 0, 0, 0⟩) ∧ Below w.heap.size w w' := by
  unfold setV
  rcases hk with rfl | rfl | rfl
  · have hS := two_sets w zeroC [.int .i64 1, .string ⟨#[]⟩, .int .i64 0, .int .u32 0, .int .i64 0] 28
    obtain ⟨w1, hw1⟩ : ∃ w1, w1 = (w.alloc (.cells zeroC.toArray 28)).alloc (.cells [.int .i64 1, .string ⟨#[]⟩, .int .i64 0, .int .u32 0, .int .i64 0].toArray 28) := ⟨_, rfl⟩
    rw [← hw1] at hS
    obtain ⟨hA, hR, hG⟩ := hS
    have HA := Lib.hid hA
    have HR := Lib.hid hR
    have HG := Lib.hid hG
    have c := (hT.2.below hA).at 1 (by decide) 3 1 rfl rfl
    have hlt := (hT.2.below hA).1
    have hgl := hG.lt
    have hrl := hR.lt
    have hw1' : w1 = (w.alloc (.cells #[.int .i64 0, .string ⟨#[]⟩, .int .i64 0, .int .u32 0, .int .i64 0] 28)).alloc (.cells #[.int .i64 1, .string ⟨#[]⟩, .int .i64 0, .int .u32 0, .int .i64 0] 28) := hw1
    obtain ⟨⟨g0, g1, g2, g3, g4⟩, ⟨z0, z1, z2, z3, z4⟩⟩ := hG.facts5
    clear hA hR hG hw1
    clear hT
    have HG2 := Lib.hid (HG.out.set (by decide) 1 (.string v))
    have HR2 := Lib.hid (HR.out.other (k := w.heap.size + 1) (i := 1) (by omega) (.string v))
    have HA2 := Lib.hid (HA.out.setCell (p := ⟨w.heap.size + 1, 1, none⟩) (Nat.le_succ _) (.string v))
    go_enter Tryz.func14, Tryz.ntmps14
    go_upto_region 2 with fail
    rw [← hw1']
    clear hw1'
    go_wp2_with (refine wpL_storeBlk (o := ⟨none, _, _, _, _, _⟩) rfl 28 (.tmp 4) (.tmp 38) rfl w.heap.size zeroC [.int .i64 1, .string v, .int .i64 0, .int .u32 0, .int .i64 0] rfl rfl HR2.out size_set rfl rfl ?_)
    intro w9 hR9 hg9 hz9
    have hB9 := below_row HA2.out hg9 (by have := HA2.out.size; omega) (Nat.le_refl _)
    go_wp2
    exact bodyPost_ret (ret_cell1 (load_set hR9 rfl) Tryz.results14 rfl) rfl ⟨rfl, hB9⟩
  · have hS := two_sets w zeroC [.int .i64 4, .string ⟨#[]⟩, .int .i64 0, .int .u32 0, .int .i64 0] 28
    obtain ⟨w1, hw1⟩ : ∃ w1, w1 = (w.alloc (.cells zeroC.toArray 28)).alloc (.cells [.int .i64 4, .string ⟨#[]⟩, .int .i64 0, .int .u32 0, .int .i64 0].toArray 28) := ⟨_, rfl⟩
    rw [← hw1] at hS
    obtain ⟨hA, hR, hG⟩ := hS
    have HA := Lib.hid hA
    have HR := Lib.hid hR
    have HG := Lib.hid hG
    have c := (hT.2.below hA).at 4 (by decide) 9 1 rfl rfl
    have hlt := (hT.2.below hA).1
    have hgl := hG.lt
    have hrl := hR.lt
    have hw1' : w1 = (w.alloc (.cells #[.int .i64 0, .string ⟨#[]⟩, .int .i64 0, .int .u32 0, .int .i64 0] 28)).alloc (.cells #[.int .i64 4, .string ⟨#[]⟩, .int .i64 0, .int .u32 0, .int .i64 0] 28) := hw1
    obtain ⟨⟨g0, g1, g2, g3, g4⟩, ⟨z0, z1, z2, z3, z4⟩⟩ := hG.facts5
    clear hA hR hG hw1
    clear hT
    have HG2 := Lib.hid (HG.out.set (by decide) 1 (.string v))
    have HR2 := Lib.hid (HR.out.other (k := w.heap.size + 1) (i := 1) (by omega) (.string v))
    have HA2 := Lib.hid (HA.out.setCell (p := ⟨w.heap.size + 1, 1, none⟩) (Nat.le_succ _) (.string v))
    go_enter Tryz.func14, Tryz.ntmps14
    go_upto_region 2 with fail
    rw [← hw1']
    clear hw1'
    go_wp2_with (refine wpL_storeBlk (o := ⟨none, _, _, _, _, _⟩) rfl 28 (.tmp 4) (.tmp 38) rfl w.heap.size zeroC [.int .i64 4, .string v, .int .i64 0, .int .u32 0, .int .i64 0] rfl rfl HR2.out size_set rfl rfl ?_)
    intro w9 hR9 hg9 hz9
    have hB9 := below_row HA2.out hg9 (by have := HA2.out.size; omega) (Nat.le_refl _)
    go_wp2
    exact bodyPost_ret (ret_cell1 (load_set hR9 rfl) Tryz.results14 rfl) rfl ⟨rfl, hB9⟩
  · have hS := two_sets w zeroC [.int .i64 7, .string ⟨#[]⟩, .int .i64 0, .int .u32 0, .int .i64 0] 28
    obtain ⟨w1, hw1⟩ : ∃ w1, w1 = (w.alloc (.cells zeroC.toArray 28)).alloc (.cells [.int .i64 7, .string ⟨#[]⟩, .int .i64 0, .int .u32 0, .int .i64 0].toArray 28) := ⟨_, rfl⟩
    rw [← hw1] at hS
    obtain ⟨hA, hR, hG⟩ := hS
    have HA := Lib.hid hA
    have HR := Lib.hid hR
    have HG := Lib.hid hG
    have c := (hT.2.below hA).at 7 (by decide) 15 1 rfl rfl
    have hlt := (hT.2.below hA).1
    have hgl := hG.lt
    have hrl := hR.lt
    have hw1' : w1 = (w.alloc (.cells #[.int .i64 0, .string ⟨#[]⟩, .int .i64 0, .int .u32 0, .int .i64 0] 28)).alloc (.cells #[.int .i64 7, .string ⟨#[]⟩, .int .i64 0, .int .u32 0, .int .i64 0] 28) := hw1
    obtain ⟨⟨g0, g1, g2, g3, g4⟩, ⟨z0, z1, z2, z3, z4⟩⟩ := hG.facts5
    clear hA hR hG hw1
    clear hT
    have HG2 := Lib.hid (HG.out.set (by decide) 1 (.string v))
    have HR2 := Lib.hid (HR.out.other (k := w.heap.size + 1) (i := 1) (by omega) (.string v))
    have HA2 := Lib.hid (HA.out.setCell (p := ⟨w.heap.size + 1, 1, none⟩) (Nat.le_succ _) (.string v))
    go_enter Tryz.func14, Tryz.ntmps14
    go_upto_region 2 with fail
    rw [← hw1']
    clear hw1'
    go_wp2_with (refine wpL_storeBlk (o := ⟨none, _, _, _, _, _⟩) rfl 28 (.tmp 4) (.tmp 38) rfl w.heap.size zeroC [.int .i64 7, .string v, .int .i64 0, .int .u32 0, .int .i64 0] rfl rfl HR2.out size_set rfl rfl ?_)
    intro w9 hR9 hg9 hz9
    have hB9 := below_row HA2.out hg9 (by have := HA2.out.size; omega) (Nat.le_refl _)
    go_wp2
    exact bodyPost_ret (ret_cell1 (load_set hR9 rfl) Tryz.results14 rfl) rfl ⟨rfl, hB9⟩
set_option maxRecDepth 20000 in
set_option maxHeartbeats 8000000 in
theorem guess_shared (v : ByteArray) (w : World) (hT : BTabs w) :
    Calls Tryz.prog 14 #[.int .i64 6, .string v] w fun e w' => e = .returned (setV ⟨6, if v = Bt.zeros then ⟨#[]⟩ else v, 0, 0, 0⟩) ∧ Below w.heap.size w w' := by
  rw [Bt.zeros_lit]
  by_cases hz : v = ⟨#[48, 48, 48, 48, 48, 48, 48, 48, 48, 48, 48, 48, 48, 48, 48, 48, 48, 48, 48, 48, 48, 48, 48, 48, 48, 48, 48, 48, 48, 48, 48, 48, 48, 48, 48, 48, 48, 48, 48, 48, 48, 48, 48, 48, 48, 48, 48, 48, 48, 48, 48, 48, 48, 48, 48, 48, 48, 48, 48, 48, 48, 48, 48, 48]⟩
  · rw [if_pos hz]
    have dz : (v.toList == [48, 48, 48, 48, 48, 48, 48, 48, 48, 48, 48, 48, 48, 48, 48, 48, 48, 48, 48, 48, 48, 48, 48, 48, 48, 48, 48, 48, 48, 48, 48, 48, 48, 48, 48, 48, 48, 48, 48, 48, 48, 48, 48, 48, 48, 48, 48, 48, 48, 48, 48, 48, 48, 48, 48, 48, 48, 48, 48, 48, 48, 48, 48, 48]) = true := by rw [hz, ByteArray.toList_eq]; decide
    clear hz
    unfold setV
    have hS := two_sets w zeroC [.int .i64 6, .string ⟨#[]⟩, .int .i64 0, .int .u32 0, .int .i64 0] 28
    obtain ⟨w1, hw1⟩ : ∃ w1, w1 = (w.alloc (.cells zeroC.toArray 28)).alloc (.cells [.int .i64 6, .string ⟨#[]⟩, .int .i64 0, .int .u32 0, .int .i64 0].toArray 28) := ⟨_, rfl⟩
    rw [← hw1] at hS
    obtain ⟨hA, hR, hG⟩ := hS
    have HA := Lib.hid hA
    have HR := Lib.hid hR
    have HG := Lib.hid hG
    have c := (hT.2.below hA).at 6 (by decide) 13 1 rfl rfl
    have hlt := (hT.2.below hA).1
    have hgl := hG.lt
    have hrl := hR.lt
    have hw1' : w1 = (w.alloc (.cells #[.int .i64 0, .string ⟨#[]⟩, .int .i64 0, .int .u32 0, .int .i64 0] 28)).alloc (.cells #[.int .i64 6, .string ⟨#[]⟩, .int .i64 0, .int .u32 0, .int .i64 0] 28) := hw1
    obtain ⟨⟨g0, g1, g2, g3, g4⟩, ⟨z0, z1, z2, z3, z4⟩⟩ := hG.facts5
    clear hA hR hG hw1
    clear hT
    go_enter Tryz.func14, Tryz.ntmps14
    go_upto_region 2 with fail
    rw [← hw1']
    clear hw1'
    go_wp2_with (refine wpL_storeBlk (o := ⟨none, _, _, _, _, _⟩) rfl 28 (.tmp 4) (.tmp 38) rfl w.heap.size zeroC [.int .i64 6, .string ⟨#[]⟩, .int .i64 0, .int .u32 0, .int .i64 0] rfl rfl HR.out size_set rfl rfl ?_)
    intro w9 hR9 hg9 hz9
    have hB9 := below_row HA.out hg9 (by have := HA.out.size; omega) (Nat.le_refl _)
    go_wp2
    exact bodyPost_ret (ret_cell1 (load_set hR9 rfl) Tryz.results14 rfl) rfl ⟨rfl, hB9⟩
  · rw [if_neg hz]
    have dz : (v.toList == [48, 48, 48, 48, 48, 48, 48, 48, 48, 48, 48, 48, 48, 48, 48, 48, 48, 48, 48, 48, 48, 48, 48, 48, 48, 48, 48, 48, 48, 48, 48, 48, 48, 48, 48, 48, 48, 48, 48, 48, 48, 48, 48, 48, 48, 48, 48, 48, 48, 48, 48, 48, 48, 48, 48, 48, 48, 48, 48, 48, 48, 48, 48, 48]) = false := by
      refine beq_eq_false_iff_ne.2 fun e => hz ?_
      rw [ByteArray.toList_eq] at e
      exact WideShapes.bytes_inj (by rw [e])
    clear hz
    unfold setV
    have hS := two_sets w zeroC [.int .i64 6, .string ⟨#[]⟩, .int .i64 0, .int .u32 0, .int .i64 0] 28
    obtain ⟨w1, hw1⟩ : ∃ w1, w1 = (w.alloc (.cells zeroC.toArray 28)).alloc (.cells [.int .i64 6, .string ⟨#[]⟩, .int .i64 0, .int .u32 0, .int .i64 0].toArray 28) := ⟨_, rfl⟩
    rw [← hw1] at hS
    obtain ⟨hA, hR, hG⟩ := hS
    have HA := Lib.hid hA
    have HR := Lib.hid hR
    have HG := Lib.hid hG
    have c := (hT.2.below hA).at 6 (by decide) 13 1 rfl rfl
    have hlt := (hT.2.below hA).1
    have hgl := hG.lt
    have hrl := hR.lt
    have hw1' : w1 = (w.alloc (.cells #[.int .i64 0, .string ⟨#[]⟩, .int .i64 0, .int .u32 0, .int .i64 0] 28)).alloc (.cells #[.int .i64 6, .string ⟨#[]⟩, .int .i64 0, .int .u32 0, .int .i64 0] 28) := hw1
    obtain ⟨⟨g0, g1, g2, g3, g4⟩, ⟨z0, z1, z2, z3, z4⟩⟩ := hG.facts5
    clear hA hR hG hw1
    clear hT
    have HG2 := Lib.hid (HG.out.set (by decide) 1 (.string v))
    have HR2 := Lib.hid (HR.out.other (k := w.heap.size + 1) (i := 1) (by omega) (.string v))
    have HA2 := Lib.hid (HA.out.setCell (p := ⟨w.heap.size + 1, 1, none⟩) (Nat.le_succ _) (.string v))
    go_enter Tryz.func14, Tryz.ntmps14
    go_upto_region 2 with fail
    rw [← hw1']
    clear hw1'
    go_wp2_with (refine wpL_storeBlk (o := ⟨none, _, _, _, _, _⟩) rfl 28 (.tmp 4) (.tmp 38) rfl w.heap.size zeroC [.int .i64 6, .string v, .int .i64 0, .int .u32 0, .int .i64 0] rfl rfl HR2.out size_set rfl rfl ?_)
    intro w9 hR9 hg9 hz9
    have hB9 := below_row HA2.out hg9 (by have := HA2.out.size; omega) (Nat.le_refl _)
    go_wp2
    exact bodyPost_ret (ret_cell1 (load_set hR9 rfl) Tryz.results14 rfl) rfl ⟨rfl, hB9⟩
set_option maxRecDepth 20000 in
set_option maxHeartbeats 8000000 in
theorem guess_num (k : Int) (hk : k = 2 ∨ k = 8) (v : ByteArray) (w : World) (hv : v.size ≤ 281474976710656) (hT : BTabs w) :
    Calls Tryz.prog 14 #[.int .i64 k, .string v] w fun e w' => e = .returned (setV ⟨k, ⟨#[]⟩, (Ad.numOut v.data.toList 65535 : Int), 0, 0⟩) ∧ Below w.heap.size w w' := by
  have HN := Lib.hid (fun W => addr_Number v 65535 W hv)
  unfold setV
  generalize Ad.numOut v.data.toList 65535 = N at *
  generalize Ad.numErr v.data.toList 65535 = r at *
  rcases hk with rfl | rfl
  · have hS := two_sets w zeroC [.int .i64 2, .string ⟨#[]⟩, .int .i64 0, .int .u32 0, .int .i64 0] 28
    obtain ⟨w1, hw1⟩ : ∃ w1, w1 = (w.alloc (.cells zeroC.toArray 28)).alloc (.cells [.int .i64 2, .string ⟨#[]⟩, .int .i64 0, .int .u32 0, .int .i64 0].toArray 28) := ⟨_, rfl⟩
    rw [← hw1] at hS
    obtain ⟨hA, hR, hG⟩ := hS
    have HA := Lib.hid hA
    have HR := Lib.hid hR
    have HG := Lib.hid hG
    have c := (hT.2.below hA).at 2 (by decide) 5 2 rfl rfl
    have hlt := (hT.2.below hA).1
    have hgl := hG.lt
    have hrl := hR.lt
    have hw1' : w1 = (w.alloc (.cells #[.int .i64 0, .string ⟨#[]⟩, .int .i64 0, .int .u32 0, .int .i64 0] 28)).alloc (.cells #[.int .i64 2, .string ⟨#[]⟩, .int .i64 0, .int .u32 0, .int .i64 0] 28) := hw1
    obtain ⟨⟨g0, g1, g2, g3, g4⟩, ⟨z0, z1, z2, z3, z4⟩⟩ := hG.facts5
    clear hA hR hG hw1
    clear hT z0 z1 z2 z3 z4 g0 g1 g2 g3 g4
    go_enter Tryz.func14, Tryz.ntmps14
    go_upto_region 2 with fail
    rw [← hw1']
    clear hw1'
    go_wp2_with fail
    refine (HN.out w1).mono ?_
    rintro e w2 ⟨rfl, hb2⟩
    have hG2 := HG.out.kept hb2
    have hR2 := HR.out.kept hb2
    have hA2 := HA.out.trans (hb2.mono HA.out.size)
    obtain ⟨⟨g0, g1, g2, g3, g4⟩, ⟨z0, z1, z2, z3, z4⟩⟩ := hG2.facts5
    have hgl2 := hG2.lt
    have HG3 := Lib.hid (hG2.set (by decide) 2 (.int .i64 (N : Int)))
    have HR3 := Lib.hid (hR2.other (k := w.heap.size + 1) (i := 2) (by omega) (.int .i64 (N : Int)))
    have HA3 := Lib.hid (hA2.setCell (p := ⟨w.heap.size + 1, 2, none⟩) (Nat.le_succ _) (.int .i64 (N : Int)))
    clear hG2 hR2 hA2 hb2 c
    go_wp2_with (refine wpL_storeBlk (o := ⟨none, _, _, _, _, _⟩) rfl 28 (.tmp 4) (.tmp 38) rfl w.heap.size zeroC [.int .i64 2, .string ⟨#[]⟩, .int .i64 (N : Int), .int .u32 0, .int .i64 0] rfl rfl HR3.out size_set rfl rfl ?_)
    intro w9 hR9 hg9 hz9
    have hB9 := below_row HA3.out hg9 (by have := HA3.out.size; omega) (Nat.le_refl _)
    go_wp2
    exact bodyPost_ret (ret_cell1 (load_set hR9 rfl) Tryz.results14 rfl) rfl ⟨rfl, hB9⟩
  · have hS := two_sets w zeroC [.int .i64 8, .string ⟨#[]⟩, .int .i64 0, .int .u32 0, .int .i64 0] 28
    obtain ⟨w1, hw1⟩ : ∃ w1, w1 = (w.alloc (.cells zeroC.toArray 28)).alloc (.cells [.int .i64 8, .string ⟨#[]⟩, .int .i64 0, .int .u32 0, .int .i64 0].toArray 28) := ⟨_, rfl⟩
    rw [← hw1] at hS
    obtain ⟨hA, hR, hG⟩ := hS
    have HA := Lib.hid hA
    have HR := Lib.hid hR
    have HG := Lib.hid hG
    have c := (hT.2.below hA).at 8 (by decide) 17 2 rfl rfl
    have hlt := (hT.2.below hA).1
    have hgl := hG.lt
    have hrl := hR.lt
    have hw1' : w1 = (w.alloc (.cells #[.int .i64 0, .string ⟨#[]⟩, .int .i64 0, .int .u32 0, .int .i64 0] 28)).alloc (.cells #[.int .i64 8, .string ⟨#[]⟩, .int .i64 0, .int .u32 0, .int .i64 0] 28) := hw1
    obtain ⟨⟨g0, g1, g2, g3, g4⟩, ⟨z0, z1, z2, z3, z4⟩⟩ := hG.facts5
    clear hA hR hG hw1
    clear hT z0 z1 z2 z3 z4 g0 g1 g2 g3 g4
    go_enter Tryz.func14, Tryz.ntmps14
    go_upto_region 2 with fail
    rw [← hw1']
    clear hw1'
    go_wp2_with fail
    refine (HN.out w1).mono ?_
    rintro e w2 ⟨rfl, hb2⟩
    have hG2 := HG.out.kept hb2
    have hR2 := HR.out.kept hb2
    have hA2 := HA.out.trans (hb2.mono HA.out.size)
    obtain ⟨⟨g0, g1, g2, g3, g4⟩, ⟨z0, z1, z2, z3, z4⟩⟩ := hG2.facts5
    have hgl2 := hG2.lt
    have HG3 := Lib.hid (hG2.set (by decide) 2 (.int .i64 (N : Int)))
    have HR3 := Lib.hid (hR2.other (k := w.heap.size + 1) (i := 2) (by omega) (.int .i64 (N : Int)))
    have HA3 := Lib.hid (hA2.setCell (p := ⟨w.heap.size + 1, 2, none⟩) (Nat.le_succ _) (.int .i64 (N : Int)))
    clear hG2 hR2 hA2 hb2 c
    go_wp2_with (refine wpL_storeBlk (o := ⟨none, _, _, _, _, _⟩) rfl 28 (.tmp 4) (.tmp 38) rfl w.heap.size zeroC [.int .i64 8, .string ⟨#[]⟩, .int .i64 (N : Int), .int .u32 0, .int .i64 0] rfl rfl HR3.out size_set rfl rfl ?_)
    intro w9 hR9 hg9 hz9
    have hB9 := below_row HA3.out hg9 (by have := HA3.out.size; omega) (Nat.le_refl _)
    go_wp2
    exact bodyPost_ret (ret_cell1 (load_set hR9 rfl) Tryz.results14 rfl) rfl ⟨rfl, hB9⟩
set_option maxRecDepth 20000 in
set_option maxHeartbeats 8000000 in
theorem guess_net (v : ByteArray) (w : World) (hv : v.size ≤ 1048576) (hT : BTabs w) :
    Calls Tryz.prog 14 #[.int .i64 10, .string v] w fun e w' => e = .returned (setV ⟨10, ⟨#[]⟩, 0, Nt.parAddr v.data.toList, (Nt.parBits v.data.toList : Int)⟩) ∧ Below w.heap.size w w' := by
  have HN := Lib.hid (fun W hW => net_Parse v W hv (hT.1.below hW))
  unfold netV at HN
  unfold setV
  generalize Nt.parAddr v.data.toList = A at *
  generalize (Nt.parBits v.data.toList : Int) = B at *
  generalize Nt.parErr v.data.toList = r at *
  have hS := two_sets w zeroC [.int .i64 10, .string ⟨#[]⟩, .int .i64 0, .int .u32 0, .int .i64 0] 28
  obtain ⟨w1, hw1⟩ : ∃ w1, w1 = (w.alloc (.cells zeroC.toArray 28)).alloc (.cells [.int .i64 10, .string ⟨#[]⟩, .int .i64 0, .int .u32 0, .int .i64 0].toArray 28) := ⟨_, rfl⟩
  rw [← hw1] at hS
  obtain ⟨hA, hR, hG⟩ := hS
  have HA := Lib.hid hA
  have HR := Lib.hid hR
  have HG := Lib.hid hG
  have c := (hT.2.below hA).at 10 (by decide) 21 3 rfl rfl
  have hlt := (hT.2.below hA).1
  have hgl := hG.lt
  have hrl := hR.lt
  have hw1' : w1 = (w.alloc (.cells #[.int .i64 0, .string ⟨#[]⟩, .int .i64 0, .int .u32 0, .int .i64 0] 28)).alloc (.cells #[.int .i64 10, .string ⟨#[]⟩, .int .i64 0, .int .u32 0, .int .i64 0] 28) := hw1
  obtain ⟨⟨g0, g1, g2, g3, g4⟩, ⟨z0, z1, z2, z3, z4⟩⟩ := hG.facts5
  clear hA hR hG hw1
  clear hT z0 z1 z2 z3 z4 g0 g1 g2 g3 g4
  go_enter Tryz.func14, Tryz.ntmps14
  go_upto_region 2 with fail
  rw [← hw1']
  clear hw1'
  go_wp2_with fail
  refine (HN.out w1 HA.out).mono ?_
  rintro e w2 ⟨rfl, hb2⟩
  have hG2 := HG.out.kept hb2
  have hR2 := HR.out.kept hb2
  have hA2 := HA.out.trans (hb2.mono HA.out.size)
  obtain ⟨⟨g0, g1, g2, g3, g4⟩, ⟨z0, z1, z2, z3, z4⟩⟩ := hG2.facts5
  have hgl2 := hG2.lt
  have HG3 := Lib.hid ((hG2.set (by decide) 3 (.int .u32 (A : Int))).set (by show 5 ≤ maxLen; decide) 4 (.int .i64 B))
  have HR3 := Lib.hid ((hR2.other (k := w.heap.size + 1) (i := 3) (by omega) (.int .u32 (A : Int))).other (k := w.heap.size + 1) (i := 4) (by omega) (.int .i64 B))
  have HA3 := Lib.hid ((hA2.setCell (p := ⟨w.heap.size + 1, 3, none⟩) (Nat.le_succ _) (.int .u32 (A : Int))).setCell (p := ⟨w.heap.size + 1, 4, none⟩) (Nat.le_succ _) (.int .i64 B))
  clear hG2 hR2 hA2 hb2 c
  go_wp2_with (refine wpL_storeBlk (o := ⟨none, _, _, _, _, _⟩) rfl 28 (.tmp 4) (.tmp 38) rfl w.heap.size zeroC [.int .i64 10, .string ⟨#[]⟩, .int .i64 0, .int .u32 (A : Int), .int .i64 B] rfl rfl HR3.out size_set rfl rfl ?_)
  intro w9 hR9 hg9 hz9
  have hB9 := below_row HA3.out hg9 (by have := HA3.out.size; omega) (Nat.le_refl _)
  go_wp2
  exact bodyPost_ret (ret_cell1 (load_set hR9 rfl) Tryz.results14 rfl) rfl ⟨rfl, hB9⟩
/-- The setting that a line of a kind may be of. -/
theorem batch_guess (k : Int) (v : ByteArray) (w : World) (h1 : 1 ≤ k) (h2 : k ≤ 10) (hv : v.size ≤ 1048576) (hT : BTabs w) :
    Calls Tryz.prog 14 #[.int .i64 k, .string v] w fun e w' => e = .returned (setV (Bt.guess k v)) ∧ Below w.heap.size w w' := by
  rcases Bt.fld_cases k h1 h2 with rfl | rfl | rfl | rfl | rfl | rfl | rfl | rfl | rfl | rfl
  · exact guess_text 1 (by omega) v w hT
  · exact guess_num 2 (by omega) v w (by omega) hT
  · exact guess_none 3 (by omega) v w hT
  · exact guess_text 4 (by omega) v w hT
  · exact guess_none 5 (by omega) v w hT
  · have := guess_shared v w hT
    have e : Bt.guess 6 v = ⟨6, if v = Bt.zeros then ⟨#[]⟩ else v, 0, 0, 0⟩ := by
      unfold Bt.guess
      rw [if_pos (show Bt.fld 6 = 1 from rfl)]
      simp
    rw [e]
    exact this
  · exact guess_text 7 (by omega) v w hT
  · exact guess_num 8 (by omega) v w (by omega) hT
  · exact guess_none 9 (by omega) v w hT
  · exact guess_net v w hv hT
end Go.Proofs.YthlagpmacnijfaaGreatDoor

namespace Go.Proofs.YthlagpmacnijfaaGreatDoor
open Go.RowKit

def Bt.shapeC : List Value := (List.range 11).flatMap fun k => [.string (Bt.nameOf k), .int .i64 (Bt.fld (k : Int) : Int)]
theorem Bt.shapeC_get (k : Nat) (h : k < 11) : Bt.shapeC[k * 2]? = some (.string (Bt.nameOf k)) ∧ Bt.shapeC[k * 2 + 1]? = some (.int .i64 (Bt.fld (k : Int) : Int)) := by
  have : k = 0 ∨ k = 1 ∨ k = 2 ∨ k = 3 ∨ k = 4 ∨ k = 5 ∨ k = 6 ∨ k = 7 ∨ k = 8 ∨ k = 9 ∨ k = 10 := by omega
  rcases this with rfl | rfl | rfl | rfl | rfl | rfl | rfl | rfl | rfl | rfl | rfl <;> exact ⟨rfl, rfl⟩
theorem Bt.shapeC_len : Bt.shapeC.length = 22 := rfl
theorem Bt.shapeC_part (k : Nat) (h : k < 11) : (List.take 2 (List.drop (k * 2) Bt.shapeC)).toArray = #[.string (Bt.nameOf k), .int .i64 (Bt.fld (k : Int) : Int)] := by
  have : k = 0 ∨ k = 1 ∨ k = 2 ∨ k = 3 ∨ k = 4 ∨ k = 5 ∨ k = 6 ∨ k = 7 ∨ k = 8 ∨ k = 9 ∨ k = 10 := by omega
  rcases this with rfl | rfl | rfl | rfl | rfl | rfl | rfl | rfl | rfl | rfl | rfl <;> rfl
theorem load_shapes {w : World} (h : ShapeTab w) : (loadVar 58 ⟨0, 0, none⟩).run Tryz.prog w = .ok (.agg Bt.shapeC.toArray) w := by
  have hL : (loadCells ⟨0, 0, none⟩ Bt.shapeC.length).run Tryz.prog w = .ok Bt.shapeC.toArray w :=
    run_loadCells_list (P := Tryz.prog) w ⟨0, 0, none⟩ Bt.shapeC (fun j v hv => by
      have hj : j < 22 := by have := (List.getElem?_eq_some_iff.1 hv).1; rwa [Bt.shapeC_len] at this
      rw [Addr.add_lit, Nat.zero_add]
      obtain ⟨g1, g2⟩ := Bt.shapeC_get (j / 2) (by omega)
      obtain ⟨c1, c2⟩ := h.2 (j / 2) (by omega)
      rcases Nat.mod_two_eq_zero_or_one j with hm | hm
      · have e : j = j / 2 * 2 := by omega
        rw [← e] at g1 c1
        rw [c1, ← g1, hv]
      · have e : j = j / 2 * 2 + 1 := by omega
        rw [← e] at g2 c2
        rw [c2, ← g2, hv])
  rw [Bt.shapeC_len] at hL
  obtain ⟨i, hq, hs⟩ : ∃ i, Tryz.prog.info? 58 = some i ∧ i.size = 22 := by
    cases hq : Tryz.prog.info? 58 with
    | none =>
      have := show (Tryz.prog.info? 58).map (·.size) = some 22 by kernel_rfl
      simp [hq] at this
    | some i =>
      have := show (Tryz.prog.info? 58).map (·.size) = some 22 by kernel_rfl
      exact ⟨i, rfl, by simpa [hq] using this⟩
  have hagg : (isAgg 58).run Tryz.prog w = .ok true w := by simp [isAgg, run_underlying Tryz.underlying58]
  simp only [loadVar, Sem.run_bind, hagg, Result.andThen_ok, if_true]
  simp [sizeOf, typeInfo, hq, hs, hL]
theorem index_shapes (k : Nat) (w : World) (hk : k < 11) : (Instr.index 58 (.agg Bt.shapeC.toArray) (.int .i64 (k : Int))).run Tryz.prog w = .ok (.agg #[.string (Bt.nameOf k), .int .i64 (Bt.fld (k : Int) : Int)]) w := by
  obtain ⟨i0, hi, hz0, hz1, hz2⟩ := info_parts (P := Tryz.prog) (e := 57) (z := .agg #[.string ByteArray.empty, .int .i64 0]) (size := 2) (bytes := 24) (by kernel_rfl)
  have hx := Bt.shapeC_part k hk
  simp [Instr.index, asIntOf, run_underlying Tryz.underlying58, run_underlying Tryz.underlying57, part, isAgg, sizeOf, typeInfo, hi, hz1]
  rw [if_pos hk, hx]
/-- A load whose run is known. -/
theorem wpL_load_at {w : World} {ops : Array Oper} {rest : List Oper} {o : Oper} {a : Act} {Q : Exit → Act → World → Prop} (hgd : o.guard = none) (t : TypeId) (x : Operand) (ho : o.op = .load t x) (ad : Addr) (v : Value) (hx : a.eval x = .pointer (some ad)) (hr : (loadVar t ad).run Tryz.prog w = .ok v w)
    (h : wpList Tryz.prog ops Q rest (a.put o.dst v) w) : wpList Tryz.prog ops Q (o :: rest) a w := by
  refine wpList_plain hgd fun K hK => ?_
  unfold Oper.wp execOp
  simp only [ho, hx, Instr.loadAt, Instr.sureAddr, Sem.run_bind, Sem.run_pure, Result.andThen_ok, hr]
  exact hK _ _ h
set_option maxRecDepth 20000 in
set_option maxHeartbeats 4000000 in
theorem batch_kindOf (K : ByteArray) (w : World) (hT : ShapeTab w) :
    Calls Tryz.prog 13 #[.string K] w fun e w' => e = .returned (.tuple #[.int .i64 (Bt.kindOf K : Int), .bool (decide (Bt.kindOf K ≠ 0))]) ∧ Below w.heap.size w w' := by
  have Hload := Lib.hid (load_shapes hT)
  clear hT
  obtain ⟨S, hS⟩ : ∃ S : Value, S = .agg Bt.shapeC.toArray := ⟨_, rfl⟩
  rw [← hS] at Hload
  have HS := Lib.hid hS
  clear hS
  go_enter Tryz.func13, Tryz.ntmps13
  go_wp2_with (with_reducible refine wpL_load_at (o := ⟨some 6, _, _, _, _, _⟩) rfl 58 _ rfl _ _ rfl Hload.out ?_)
  go_loopw [7] (fun i wr => ∃ k : Nat, k ≤ 11 ∧ i = .int .i64 (k : Int) ∧ Hid (∀ j, 1 ≤ j → j < k → Bt.nameOf j ≠ K) ∧ Hid (Below w.heap.size w wr)) (fun i _ => 11 - (intOf i).toNat)
  case atStart => exact ⟨0, by decide, rfl, Lib.hid (fun j h1 h2 => by omega), Lib.hid (Below.refl _ _)⟩
  case round =>
    obtain ⟨k, hk, rfl, Ha, HBr⟩ := hrel
    obtain ⟨wo, hwo⟩ : ∃ wo, wo = wr := ⟨_, rfl⟩
    subst hwo
    by_cases hlt : k < 11
    · have i11 : (k : Int) < 11 := by omega
      obtain ⟨X, hX⟩ : ∃ X, X = Bt.nameOf k := ⟨_, rfl⟩
      obtain ⟨F, hF⟩ : ∃ F, F = (Bt.fld (k : Int) : Int) := ⟨_, rfl⟩
      have HX := Lib.hid hX
      have HF := Lib.hid hF
      have HBn := Lib.hid (HBr.out.alloc HBr.out.size (.cells #[.string X, .int .i64 F] 57))
      have hI : ∀ W, (Instr.index 58 S (.int .i64 (k : Int))).run Tryz.prog W = .ok (.agg #[.string X, .int .i64 F]) W := fun W => by rw [HS.out, hX, hF]; exact index_shapes k W hlt
      clear hX hF
      by_cases h0 : k = 0
      · have q0 : decide ((0 : Int) < (k : Int)) = false := decide_eq_false (by omega)
        have Hn := Lib.hid (show ∀ j, 1 ≤ j → j < k + 1 → Bt.nameOf j ≠ K from fun j h1 h2 => by omega)
        have q1 : ¬ 0 < k := by omega
        rcases text_eq X K with hXK | q2
        · subst hXK
          clear h0
          go_wp2
          go_roundw
          case rel => exact ⟨k + 1, by omega, by go_num, Hn, HBn⟩
          case measure => simp [intOf]; omega
        · clear h0
          go_wp2
          go_roundw
          case rel => exact ⟨k + 1, by omega, by go_num, Hn, HBn⟩
          case measure => simp [intOf]; omega
      · have q0 : decide ((0 : Int) < (k : Int)) = true := decide_eq_true (by omega)
        have q1 : 0 < k := by omega
        rcases text_eq X K with hXK | q2
        · have HK := Lib.hid (Bt.kind_some q1 (by omega) (HX.out.symm.trans hXK))
          subst hXK
          clear h0
          go_wp2
          go_ret2
          exact ⟨by rw [HK.out, decide_eq_true (by omega : k ≠ 0)]; rfl, HBn.out⟩
        · have Hn := Lib.hid (show ∀ j, 1 ≤ j → j < k + 1 → Bt.nameOf j ≠ K from fun j h1 h2 => by
            by_cases hj : j < k
            · exact Ha.out j h1 hj
            · obtain rfl : j = k := by omega
              rw [← HX.out]
              intro e
              subst e
              simp at q2)
          clear h0
          go_wp2
          go_roundw
          case rel => exact ⟨k + 1, by omega, by go_num, Hn, HBn⟩
          case measure => simp [intOf]; omega
    · obtain rfl : k = 11 := by omega
      have HK := Lib.hid (Bt.kind_none (key := K) fun j h1 h2 => Ha.out j h1 (by omega))
      rw [show ((11 : Nat) : Int) = (11 : Int) from rfl]
      go_wp2
      go_ret2
      exact ⟨by rw [HK.out]; rfl, HBr.out⟩
end Go.Proofs.YthlagpmacnijfaaGreatDoor

namespace Go.Proofs.YthlagpmacnijfaaGreatDoor
open Go.RowKit

set_option maxRecDepth 20000 in
set_option maxHeartbeats 8000000 in
theorem batch_Read (l : Ln.L) (w : World) (hs : l.v.size ≤ 1048576) (hT : BTabs w) :
    Calls Tryz.prog 6 #[lineV l] w fun e w' => e = .returned (.tuple #[setV (Bt.ofLine l).1, .int .i64 ((Bt.ofLine l).2 : Int)]) ∧ Below w.heap.size w w' := by
  rw [Bt.of_guess l hs]
  obtain ⟨K, V⟩ := l
  simp only at hs ⊢
  have hS := set_beside w (Ln.lineC ⟨K, V⟩) zeroC 23 28
  obtain ⟨w1, hw1⟩ : ∃ w1, w1 = (w.alloc (.cells (Ln.lineC ⟨K, V⟩).toArray 23)).alloc (.cells zeroC.toArray 28) := ⟨_, rfl⟩
  rw [← hw1] at hS
  obtain ⟨hA, hG, hR⟩ := hS
  have HA := Lib.hid hA
  have HG := Lib.hid hG
  have HR := Lib.hid hR
  have hgl := hG.lt
  have hrl := hR.lt
  have HK := Lib.hid (batch_kindOf K w1 (hT.2.below hA))
  have HT := Lib.hid hT
  have hw1' : w1 = (w.alloc (.cells #[.string K, .string V] 23)).alloc (.cells #[.int .i64 0, .string ⟨#[]⟩, .int .i64 0, .int .u32 0, .int .i64 0] 28) := hw1
  have g0 := hG.cell 0 rfl
  have g1 := hG.cell 1 rfl
  unfold lineV
  rcases Bt.kindOf_cases K with hk | ⟨hk1, hk2, -⟩
  · rw [hk] at HK ⊢
    rw [decide_eq_false (by omega : ¬ (0 : Nat) ≠ 0)] at HK
    rw [if_pos rfl]
    clear hk hT hA hG hR hw1 hs
    unfold setV
    go_enter Tryz.func6, Tryz.ntmps6
    go_upto_region 1 with fail
    rw [← hw1']
    clear hw1'
    go_wp2_with fail
    refine HK.out.mono ?_
    rintro e w2 ⟨rfl, hb2⟩
    have HR2 := Lib.hid (HR.out.kept hb2)
    have HB2 := Lib.hid (HA.out.trans (hb2.mono HA.out.size))
    clear hb2 g0 g1
    go_wp2_with (refine wpL_storeBlk (o := ⟨none, _, _, _, _, _⟩) rfl 28 (.tmp 2) (.tmp 17) rfl (w.heap.size + 1) zeroC [.int .i64 0, .string ⟨#[]⟩, .int .i64 0, .int .u32 0, .int .i64 0] rfl rfl HR2.out size_set rfl rfl ?_)
    intro w9 hR9 hg9 hz9
    have hB9 := below_row HB2.out hg9 (by have := HB2.out.size; omega) (Nat.le_succ _)
    go_wp2
    exact bodyPost_ret (ret_cell (load_set hR9 rfl) Tryz.results6 rfl rfl) rfl ⟨rfl, hB9⟩
  · obtain ⟨k, hkk⟩ : ∃ k, k = Bt.kindOf K := ⟨_, rfl⟩
    rw [← hkk] at hk1 hk2 HK ⊢
    rw [if_neg (by omega)]
    rw [decide_eq_true (by omega : k ≠ 0)] at HK
    have HGu := Lib.hid (fun W hW => batch_guess (k : Int) V W (by omega) (by omega) hs (HT.out.below hW))
    have hgo := Bt.guess_ok (k : Int) V hs
    generalize Bt.guess (k : Int) V = s at *
    have HL := Lib.hid (fun W hW => batch_Line s W hgo.1 hgo.2.1 hgo.2.2.1 hgo.2.2.2 (HT.out.below hW))
    clear hkk hT hA hG hR hw1 hs hgo
    obtain ⟨L, hLL⟩ : ∃ L, L = Bt.line s := ⟨_, rfl⟩
    rw [← hLL] at HL ⊢
    obtain ⟨X, Y⟩ := L
    unfold lineV at HL
    by_cases he : Bt.err s = 0
    · rcases line_parts X K Y V with ⟨rfl, rfl⟩ | z0 | ⟨rfl, z0⟩
      · rw [if_pos ⟨he, rfl⟩]
        rw [he] at HL
        clear he hLL
        obtain ⟨sk, st, sn, sa, sb⟩ := s
        unfold setV at HGu HL ⊢
        go_enter Tryz.func6, Tryz.ntmps6
        go_upto_region 1 with fail
        rw [← hw1']
        clear hw1'
        go_wp2_with fail
        refine HK.out.mono ?_
        rintro e w2 ⟨rfl, hb2⟩
        have hG2 := HG.out.kept hb2
        have HG2 := Lib.hid hG2
        have HR2 := Lib.hid (HR.out.kept hb2)
        have HB2 := Lib.hid (HA.out.trans (hb2.mono HA.out.size))
        have k1 := hG2.cell 1 rfl
        clear hb2 g0 g1 hG2
        go_wp2_with fail
        refine (HGu.out w2 HB2.out).mono ?_
        rintro e w3 ⟨rfl, hb3⟩
        obtain ⟨w4, hw4⟩ : ∃ w4, w4 = w3.alloc (.cells #[.int .i64 sk, .string st, .int .i64 sn, .int .u32 (sa : Int), .int .i64 sb] 28) := ⟨_, rfl⟩
        have hA4 : Below w3.heap.size w3 w4 := by rw [hw4]; exact (Below.refl _ _).alloc (Nat.le_refl _) _
        have HS4 := Lib.hid (show Blk w4 w3.heap.size 28 [.int .i64 sk, .string st, .int .i64 sn, .int .u32 (sa : Int), .int .i64 sb] by rw [hw4]; exact Blk.new _ _ _)
        have hB24 := hb3.trans (hA4.mono hb3.size)
        have HG4 := Lib.hid (HG2.out.kept hB24)
        have HR4 := Lib.hid (HR2.out.kept hB24)
        have HB4 := Lib.hid (HB2.out.trans (hB24.mono HB2.out.size))
        have hg3 : w.heap.size + 1 < w3.heap.size := Nat.lt_of_lt_of_le HR2.out.lt hb3.size
        clear hA4 hB24 hb3 k1
        go_upto_region 5 with fail
        rw [← hw4]
        clear hw4
        obtain ⟨⟨s0, s1, s2, s3, s4⟩, -⟩ := HS4.out.facts5
        go_wp2_with fail
        refine (HL.out w4 HB4.out).mono ?_
        rintro e w5 ⟨rfl, hb5⟩
        obtain ⟨w6, hw6⟩ : ∃ w6, w6 = w5.alloc (.cells #[.string X, .string Y] 23) := ⟨_, rfl⟩
        have hA6 : Below w5.heap.size w5 w6 := by rw [hw6]; exact (Below.refl _ _).alloc (Nat.le_refl _) _
        have hM := show Blk w6 w5.heap.size 23 [.string X, .string Y] by rw [hw6]; exact Blk.new _ _ _
        have hB46 := hb5.trans (hA6.mono hb5.size)
        have hG6 := HG4.out.kept hB46
        have HR6 := Lib.hid (HR4.out.kept hB46)
        have hS6 := HS4.out.kept hB46
        have HB6 := Lib.hid (HB4.out.trans (hB46.mono HB4.out.size))
        obtain ⟨⟨s0, s1, s2, s3, s4⟩, -⟩ := hS6.facts5
        have k0 := hG6.cell 0 rfl
        have k1 := hG6.cell 1 rfl
        have m0 := hM.cell 0 rfl
        have m1 := hM.cell 1 rfl
        clear hA6 hB46 hb5 hM hG6 hS6
        go_upto_region 6 with fail
        rw [← hw6]
        clear hw6
        go_wp2_with (refine wpL_storeBlk (o := ⟨none, _, _, _, _, _⟩) rfl 28 (.tmp 2) (.tmp 35) rfl (w.heap.size + 1) zeroC [.int .i64 sk, .string st, .int .i64 sn, .int .u32 (sa : Int), .int .i64 sb] rfl rfl HR6.out size_set rfl rfl ?_)
        intro w9 hR9 hg9 hz9
        have hB9 := below_row HB6.out hg9 (by have := HB6.out.size; omega) (Nat.le_succ _)
        go_wp2
        exact bodyPost_ret (ret_cell (load_set hR9 rfl) Tryz.results6 rfl rfl) rfl ⟨rfl, hB9⟩
      · rw [if_neg (fun h => by have := h.2; injection this with e1 e2; subst e1; simp at z0)]
        rw [he] at HL
        clear he hLL
        obtain ⟨sk, st, sn, sa, sb⟩ := s
        unfold setV at HGu HL ⊢
        go_enter Tryz.func6, Tryz.ntmps6
        go_upto_region 1 with fail
        rw [← hw1']
        clear hw1'
        go_wp2_with fail
        refine HK.out.mono ?_
        rintro e w2 ⟨rfl, hb2⟩
        have hG2 := HG.out.kept hb2
        have HG2 := Lib.hid hG2
        have HR2 := Lib.hid (HR.out.kept hb2)
        have HB2 := Lib.hid (HA.out.trans (hb2.mono HA.out.size))
        have k1 := hG2.cell 1 rfl
        clear hb2 g0 g1 hG2
        go_wp2_with fail
        refine (HGu.out w2 HB2.out).mono ?_
        rintro e w3 ⟨rfl, hb3⟩
        obtain ⟨w4, hw4⟩ : ∃ w4, w4 = w3.alloc (.cells #[.int .i64 sk, .string st, .int .i64 sn, .int .u32 (sa : Int), .int .i64 sb] 28) := ⟨_, rfl⟩
        have hA4 : Below w3.heap.size w3 w4 := by rw [hw4]; exact (Below.refl _ _).alloc (Nat.le_refl _) _
        have HS4 := Lib.hid (show Blk w4 w3.heap.size 28 [.int .i64 sk, .string st, .int .i64 sn, .int .u32 (sa : Int), .int .i64 sb] by rw [hw4]; exact Blk.new _ _ _)
        have hB24 := hb3.trans (hA4.mono hb3.size)
        have HG4 := Lib.hid (HG2.out.kept hB24)
        have HR4 := Lib.hid (HR2.out.kept hB24)
        have HB4 := Lib.hid (HB2.out.trans (hB24.mono HB2.out.size))
        have hg3 : w.heap.size + 1 < w3.heap.size := Nat.lt_of_lt_of_le HR2.out.lt hb3.size
        clear hA4 hB24 hb3 k1
        go_upto_region 5 with fail
        rw [← hw4]
        clear hw4
        obtain ⟨⟨s0, s1, s2, s3, s4⟩, -⟩ := HS4.out.facts5
        go_wp2_with fail
        refine (HL.out w4 HB4.out).mono ?_
        rintro e w5 ⟨rfl, hb5⟩
        obtain ⟨w6, hw6⟩ : ∃ w6, w6 = w5.alloc (.cells #[.string X, .string Y] 23) := ⟨_, rfl⟩
        have hA6 : Below w5.heap.size w5 w6 := by rw [hw6]; exact (Below.refl _ _).alloc (Nat.le_refl _) _
        have hM := show Blk w6 w5.heap.size 23 [.string X, .string Y] by rw [hw6]; exact Blk.new _ _ _
        have hB46 := hb5.trans (hA6.mono hb5.size)
        have hG6 := HG4.out.kept hB46
        have HR6 := Lib.hid (HR4.out.kept hB46)
        have hS6 := HS4.out.kept hB46
        have HB6 := Lib.hid (HB4.out.trans (hB46.mono HB4.out.size))
        obtain ⟨⟨s0, s1, s2, s3, s4⟩, -⟩ := hS6.facts5
        have k0 := hG6.cell 0 rfl
        have k1 := hG6.cell 1 rfl
        have m0 := hM.cell 0 rfl
        have m1 := hM.cell 1 rfl
        clear hA6 hB46 hb5 hM hG6 hS6
        go_upto_region 6 with fail
        rw [← hw6]
        clear hw6
        go_wp2_with (refine wpL_storeBlk (o := ⟨none, _, _, _, _, _⟩) rfl 28 (.tmp 2) (.tmp 34) rfl (w.heap.size + 1) zeroC [.int .i64 0, .string ⟨#[]⟩, .int .i64 0, .int .u32 0, .int .i64 0] rfl rfl HR6.out size_set rfl rfl ?_)
        intro w9 hR9 hg9 hz9
        have hB9 := below_row HB6.out hg9 (by have := HB6.out.size; omega) (Nat.le_succ _)
        go_wp2
        exact bodyPost_ret (ret_cell (load_set hR9 rfl) Tryz.results6 rfl rfl) rfl ⟨rfl, hB9⟩
      · rw [if_neg (fun h => by have := h.2; injection this with e1 e2; subst e2; simp at z0)]
        rw [he] at HL
        clear he hLL
        obtain ⟨sk, st, sn, sa, sb⟩ := s
        unfold setV at HGu HL ⊢
        go_enter Tryz.func6, Tryz.ntmps6
        go_upto_region 1 with fail
        rw [← hw1']
        clear hw1'
        go_wp2_with fail
        refine HK.out.mono ?_
        rintro e w2 ⟨rfl, hb2⟩
        have hG2 := HG.out.kept hb2
        have HG2 := Lib.hid hG2
        have HR2 := Lib.hid (HR.out.kept hb2)
        have HB2 := Lib.hid (HA.out.trans (hb2.mono HA.out.size))
        have k1 := hG2.cell 1 rfl
        clear hb2 g0 g1 hG2
        go_wp2_with fail
        refine (HGu.out w2 HB2.out).mono ?_
        rintro e w3 ⟨rfl, hb3⟩
        obtain ⟨w4, hw4⟩ : ∃ w4, w4 = w3.alloc (.cells #[.int .i64 sk, .string st, .int .i64 sn, .int .u32 (sa : Int), .int .i64 sb] 28) := ⟨_, rfl⟩
        have hA4 : Below w3.heap.size w3 w4 := by rw [hw4]; exact (Below.refl _ _).alloc (Nat.le_refl _) _
        have HS4 := Lib.hid (show Blk w4 w3.heap.size 28 [.int .i64 sk, .string st, .int .i64 sn, .int .u32 (sa : Int), .int .i64 sb] by rw [hw4]; exact Blk.new _ _ _)
        have hB24 := hb3.trans (hA4.mono hb3.size)
        have HG4 := Lib.hid (HG2.out.kept hB24)
        have HR4 := Lib.hid (HR2.out.kept hB24)
        have HB4 := Lib.hid (HB2.out.trans (hB24.mono HB2.out.size))
        have hg3 : w.heap.size + 1 < w3.heap.size := Nat.lt_of_lt_of_le HR2.out.lt hb3.size
        clear hA4 hB24 hb3 k1
        go_upto_region 5 with fail
        rw [← hw4]
        clear hw4
        obtain ⟨⟨s0, s1, s2, s3, s4⟩, -⟩ := HS4.out.facts5
        go_wp2_with fail
        refine (HL.out w4 HB4.out).mono ?_
        rintro e w5 ⟨rfl, hb5⟩
        obtain ⟨w6, hw6⟩ : ∃ w6, w6 = w5.alloc (.cells #[.string X, .string Y] 23) := ⟨_, rfl⟩
        have hA6 : Below w5.heap.size w5 w6 := by rw [hw6]; exact (Below.refl _ _).alloc (Nat.le_refl _) _
        have hM := show Blk w6 w5.heap.size 23 [.string X, .string Y] by rw [hw6]; exact Blk.new _ _ _
        have hB46 := hb5.trans (hA6.mono hb5.size)
        have hG6 := HG4.out.kept hB46
        have HR6 := Lib.hid (HR4.out.kept hB46)
        have hS6 := HS4.out.kept hB46
        have HB6 := Lib.hid (HB4.out.trans (hB46.mono HB4.out.size))
        obtain ⟨⟨s0, s1, s2, s3, s4⟩, -⟩ := hS6.facts5
        have k0 := hG6.cell 0 rfl
        have k1 := hG6.cell 1 rfl
        have m0 := hM.cell 0 rfl
        have m1 := hM.cell 1 rfl
        clear hA6 hB46 hb5 hM hG6 hS6
        go_upto_region 6 with fail
        rw [← hw6]
        clear hw6
        go_wp2_with (refine wpL_storeBlk (o := ⟨none, _, _, _, _, _⟩) rfl 28 (.tmp 2) (.tmp 34) rfl (w.heap.size + 1) zeroC [.int .i64 0, .string ⟨#[]⟩, .int .i64 0, .int .u32 0, .int .i64 0] rfl rfl HR6.out size_set rfl rfl ?_)
        intro w9 hR9 hg9 hz9
        have hB9 := below_row HB6.out hg9 (by have := HB6.out.size; omega) (Nat.le_succ _)
        go_wp2
        exact bodyPost_ret (ret_cell (load_set hR9 rfl) Tryz.results6 rfl rfl) rfl ⟨rfl, hB9⟩
    · rw [if_neg (fun h => he h.1)]
      have hn : ((Bt.err s : Int) != 0) = true := by simpa using he
      clear he hLL
      generalize Bt.err s = r at *
      obtain ⟨sk, st, sn, sa, sb⟩ := s
      unfold setV at HGu HL ⊢
      go_enter Tryz.func6, Tryz.ntmps6
      go_upto_region 1 with fail
      rw [← hw1']
      clear hw1'
      go_wp2_with fail
      refine HK.out.mono ?_
      rintro e w2 ⟨rfl, hb2⟩
      have hG2 := HG.out.kept hb2
      have HG2 := Lib.hid hG2
      have HR2 := Lib.hid (HR.out.kept hb2)
      have HB2 := Lib.hid (HA.out.trans (hb2.mono HA.out.size))
      have k1 := hG2.cell 1 rfl
      clear hb2 g0 g1 hG2
      go_wp2_with fail
      refine (HGu.out w2 HB2.out).mono ?_
      rintro e w3 ⟨rfl, hb3⟩
      obtain ⟨w4, hw4⟩ : ∃ w4, w4 = w3.alloc (.cells #[.int .i64 sk, .string st, .int .i64 sn, .int .u32 (sa : Int), .int .i64 sb] 28) := ⟨_, rfl⟩
      have hA4 : Below w3.heap.size w3 w4 := by rw [hw4]; exact (Below.refl _ _).alloc (Nat.le_refl _) _
      have HS4 := Lib.hid (show Blk w4 w3.heap.size 28 [.int .i64 sk, .string st, .int .i64 sn, .int .u32 (sa : Int), .int .i64 sb] by rw [hw4]; exact Blk.new _ _ _)
      have hB24 := hb3.trans (hA4.mono hb3.size)
      have HG4 := Lib.hid (HG2.out.kept hB24)
      have HR4 := Lib.hid (HR2.out.kept hB24)
      have HB4 := Lib.hid (HB2.out.trans (hB24.mono HB2.out.size))
      have hg3 : w.heap.size + 1 < w3.heap.size := Nat.lt_of_lt_of_le HR2.out.lt hb3.size
      clear hA4 hB24 hb3 k1
      go_upto_region 5 with fail
      rw [← hw4]
      clear hw4
      obtain ⟨⟨s0, s1, s2, s3, s4⟩, -⟩ := HS4.out.facts5
      go_wp2_with fail
      refine (HL.out w4 HB4.out).mono ?_
      rintro e w5 ⟨rfl, hb5⟩
      obtain ⟨w6, hw6⟩ : ∃ w6, w6 = w5.alloc (.cells #[.string X, .string Y] 23) := ⟨_, rfl⟩
      have hA6 : Below w5.heap.size w5 w6 := by rw [hw6]; exact (Below.refl _ _).alloc (Nat.le_refl _) _
      have hM := show Blk w6 w5.heap.size 23 [.string X, .string Y] by rw [hw6]; exact Blk.new _ _ _
      have hB46 := hb5.trans (hA6.mono hb5.size)
      have hG6 := HG4.out.kept hB46
      have HR6 := Lib.hid (HR4.out.kept hB46)
      have hS6 := HS4.out.kept hB46
      have HB6 := Lib.hid (HB4.out.trans (hB46.mono HB4.out.size))
      obtain ⟨⟨s0, s1, s2, s3, s4⟩, -⟩ := hS6.facts5
      have k0 := hG6.cell 0 rfl
      have k1 := hG6.cell 1 rfl
      have m0 := hM.cell 0 rfl
      have m1 := hM.cell 1 rfl
      clear hA6 hB46 hb5 hM hG6 hS6
      go_upto_region 6 with fail
      rw [← hw6]
      clear hw6
      go_wp2_with (refine wpL_storeBlk (o := ⟨none, _, _, _, _, _⟩) rfl 28 (.tmp 2) (.tmp 34) rfl (w.heap.size + 1) zeroC [.int .i64 0, .string ⟨#[]⟩, .int .i64 0, .int .u32 0, .int .i64 0] rfl rfl HR6.out size_set rfl rfl ?_)
      intro w9 hR9 hg9 hz9
      have hB9 := below_row HB6.out hg9 (by have := HB6.out.size; omega) (Nat.le_succ _)
      go_wp2
      exact bodyPost_ret (ret_cell (load_set hR9 rfl) Tryz.results6 rfl rfl) rfl ⟨rfl, hB9⟩
end Go.Proofs.YthlagpmacnijfaaGreatDoor

namespace Go.Proofs.YthlagpmacnijfaaGreatDoor
open Go.ChangeShapes Go.WideShapes Go.ChangeAt Go.RowKit

theorem own_knob : ownKnob Tryz.prog.godebug = none := by kernel_rfl
theorem laid_out : laidOutB Tryz.prog = true := by kernel_rfl

theorem lt_of_cell {w : World} {a : Addr} {v : Value} (h : w.cell? a = some v) : a.block < w.heap.size := by
  rcases Nat.lt_or_ge a.block w.heap.size with hlt | hge
  · exact hlt
  · simp [World.cell?, Array.getElem?_eq_none hge] at h

theorem byte_wf {n : Int} (h : (Lit.int .u8 n).wf = true) : ((UInt8.ofNat n.toNat).toNat : Int) = n := by
  have hb := bounds_u8 h
  rw [UInt8.toNat_ofNat', Nat.mod_eq_of_lt (by omega)]
  omega
end Go.Proofs.YthlagpmacnijfaaGreatDoor

namespace Go.Proofs.YthlagpmacnijfaaGreatDoor
open Go.ChangeShapes Go.WideShapes Go.ChangeAt Go.RowKit Go.Deep

set_option maxRecDepth 100000 in
theorem open_line {H : Type} {enc : TypeId × Value → H} {W : World} {base : Nat} {v : Value} {d : DataW H} {p : List MemPlace} (hv : Value.okWide Tryz.prog W .any base 23 v)
    (h : DataW.Trod enc Tryz.prog W 0 (fun _ => true) true 23 v d p) : ∃ x : Ln.L, v = lineV x := by
  obtain ⟨v0, v1, y0, y1, n, rfl, rfl, rfl, h0, h1⟩ := Joins.open_agg2 Tryz.underlying23 (by kernel_rfl) (by kernel_rfl) hv h
  obtain ⟨a, e0, _, _⟩ := DataW.trod_string Tryz.underlying9 h0
  obtain ⟨b, e1, _, _⟩ := DataW.trod_string Tryz.underlying9 h1
  injection e0 with e0
  injection e1 with e1
  subst e0 e1
  exact ⟨⟨a, b⟩, rfl⟩
set_option maxRecDepth 100000 in
theorem open_lineD {H : Type} {enc : TypeId × Value → H} {W : World} {base : Nat} {v : Value} {d : DataW H} {p : List MemPlace} (hv : Value.okWide Tryz.prog W .any base 23 v)
    (h : DataW.Trod enc Tryz.prog W 0 (fun _ => true) true 23 v d p) : ∃ x : Ln.L, v = lineV x ∧ d = .agg [.lit (.string x.k.data.toList), .lit (.string x.v.data.toList)] := by
  obtain ⟨v0, v1, y0, y1, n, rfl, rfl, rfl, h0, h1⟩ := Joins.open_agg2 Tryz.underlying23 (by kernel_rfl) (by kernel_rfl) hv h
  obtain ⟨a, e0, rfl, _⟩ := DataW.trod_string Tryz.underlying9 h0
  obtain ⟨b, e1, rfl, _⟩ := DataW.trod_string Tryz.underlying9 h1
  injection e0 with e0
  injection e1 with e1
  subst e0 e1
  exact ⟨⟨a, b⟩, rfl, rfl⟩
/-- What the narrowed rows say of a line. -/
theorem line_small {H : Type} {d : DataW H} {x : Ln.L} (hd : d = .agg [.lit (.string x.k.data.toList), .lit (.string x.v.data.toList)]) (h : Rows.uptoBulk d ≤ 1048576) : x.k.size ≤ 1048576 ∧ x.v.size ≤ 1048576 := by
  rw [hd] at h
  simp only [Rows.uptoBulk, Rows.uptoBulkAll] at h
  have h1 : x.k.data.toList.length = x.k.size := by simp
  have h2 : x.v.data.toList.length = x.v.size := by simp
  omega
theorem cells_line : Tryz.prog.cellsOf 23 = 2 := by kernel_rfl
set_option maxRecDepth 100000 in
theorem open_line2 {H : Type} {enc : TypeId × Value → H} {W : World} {n : Nat} {cs : List Value} {x : DataW H × List MemPlace} (hl : cs.length = 2)
    (h : DataW.trod enc Tryz.prog W 0 (fun _ => true) true n 23 cs = some x) : ∃ r : Ln.L, cs = Ln.lineC r := by
  obtain ⟨xs, m, _, _, _, hxl, hf⟩ := DataW.trod_struct Tryz.underlying23 h
  match xs, hxl, cs, hl with
  | [y0, y1], _, [v0, v1], _ =>
    have g0 := hf 0 _ rfl
    have g1 := hf 1 _ rfl
    change DataW.trod enc Tryz.prog W 0 (fun _ => true) true m 9 [v0] = some y0 at g0
    change DataW.trod enc Tryz.prog W 0 (fun _ => true) true m 9 [v1] = some y1 at g1
    obtain ⟨k, e0, _, _⟩ := DataW.trod_string Tryz.underlying9 g0
    obtain ⟨a, e1, _, _⟩ := DataW.trod_string Tryz.underlying9 g1
    injection e0 with e0
    injection e1 with e1
    subst e0 e1
    exact ⟨⟨k, a⟩, rfl⟩
theorem open_lines {H : Type} {enc : TypeId × Value → H} {W : World} {a : Option Addr} {len cap : Nat} {d : DataW H} {p : List MemPlace}
    (h : DataW.Trod enc Tryz.prog W 0 (fun _ => true) true 52 (.slice a len cap) d p) :
    ∃ l : List Ln.L, LinesAt W W.heap.size a len l ∧ len ≤ cap := by
  obtain ⟨fuel, hf⟩ := h
  rcases open_slice Tryz.underlying52 hf with ⟨hcs, hx⟩ | ⟨x, l, c, m, n, D, Pl, hcs, _, hl, hm, hmm, hx, hall⟩
  · simp [Value.cells] at hcs
    obtain ⟨rfl, rfl, rfl⟩ := hcs
    exact ⟨[], ⟨rfl, fun h => absurd h (by omega)⟩, Nat.le_refl _⟩
  · simp [Value.cells] at hcs
    obtain ⟨rfl, rfl, rfl⟩ := hcs
    rw [if_pos rfl] at hmm
    subst hmm
    rw [cells_line] at hall
    have each : ∀ i, i < m → ∃ r : Ln.L, ∀ j, j < 2 → W.cell? (x.add (i * 2 + j)) = (Ln.lineC r)[j]? := by
      intro i hi
      obtain ⟨cs', h1, h2⟩ := hall i hi
      obtain ⟨_, hlen, hcell⟩ := World.cells?_some h1
      obtain ⟨r, rfl⟩ := open_line2 hlen h2
      exact ⟨r, fun j hj => by rw [← add_add]; exact hcell j hj⟩
    obtain ⟨q, hq⟩ := choose_lt each
    refine ⟨(List.range len).map q, ⟨by simp, fun hpos => ?_⟩, hl⟩
    obtain ⟨b, off, spot⟩ := x
    have h0 := hq 0 (by omega) 0 (by omega)
    have hspot : spot = none := by simpa [Addr.add] using World.cell?_spot h0
    subst hspot
    have hc : ∀ i (_ : i < len) j (_ : j < 2), W.cell? ⟨b, off + i * 2 + j, none⟩ = (Ln.lineC (q i))[j]? := by
      intro i hi j hj
      rw [← hq i (by omega) j hj, Addr.add_lit, Nat.add_assoc]
    refine ⟨b, off, rfl, lt_of_cell (a := ⟨b, off + 0 * 2 + 0, none⟩) (hc 0 hpos 0 (by omega)), fun i hi => ?_⟩
    have hi' : i < len := by simpa using hi
    rw [List.getElem_map, List.getElem_range]
    exact ⟨hc i hi' 0 (by omega), hc i hi' 1 (by omega)⟩
end Go.Proofs.YthlagpmacnijfaaGreatDoor

namespace Go.Proofs.YthlagpmacnijfaaGreatDoor
open Go.RowKit

set_option maxRecDepth 20000 in
set_option maxHeartbeats 4000000 in
theorem law_BatchReads (x : Ln.L) (w : World) (u : x.k.size ≤ 1048576 ∧ x.v.size ≤ 1048576) (hT : ATabs w) :
    Calls Tryz.prog 3 #[lineV x] w fun e w' => e = .returned (.bool true) ∧ Below w.heap.size w w' := by
  have H1 := Lib.hid (fun W hW => batch_Read x W u.2 (hT.code.below hW))
  have H2 := Lib.hid (fun W hW => ref_SettingOf x W u.2 (hT.1.below hW))
  clear hT u
  generalize (Bt.ofLine x).2 = r at *
  generalize (Bt.ofLine x).1 = s at *
  obtain ⟨X, Y⟩ := x
  obtain ⟨sk, st, sn, sa, sb⟩ := s
  unfold setV lineV at H1 H2
  unfold lineV
  obtain ⟨w1, hw1⟩ : ∃ w1, w1 = w.alloc (.cells #[.string X, .string Y] 23) := ⟨_, rfl⟩
  have HA := Lib.hid (show Below w.heap.size w w1 by rw [hw1]; exact (Below.refl _ _).alloc (Nat.le_refl _) _)
  have HG := Lib.hid (show Blk w1 w.heap.size 23 [.string X, .string Y] by rw [hw1]; exact Blk.new _ _ _)
  go_enter Tryz.func3, Tryz.ntmps3
  go_wp2_with fail
  rw [← hw1]
  clear hw1
  refine (H1.out w1 HA.out).mono ?_
  rintro e w3 ⟨rfl, hb3⟩
  obtain ⟨w4, hw4⟩ : ∃ w4, w4 = w3.alloc (.cells #[.int .i64 sk, .string st, .int .i64 sn, .int .u32 (sa : Int), .int .i64 sb] 28) := ⟨_, rfl⟩
  have hA4 : Below w3.heap.size w3 w4 := by rw [hw4]; exact (Below.refl _ _).alloc (Nat.le_refl _) _
  have HM4 := Lib.hid (show Blk w4 w3.heap.size 28 [.int .i64 sk, .string st, .int .i64 sn, .int .u32 (sa : Int), .int .i64 sb] by rw [hw4]; exact Blk.new _ _ _)
  have hB24 := hb3.trans (hA4.mono hb3.size)
  have HG4 := Lib.hid (HG.out.kept hB24)
  have HA4 := Lib.hid (HA.out.trans (hB24.mono HA.out.size))
  have g0 := HG4.out.cell 0 rfl
  have g1 := HG4.out.cell 1 rfl
  clear hA4 hB24 hb3 H1
  go_upto_region 2 with fail
  rw [← hw4]
  clear hw4
  go_wp2_with fail
  refine (H2.out w4 HA4.out).mono ?_
  rintro e w6 ⟨rfl, hb6⟩
  obtain ⟨w7, hw7⟩ : ∃ w7, w7 = w6.alloc (.cells #[.int .i64 sk, .string st, .int .i64 sn, .int .u32 (sa : Int), .int .i64 sb] 28) := ⟨_, rfl⟩
  have hA7 : Below w6.heap.size w6 w7 := by rw [hw7]; exact (Below.refl _ _).alloc (Nat.le_refl _) _
  have hM := show Blk w7 w6.heap.size 28 [.int .i64 sk, .string st, .int .i64 sn, .int .u32 (sa : Int), .int .i64 sb] by rw [hw7]; exact Blk.new _ _ _
  have hB57 := hb6.trans (hA7.mono hb6.size)
  have hM5 := HM4.out.kept hB57
  have HA7 := Lib.hid (HA4.out.trans (hB57.mono HA4.out.size))
  obtain ⟨m0, m1, m2, m3, m4⟩ := hM.facts5.1
  obtain ⟨k0, k1, k2, k3, k4⟩ := hM5.facts5.1
  clear hA7 hM hB57 hM5 hb6 g0 g1 H2
  go_upto_region 3 with fail
  rw [← hw7]
  clear hw7
  go_wp2
  go_ret
  exact ⟨rfl, HA7.out⟩
end Go.Proofs.YthlagpmacnijfaaGreatDoor

namespace Go.Proofs.YthlagpmacnijfaaGreatDoor
open Go.ChangeShapes Go.WideShapes Go.ChangeAt Go.RowKit

theorem gPow : Tryz.prog.globalNamed "internal/strconv.uint64pow10" = some 4 := by kernel_rfl
theorem gPowType : (Tryz.prog.globals[4]?).map (·.type) = some 147 := by kernel_rfl
theorem cellsPow : Tryz.prog.cellsOf 147 = 20 := by kernel_rfl
theorem cellsU64 : Tryz.prog.cellsOf 120 = 1 := by kernel_rfl
theorem gRange : Tryz.prog.globalNamed "strconv.ErrRange" = some 3 := by kernel_rfl
theorem gRangeType : (Tryz.prog.globals[3]?).map (·.type) = some 62 := by kernel_rfl
theorem gSyntax : Tryz.prog.globalNamed "strconv.ErrSyntax" = some 2 := by kernel_rfl
theorem gSyntaxType : (Tryz.prog.globals[2]?).map (·.type) = some 62 := by kernel_rfl
theorem cellsErr : Tryz.prog.cellsOf 145 = 1 := by kernel_rfl
theorem cellsStr : Tryz.prog.cellsOf 9 = 1 := by kernel_rfl
theorem star_err : "*" ++ "errors.errorString" = "*errors.errorString" := by decide
theorem row_err (u : TypeId) (h : Tryz.prog.typeName? 3 u = some "*errors.errorString") : u = 143 :=
  typeName_ptr_named (nm := "errors.errorString") (by rw [star_err]; kernel_rfl) (by kernel_rfl) (by decide) u (by rw [star_err]; exact h)
theorem pow_of_head {W : World} {r : List (String × DataW Unit)} (h : laidMet Tryz.prog (("internal/strconv.uint64pow10", Rows.laid_internal_strconv_uint64pow10) :: r) W) : PowTab W :=
  Lib.tabIs_of_head (k := .u64) (zs := Lib.pow10Tab) gPow gPowType Tryz.underlying147 Tryz.underlying120 cellsU64 cellsPow h
theorem err_of_head {W : World} {n : String} {g : Nat} {text : List UInt8} {r : List (String × DataW Unit)} (hg : Tryz.prog.globalNamed n = some g) (ht : (Tryz.prog.globals[g]?).map (·.type) = some 62)
    (h : laidMet Tryz.prog ((n, .iface "*errors.errorString" (.ptr (.agg [.lit (.string text)]))) :: r) W) : ∃ t p, W.cell? ⟨g, 0, none⟩ = some (.iface t p) := by
  obtain ⟨a, s, hv, _⟩ := laid_sentinel h hg ht Tryz.underlying62 row_err Tryz.underlying143 Tryz.underlying145 rfl rfl Tryz.underlying9 cellsErr cellsStr
  exact ⟨_, _, World.var?_cell hg hv 0⟩
theorem max_of_shaped {W : World} (h : W.ShapedOpen Tryz.prog) : MaxTab W := Tryz.laysM145.s1_3 W h

/-- The cells of a datum. -/
def flat : Nat → DataW Unit → List Value
  | n + 1, .agg ps => ps.flatMap (flat n)
  | _, .lit (.int k z) => [.int k z]
  | _, .lit (.string s) => [.string ⟨s.toArray⟩]
  | _, _ => []
/-- A block's cells anew. -/
def put (vs : List Value) : Obj → Obj
  | .cells _ t frozen => .cells vs.toArray t frozen
  | o => o
noncomputable def low : Nat := (World.holding Tryz.prog default ⟨#[], #[], []⟩).heap.size
abbrev rangeS : ByteArray := ⟨#[118, 97, 108, 117, 101, 32, 111, 117, 116, 32, 111, 102, 32, 114, 97, 110, 103, 101]⟩
abbrev syntaxS : ByteArray := ⟨#[105, 110, 118, 97, 108, 105, 100, 32, 115, 121, 110, 116, 97, 120]⟩
end Go.Proofs.YthlagpmacnijfaaGreatDoor

namespace Go.Proofs.YthlagpmacnijfaaGreatDoor
open Go.ChangeShapes Go.WideShapes Go.ChangeAt Go.RowKit

theorem gShapes : Tryz.prog.globalNamed "cattlecreep/batch.shapes" = some 0 := by kernel_rfl
theorem gShapesType : (Tryz.prog.globals[0]?).map (·.type) = some 58 := by kernel_rfl
theorem cellsShapes : Tryz.prog.cellsOf 58 = 22 := by kernel_rfl
theorem cellsShape : Tryz.prog.cellsOf 57 = 2 := by kernel_rfl
/-- The table as the row lists it. -/
theorem shapes_list : (Rows.laid_cattlecreep_batch_shapes : DataW Unit) = .agg ((List.range 11).map fun k => .agg [.lit (.string (Bt.nameOf k).data.toList), .lit (.int .i64 (Bt.fld (k : Int) : Int))]) := by kernel_rfl
set_option maxRecDepth 100000 in
theorem shape_cells {W : World} {base : Nat} {sp : Nat → Bool} {held : Bool} {n : Nat} {cs : List Value} {x : DataW Unit × List MemPlace} {s : ByteArray} {z : Int} {enc : TypeId × Value → Unit} (hl : cs.length = 2)
    (h : DataW.trod enc Tryz.prog W base sp held n 57 cs = some x) (hx : x.1 = .agg [.lit (.string s.data.toList), .lit (.int .i64 z)]) : cs = [.string s, .int .i64 z] := by
  obtain ⟨xs, m, _, ex, _, hxl, hf⟩ := DataW.trod_struct Tryz.underlying57 h
  match xs, hxl, cs, hl with
  | [y0, y1], _, [v0, v1], _ =>
    have g0 := hf 0 _ rfl
    have g1 := hf 1 _ rfl
    change DataW.trod enc Tryz.prog W base sp held m 9 [v0] = some y0 at g0
    change DataW.trod enc Tryz.prog W base sp held m 3 [v1] = some y1 at g1
    obtain ⟨k, e0, d0, _⟩ := DataW.trod_string Tryz.underlying9 g0
    obtain ⟨a, e1, d1, _⟩ := DataW.trod_int Tryz.underlying3 g1
    injection e0 with e0
    injection e1 with e1
    subst e0 e1
    rw [ex] at hx
    simp only [List.map_cons, List.map_nil, DataW.agg.injEq, List.cons.injEq, and_true] at hx
    obtain ⟨h0, h1⟩ := hx
    rw [d0] at h0
    rw [d1] at h1
    injection h0 with h0
    injection h0 with h0
    injection h1 with h1
    injection h1 with _ h1
    rw [h1, show k = s from WideShapes.bytes_inj (by exact h0)]
set_option maxRecDepth 100000 in
theorem shapes_of_head {W : World} {r : List (String × DataW Unit)} (h : laidMet Tryz.prog (("cattlecreep/batch.shapes", Rows.laid_cattlecreep_batch_shapes) :: r) W) : ShapeTab W := by
  obtain ⟨ps, ⟨g', t', csa, fuel, p, q, hg', ht', hvar, hd, _, _⟩, _⟩ := h
  obtain rfl := Option.some.inj (gShapes.symm.trans hg')
  obtain rfl := Option.some.inj (gShapesType.symm.trans ht')
  rw [shapes_list] at hd
  obtain ⟨cs, hcs⟩ : ∃ cs, cs = csa.toList := ⟨_, rfl⟩
  rw [← hcs] at hd
  obtain ⟨xs, m, _, ex, hcl, hxl, hf⟩ := DataW.trod_array Tryz.underlying58 hd
  rw [cellsShapes] at hcl
  rw [cellsShape] at hf
  have e3 := (DataW.agg.inj (Prod.mk.inj ex).1).symm
  have key : ∀ k, k < 11 → (cs.drop (k * 2)).take 2 = [.string (Bt.nameOf k), .int .i64 (Bt.fld (k : Int) : Int)] := by
    intro k hk
    have hE := hf k hk
    rw [List.getElem?_eq_getElem (by omega)] at hE
    refine shape_cells (by rw [List.length_take, List.length_drop]; omega) hE ?_
    have e4 := congrArg (·[k]?) e3
    simp only [List.getElem?_map] at e4
    rw [List.getElem?_eq_getElem (by omega), List.getElem?_eq_getElem (by rw [List.length_range]; omega)] at e4
    simpa using e4
  have hc : ∀ i, i < 22 → W.cell? ⟨0, i, none⟩ = cs[i]? := by
    intro i hi
    have := World.var?_cell gShapes hvar i
    rw [hcs]
    simpa using this
  have hat : ∀ k, k < 11 → W.cell? ⟨0, k * 2, none⟩ = some (.string (Bt.nameOf k)) ∧ W.cell? ⟨0, k * 2 + 1, none⟩ = some (.int .i64 (Bt.fld (k : Int) : Int)) := by
    intro k hk
    have hk2 := key k hk
    have a0 := congrArg (·[0]?) hk2
    have a1 := congrArg (·[1]?) hk2
    simp only [List.getElem?_take, List.getElem?_drop] at a0 a1
    rw [hc _ (by omega), hc _ (by omega)]
    exact ⟨by simpa using a0, by simpa using a1⟩
  exact ⟨lt_of_cell (hat 0 (by decide)).1, hat⟩

/-- A WORLD FOR THE WITNESS: the settled one, the listed variables holding what their initialisers lay. -/
noncomputable def laidWorld (os : Os) : World :=
  let w0 := World.holding Tryz.prog os ⟨#[.cells #[.string rangeS] 145, .cells #[.string syntaxS] 145], #[], []⟩
  let h1 := w0.heap.modify 7 (put (flat 4 Rows.laid_math_bits_deBruijn32tab))
  let h2 := h1.modify 8 (put (flat 4 Rows.laid_math_bits_deBruijn64tab))
  let h3 := h2.modify 4 (put (flat 4 Rows.laid_internal_strconv_uint64pow10))
  let h4 := h3.modify 6 (put (flat 4 Rows.laid_unicode_utf8_acceptRanges))
  let h5 := h4.modify 3 (put [.iface 143 (.pointer (some ⟨low, 0, none⟩))])
  let h6 := h5.modify 2 (put [.iface 143 (.pointer (some ⟨low + 1, 0, none⟩))])
  let h7 := h6.modify 5 (put (flat 4 Rows.laid_unicode_utf8_first))
  let h8 := h7.modify 0 (put (flat 4 Rows.laid_cattlecreep_batch_shapes))
  { w0 with heap := h8 }
abbrev laid8 : List (String × DataW Unit) := [("math/bits.deBruijn32tab", Rows.laid_math_bits_deBruijn32tab), ("math/bits.deBruijn64tab", Rows.laid_math_bits_deBruijn64tab), ("internal/strconv.uint64pow10", Rows.laid_internal_strconv_uint64pow10), ("unicode/utf8.acceptRanges", Rows.laid_unicode_utf8_acceptRanges), ("strconv.ErrRange", Rows.laid_strconv_ErrRange), ("strconv.ErrSyntax", Rows.laid_strconv_ErrSyntax), ("cattlecreep/batch.shapes", Rows.laid_cattlecreep_batch_shapes), ("unicode/utf8.first", Rows.laid_unicode_utf8_first)]
/-- WHAT THE ROWS' LISTS GIVE. -/
theorem tabs8 {W : World} (h : laidMetH Tryz.prog laid8 W) (hs : W.ShapedOpen Tryz.prog) : ATabs W := by
  rw [MakeChecks.laidMetH_plain _ _ _ (by kernel_rfl)] at h
  exact ⟨⟨pow_of_head h.tail.tail, ⟨err_of_head gSyntax gSyntaxType h.tail.tail.tail.tail.tail, err_of_head gRange gRangeType h.tail.tail.tail.tail⟩, max_of_shaped hs⟩, shapes_of_head h.tail.tail.tail.tail.tail.tail⟩
theorem laid8_met (os : Os) (args : Array Value) : laidMet Tryz.prog laid8 ((laidWorld os).forCall (fun _ _ => 0) ⟨#[], args, []⟩).memory :=
  laidMet_of_run3 300 (by kernel_rfl) (by kernel_rfl) (by kernel_rfl)
end Go.Proofs.YthlagpmacnijfaaGreatDoor
