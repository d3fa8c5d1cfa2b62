/- Rows of settings in a block: one of them stored; made with zeros. -/
import Derived.Test.YthlagpmacnijfaaGreatDoorSp10
import Derived.Test.YthlagpmacnijfaaGreatDoorSp11
import Derived.Laws.StructEq
import Derived.Deep.DeepCutAuto
import Derived.Test.YthlagpmacnijfaaGreatDoorBatchBits
import Derived.Test.YthlagpmacnijfaaGreatDoorSp04
import Derived.Test.YthlagpmacnijfaaGreatDoorSp05
import Derived.Laws.MakeOwn
import Derived.Laws.OwnMore
import Derived.Laws.CopyRow
namespace Go.Proofs.YthlagpmacnijfaaGreatDoor
open Go.RowKit

theorem two_sets (w : World) (xs ys : List Value) (t : TypeId) : Below w.heap.size w ((w.alloc (.cells xs.toArray t)).alloc (.cells ys.toArray t)) ∧ Blk ((w.alloc (.cells xs.toArray t)).alloc (.cells ys.toArray t)) w.heap.size t xs ∧ Blk ((w.alloc (.cells xs.toArray t)).alloc (.cells ys.toArray t)) (w.heap.size + 1) t ys := by
  refine ⟨((Below.refl _ _).alloc (Nat.le_refl _) _).alloc (by simp) _, (Blk.new w t xs).kept ((Below.refl _ _).alloc (Nat.le_refl _) _), ?_⟩
  have := Blk.new (w.alloc (.cells xs.toArray t)) t ys
  rwa [show (w.alloc (.cells xs.toArray t)).heap.size = w.heap.size + 1 by simp] at this

set_option maxRecDepth 20000 in
set_option maxHeartbeats 8000000 in
theorem guess_none (k : Int) (hk : k = 3 ∨ k = 5 ∨ k = 9) (v : ByteArray) (w : World) (hT : BTabs w) :
    Calls Tryz.prog 14 #[.int .i64 k, .string v] w fun e w' => e = .returned (setV ⟨k, ⟨#[]⟩, 0, 0, 0⟩) ∧ Below w.heap.size w w' := by
  unfold setV
  rcases hk with rfl | rfl | rfl
  · have hS := two_sets w zeroC [.int .i64 3, .string ⟨#[]⟩, .int .i64 0, .int .u32 0, .int .i64 0] 28
    obtain ⟨w1, hw1⟩ : ∃ w1, w1 = (w.alloc (.cells zeroC.toArray 28)).alloc (.cells [.int .i64 3, .string ⟨#[]⟩, .int .i64 0, .int .u32 0, .int .i64 0].toArray 28) := ⟨_, rfl⟩
    rw [← hw1] at hS
    obtain ⟨hA, hR, hG⟩ := hS
    have HA := Lib.hid hA
    have HR := Lib.hid hR
    have HG := Lib.hid hG
    have c := (hT.2.below hA).at 3 (by decide) 7 0 rfl rfl
    have hlt := (hT.2.below hA).1
    have hgl := hG.lt
    have hrl := hR.lt
    have hw1' : w1 = (w.alloc (.cells #[.int .i64 0, .string ⟨#[]⟩, .int .i64 0, .int .u32 0, .int .i64 0] 28)).alloc (.cells #[.int .i64 3, .string ⟨#[]⟩, .int .i64 0, .int .u32 0, .int .i64 0] 28) := hw1
    obtain ⟨⟨g0, g1, g2, g3, g4⟩, ⟨z0, z1, z2, z3, z4⟩⟩ := hG.facts5
    clear hA hR hG hw1
    clear hT
    go_enter Tryz.func14, Tryz.ntmps14
    go_upto_region 2 with fail
    rw [← hw1']
    clear hw1'
    go_wp2_with (refine wpL_storeBlk (o := ⟨none, _, _, _, _, _⟩) rfl 28 (.tmp 4) (.tmp 38) rfl w.heap.size zeroC [.int .i64 3, .string ⟨#[]⟩, .int .i64 0, .int .u32 0, .int .i64 0] rfl rfl HR.out size_set rfl rfl ?_)
    intro w9 hR9 hg9 hz9
    have hB9 := below_row HA.out hg9 (by have := HA.out.size; omega) (Nat.le_refl _)
    go_wp2
    exact bodyPost_ret (ret_cell1 (load_set hR9 rfl) Tryz.results14 rfl) rfl ⟨rfl, hB9⟩
  · have hS := two_sets w zeroC [.int .i64 5, .string ⟨#[]⟩, .int .i64 0, .int .u32 0, .int .i64 0] 28
    obtain ⟨w1, hw1⟩ : ∃ w1, w1 = (w.alloc (.cells zeroC.toArray 28)).alloc (.cells [.int .i64 5, .string ⟨#[]⟩, .int .i64 0, .int .u32 0, .int .i64 0].toArray 28) := ⟨_, rfl⟩
    rw [← hw1] at hS
    obtain ⟨hA, hR, hG⟩ := hS
    have HA := Lib.hid hA
    have HR := Lib.hid hR
    have HG := Lib.hid hG
    have c := (hT.2.below hA).at 5 (by decide) 11 0 rfl rfl
    have hlt := (hT.2.below hA).1
    have hgl := hG.lt
    have hrl := hR.lt
    have hw1' : w1 = (w.alloc (.cells #[.int .i64 0, .string ⟨#[]⟩, .int .i64 0, .int .u32 0, .int .i64 0] 28)).alloc (.cells #[.int .i64 5, .string ⟨#[]⟩, .int .i64 0, .int .u32 0, .int .i64 0] 28) := hw1
    obtain ⟨⟨g0, g1, g2, g3, g4⟩, ⟨z0, z1, z2, z3, z4⟩⟩ := hG.facts5
    clear hA hR hG hw1
    clear hT
    go_enter Tryz.func14, Tryz.ntmps14
    go_upto_region 2 with fail
    rw [← hw1']
    clear hw1'
    go_wp2_with (refine wpL_storeBlk (o := ⟨none, _, _, _, _, _⟩) rfl 28 (.tmp 4) (.tmp 38) rfl w.heap.size zeroC [.int .i64 5, .string ⟨#[]⟩, .int .i64 0, .int .u32 0, .int .i64 0] rfl rfl HR.out size_set rfl rfl ?_)
    intro w9 hR9 hg9 hz9
    have hB9 := below_row HA.out hg9 (by have := HA.out.size; omega) (Nat.le_refl _)
    go_wp2
    exact bodyPost_ret (ret_cell1 (load_set hR9 rfl) Tryz.results14 rfl) rfl ⟨rfl, hB9⟩
  · have hS := two_sets w zeroC [.int .i64 9, .string ⟨#[]⟩, .int .i64 0, .int .u32 0, .int .i64 0] 28
    obtain ⟨w1, hw1⟩ : ∃ w1, w1 = (w.alloc (.cells zeroC.toArray 28)).alloc (.cells [.int .i64 9, .string ⟨#[]⟩, .int .i64 0, .int .u32 0, .int .i64 0].toArray 28) := ⟨_, rfl⟩
    rw [← hw1] at hS
    obtain ⟨hA, hR, hG⟩ := hS
    have HA := Lib.hid hA
    have HR := Lib.hid hR
    have HG := Lib.hid hG
    have c := (hT.2.below hA).at 9 (by decide) 19 0 rfl rfl
    have hlt := (hT.2.below hA).1
    have hgl := hG.lt
    have hrl := hR.lt
    have hw1' : w1 = (w.alloc (.cells #[.int .i64 0, .string ⟨#[]⟩, .int .i64 0, .int .u32 0, .int .i64 0] 28)).alloc (.cells #[.int .i64 9, .string ⟨#[]⟩, .int .i64 0, .int .u32 0, .int .i64 0] 28) := hw1
    obtain ⟨⟨g0, g1, g2, g3, g4⟩, ⟨z0, z1, z2, z3, z4⟩⟩ := hG.facts5
    clear hA hR hG hw1
    clear hT
    go_enter Tryz.func14, Tryz.ntmps14
    go_upto_region 2 with fail
    rw [← hw1']
    clear hw1'
    go_wp2_with (refine wpL_storeBlk (o := ⟨none, _, _, _, _, _⟩) rfl 28 (.tmp 4) (.tmp 38) rfl w.heap.size zeroC [.int .i64 9, .string ⟨#[]⟩, .int .i64 0, .int .u32 0, .int .i64 0] rfl rfl HR.out size_set rfl rfl ?_)
    intro w9 hR9 hg9 hz9
    have hB9 := below_row HA.out hg9 (by have := HA.out.size; omega) (Nat.le_refl _)
    go_wp2
    exact bodyPost_ret (ret_cell1 (load_set hR9 rfl) Tryz.results14 rfl) rfl ⟨rfl, hB9⟩
set_option maxRecDepth 20000 in
set_option maxHeartbeats 8000000 in
theorem guess_text (k : Int) (hk : k = 1 ∨ k = 4 ∨ k = 7) (v : ByteArray) (w : World) (hT : BTabs w) :
    Calls Tryz.prog 14 #[.int .i64 k, .string v] w fun e w' => e = .returned (setV ⟨k, v, 0, 0, 0⟩) ∧ Below w.heap.size w w' := by
  unfold setV
  rcases hk with rfl | rfl | rfl
  · have hS := two_sets w zeroC [.int .i64 1, .string ⟨#[]⟩, .int .i64 0, .int .u32 0, .int .i64 0] 28
    obtain ⟨w1, hw1⟩ : ∃ w1, w1 = (w.alloc (.cells zeroC.toArray 28)).alloc (.cells [.int .i64 1, .string ⟨#[]⟩, .int .i64 0, .int .u32 0, .int .i64 0].toArray 28) := ⟨_, rfl⟩
    rw [← hw1] at hS
    obtain ⟨hA, hR, hG⟩ := hS
    have HA := Lib.hid hA
    have HR := Lib.hid hR
    have HG := Lib.hid hG
    have c := (hT.2.below hA).at 1 (by decide) 3 1 rfl rfl
    have hlt := (hT.2.below hA).1
    have hgl := hG.lt
    have hrl := hR.lt
    have hw1' : w1 = (w.alloc (.cells #[.int .i64 0, .string ⟨#[]⟩, .int .i64 0, .int .u32 0, .int .i64 0] 28)).alloc (.cells #[.int .i64 1, .string ⟨#[]⟩, .int .i64 0, .int .u32 0, .int .i64 0] 28) := hw1
    obtain ⟨⟨g0, g1, g2, g3, g4⟩, ⟨z0, z1, z2, z3, z4⟩⟩ := hG.facts5
    clear hA hR hG hw1
    clear hT
    have HG2 := Lib.hid (HG.out.set (by decide) 1 (.string v))
    have HR2 := Lib.hid (HR.out.other (k := w.heap.size + 1) (i := 1) (by omega) (.string v))
    have HA2 := Lib.hid (HA.out.setCell (p := ⟨w.heap.size + 1, 1, none⟩) (Nat.le_succ _) (.string v))
    go_enter Tryz.func14, Tryz.ntmps14
    go_upto_region 2 with fail
    rw [← hw1']
    clear hw1'
    go_wp2_with (refine wpL_storeBlk (o := ⟨none, _, _, _, _, _⟩) rfl 28 (.tmp 4) (.tmp 38) rfl w.heap.size zeroC [.int .i64 1, .string v, .int .i64 0, .int .u32 0, .int .i64 0] rfl rfl HR2.out size_set rfl rfl ?_)
    intro w9 hR9 hg9 hz9
    have hB9 := below_row HA2.out hg9 (by have := HA2.out.size; omega) (Nat.le_refl _)
    go_wp2
    exact bodyPost_ret (ret_cell1 (load_set hR9 rfl) Tryz.results14 rfl) rfl ⟨rfl, hB9⟩
  · have hS := two_sets w zeroC [.int .i64 4, .string ⟨#[]⟩, .int .i64 0, .int .u32 0, .int .i64 0] 28
    obtain ⟨w1, hw1⟩ : ∃ w1, w1 = (w.alloc (.cells zeroC.toArray 28)).alloc (.cells [.int .i64 4, .string ⟨#[]⟩, .int .i64 0, .int .u32 0, .int .i64 0].toArray 28) := ⟨_, rfl⟩
    rw [← hw1] at hS
    obtain ⟨hA, hR, hG⟩ := hS
    have HA := Lib.hid hA
    have HR := Lib.hid hR
    have HG := Lib.hid hG
    have c := (hT.2.below hA).at 4 (by decide) 9 1 rfl rfl
    have hlt := (hT.2.below hA).1
    have hgl := hG.lt
    have hrl := hR.lt
    have hw1' : w1 = (w.alloc (.cells #[.int .i64 0, .string ⟨#[]⟩, .int .i64 0, .int .u32 0, .int .i64 0] 28)).alloc (.cells #[.int .i64 4, .string ⟨#[]⟩, .int .i64 0, .int .u32 0, .int .i64 0] 28) := hw1
    obtain ⟨⟨g0, g1, g2, g3, g4⟩, ⟨z0, z1, z2, z3, z4⟩⟩ := hG.facts5
    clear hA hR hG hw1
    clear hT
    have HG2 := Lib.hid (HG.out.set (by decide) 1 (.string v))
    have HR2 := Lib.hid (HR.out.other (k := w.heap.size + 1) (i := 1) (by omega) (.string v))
    have HA2 := Lib.hid (HA.out.setCell (p := ⟨w.heap.size + 1, 1, none⟩) (Nat.le_succ _) (.string v))
    go_enter Tryz.func14, Tryz.ntmps14
    go_upto_region 2 with fail
    rw [← hw1']
    clear hw1'
    go_wp2_with (refine wpL_storeBlk (o := ⟨none, _, _, _, _, _⟩) rfl 28 (.tmp 4) (.tmp 38) rfl w.heap.size zeroC [.int .i64 4, .string v, .int .i64 0, .int .u32 0, .int .i64 0] rfl rfl HR2.out size_set rfl rfl ?_)
    intro w9 hR9 hg9 hz9
    have hB9 := below_row HA2.out hg9 (by have := HA2.out.size; omega) (Nat.le_refl _)
    go_wp2
    exact bodyPost_ret (ret_cell1 (load_set hR9 rfl) Tryz.results14 rfl) rfl ⟨rfl, hB9⟩
  · have hS := two_sets w zeroC [.int .i64 7, .string ⟨#[]⟩, .int .i64 0, .int .u32 0, .int .i64 0] 28
    obtain ⟨w1, hw1⟩ : ∃ w1, w1 = (w.alloc (.cells zeroC.toArray 28)).alloc (.cells [.int .i64 7, .string ⟨#[]⟩, .int .i64 0, .int .u32 0, .int .i64 0].toArray 28) := ⟨_, rfl⟩
    rw [← hw1] at hS
    obtain ⟨hA, hR, hG⟩ := hS
    have HA := Lib.hid hA
    have HR := Lib.hid hR
    have HG := Lib.hid hG
    have c := (hT.2.below hA).at 7 (by decide) 15 1 rfl rfl
    have hlt := (hT.2.below hA).1
    have hgl := hG.lt
    have hrl := hR.lt
    have hw1' : w1 = (w.alloc (.cells #[.int .i64 0, .string ⟨#[]⟩, .int .i64 0, .int .u32 0, .int .i64 0] 28)).alloc (.cells #[.int .i64 7, .string ⟨#[]⟩, .int .i64 0, .int .u32 0, .int .i64 0] 28) := hw1
    obtain ⟨⟨g0, g1, g2, g3, g4⟩, ⟨z0, z1, z2, z3, z4⟩⟩ := hG.facts5
    clear hA hR hG hw1
    clear hT
    have HG2 := Lib.hid (HG.out.set (by decide) 1 (.string v))
    have HR2 := Lib.hid (HR.out.other (k := w.heap.size + 1) (i := 1) (by omega) (.string v))
    have HA2 := Lib.hid (HA.out.setCell (p := ⟨w.heap.size + 1, 1, none⟩) (Nat.le_succ _) (.string v))
    go_enter Tryz.func14, Tryz.ntmps14
    go_upto_region 2 with fail
    rw [← hw1']
    clear hw1'
    go_wp2_with (refine wpL_storeBlk (o := ⟨none, _, _, _, _, _⟩) rfl 28 (.tmp 4) (.tmp 38) rfl w.heap.size zeroC [.int .i64 7, .string v, .int .i64 0, .int .u32 0, .int .i64 0] rfl rfl HR2.out size_set rfl rfl ?_)
    intro w9 hR9 hg9 hz9
    have hB9 := below_row HA2.out hg9 (by have := HA2.out.size; omega) (Nat.le_refl _)
    go_wp2
    exact bodyPost_ret (ret_cell1 (load_set hR9 rfl) Tryz.results14 rfl) rfl ⟨rfl, hB9⟩
set_option maxRecDepth 20000 in
set_option maxHeartbeats 8000000 in
theorem guess_shared (v : ByteArray) (w : World) (hT : BTabs w) :
    Calls Tryz.prog 14 #[.int .i64 6, .string v] w fun e w' => e = .returned (setV ⟨6, if v = Bt.zeros then ⟨#[]⟩ else v, 0, 0, 0⟩) ∧ Below w.heap.size w w' := by
  rw [Bt.zeros_lit]
  by_cases hz : v = ⟨#[48, 48, 48, 48, 48, 48, 48, 48, 48, 48, 48, 48, 48, 48, 48, 48, 48, 48, 48, 48, 48, 48, 48, 48, 48, 48, 48, 48, 48, 48, 48, 48, 48, 48, 48, 48, 48, 48, 48, 48, 48, 48, 48, 48, 48, 48, 48, 48, 48, 48, 48, 48, 48, 48, 48, 48, 48, 48, 48, 48, 48, 48, 48, 48]⟩
  · rw [if_pos hz]
    have dz : (v.toList == [48, 48, 48, 48, 48, 48, 48, 48, 48, 48, 48, 48, 48, 48, 48, 48, 48, 48, 48, 48, 48, 48, 48, 48, 48, 48, 48, 48, 48, 48, 48, 48, 48, 48, 48, 48, 48, 48, 48, 48, 48, 48, 48, 48, 48, 48, 48, 48, 48, 48, 48, 48, 48, 48, 48, 48, 48, 48, 48, 48, 48, 48, 48, 48]) = true := by rw [hz, ByteArray.toList_eq]; decide
    clear hz
    unfold setV
    have hS := two_sets w zeroC [.int .i64 6, .string ⟨#[]⟩, .int .i64 0, .int .u32 0, .int .i64 0] 28
    obtain ⟨w1, hw1⟩ : ∃ w1, w1 = (w.alloc (.cells zeroC.toArray 28)).alloc (.cells [.int .i64 6, .string ⟨#[]⟩, .int .i64 0, .int .u32 0, .int .i64 0].toArray 28) := ⟨_, rfl⟩
    rw [← hw1] at hS
    obtain ⟨hA, hR, hG⟩ := hS
    have HA := Lib.hid hA
    have HR := Lib.hid hR
    have HG := Lib.hid hG
    have c := (hT.2.below hA).at 6 (by decide) 13 1 rfl rfl
    have hlt := (hT.2.below hA).1
    have hgl := hG.lt
    have hrl := hR.lt
    have hw1' : w1 = (w.alloc (.cells #[.int .i64 0, .string ⟨#[]⟩, .int .i64 0, .int .u32 0, .int .i64 0] 28)).alloc (.cells #[.int .i64 6, .string ⟨#[]⟩, .int .i64 0, .int .u32 0, .int .i64 0] 28) := hw1
    obtain ⟨⟨g0, g1, g2, g3, g4⟩, ⟨z0, z1, z2, z3, z4⟩⟩ := hG.facts5
    clear hA hR hG hw1
    clear hT
    go_enter Tryz.func14, Tryz.ntmps14
    go_upto_region 2 with fail
    rw [← hw1']
    clear hw1'
    go_wp2_with (refine wpL_storeBlk (o := ⟨none, _, _, _, _, _⟩) rfl 28 (.tmp 4) (.tmp 38) rfl w.heap.size zeroC [.int .i64 6, .string ⟨#[]⟩, .int .i64 0, .int .u32 0, .int .i64 0] rfl rfl HR.out size_set rfl rfl ?_)
    intro w9 hR9 hg9 hz9
    have hB9 := below_row HA.out hg9 (by have := HA.out.size; omega) (Nat.le_refl _)
    go_wp2
    exact bodyPost_ret (ret_cell1 (load_set hR9 rfl) Tryz.results14 rfl) rfl ⟨rfl, hB9⟩
  · rw [if_neg hz]
    have dz : (v.toList == [48, 48, 48, 48, 48, 48, 48, 48, 48, 48, 48, 48, 48, 48, 48, 48, 48, 48, 48, 48, 48, 48, 48, 48, 48, 48, 48, 48, 48, 48, 48, 48, 48, 48, 48, 48, 48, 48, 48, 48, 48, 48, 48, 48, 48, 48, 48, 48, 48, 48, 48, 48, 48, 48, 48, 48, 48, 48, 48, 48, 48, 48, 48, 48]) = false := by
      refine beq_eq_false_iff_ne.2 fun e => hz ?_
      rw [ByteArray.toList_eq] at e
      exact WideShapes.bytes_inj (by rw [e])
    clear hz
    unfold setV
    have hS := two_sets w zeroC [.int .i64 6, .string ⟨#[]⟩, .int .i64 0, .int .u32 0, .int .i64 0] 28
    obtain ⟨w1, hw1⟩ : ∃ w1, w1 = (w.alloc (.cells zeroC.toArray 28)).alloc (.cells [.int .i64 6, .string ⟨#[]⟩, .int .i64 0, .int .u32 0, .int .i64 0].toArray 28) := ⟨_, rfl⟩
    rw [← hw1] at hS
    obtain ⟨hA, hR, hG⟩ := hS
    have HA := Lib.hid hA
    have HR := Lib.hid hR
    have HG := Lib.hid hG
    have c := (hT.2.below hA).at 6 (by decide) 13 1 rfl rfl
    have hlt := (hT.2.below hA).1
    have hgl := hG.lt
    have hrl := hR.lt
    have hw1' : w1 = (w.alloc (.cells #[.int .i64 0, .string ⟨#[]⟩, .int .i64 0, .int .u32 0, .int .i64 0] 28)).alloc (.cells #[.int .i64 6, .string ⟨#[]⟩, .int .i64 0, .int .u32 0, .int .i64 0] 28) := hw1
    obtain ⟨⟨g0, g1, g2, g3, g4⟩, ⟨z0, z1, z2, z3, z4⟩⟩ := hG.facts5
    clear hA hR hG hw1
    clear hT
    have HG2 := Lib.hid (HG.out.set (by decide) 1 (.string v))
    have HR2 := Lib.hid (HR.out.other (k := w.heap.size + 1) (i := 1) (by omega) (.string v))
    have HA2 := Lib.hid (HA.out.setCell (p := ⟨w.heap.size + 1, 1, none⟩) (Nat.le_succ _) (.string v))
    go_enter Tryz.func14, Tryz.ntmps14
    go_upto_region 2 with fail
    rw [← hw1']
    clear hw1'
    go_wp2_with (refine wpL_storeBlk (o := ⟨none, _, _, _, _, _⟩) rfl 28 (.tmp 4) (.tmp 38) rfl w.heap.size zeroC [.int .i64 6, .string v, .int .i64 0, .int .u32 0, .int .i64 0] rfl rfl HR2.out size_set rfl rfl ?_)
    intro w9 hR9 hg9 hz9
    have hB9 := below_row HA2.out hg9 (by have := HA2.out.size; omega) (Nat.le_refl _)
    go_wp2
    exact bodyPost_ret (ret_cell1 (load_set hR9 rfl) Tryz.results14 rfl) rfl ⟨rfl, hB9⟩
set_option maxRecDepth 20000 in
set_option maxHeartbeats 8000000 in
theorem guess_num (k : Int) (hk : k = 2 ∨ k = 8) (v : ByteArray) (w : World) (hv : v.size ≤ 281474976710656) (hT : BTabs w) :
    Calls Tryz.prog 14 #[.int .i64 k, .string v] w fun e w' => e = .returned (setV ⟨k, ⟨#[]⟩, (Ad.numOut v.data.toList 65535 : Int), 0, 0⟩) ∧ Below w.heap.size w w' := by
  have HN := Lib.hid (fun W => addr_Number v 65535 W hv)
  unfold setV
  generalize Ad.numOut v.data.toList 65535 = N at *
  generalize Ad.numErr v.data.toList 65535 = r at *
  rcases hk with rfl | rfl
  · have hS := two_sets w zeroC [.int .i64 2, .string ⟨#[]⟩, .int .i64 0, .int .u32 0, .int .i64 0] 28
    obtain ⟨w1, hw1⟩ : ∃ w1, w1 = (w.alloc (.cells zeroC.toArray 28)).alloc (.cells [.int .i64 2, .string ⟨#[]⟩, .int .i64 0, .int .u32 0, .int .i64 0].toArray 28) := ⟨_, rfl⟩
    rw [← hw1] at hS
    obtain ⟨hA, hR, hG⟩ := hS
    have HA := Lib.hid hA
    have HR := Lib.hid hR
    have HG := Lib.hid hG
    have c := (hT.2.below hA).at 2 (by decide) 5 2 rfl rfl
    have hlt := (hT.2.below hA).1
    have hgl := hG.lt
    have hrl := hR.lt
    have hw1' : w1 = (w.alloc (.cells #[.int .i64 0, .string ⟨#[]⟩, .int .i64 0, .int .u32 0, .int .i64 0] 28)).alloc (.cells #[.int .i64 2, .string ⟨#[]⟩, .int .i64 0, .int .u32 0, .int .i64 0] 28) := hw1
    obtain ⟨⟨g0, g1, g2, g3, g4⟩, ⟨z0, z1, z2, z3, z4⟩⟩ := hG.facts5
    clear hA hR hG hw1
    clear hT z0 z1 z2 z3 z4 g0 g1 g2 g3 g4
    go_enter Tryz.func14, Tryz.ntmps14
    go_upto_region 2 with fail
    rw [← hw1']
    clear hw1'
    go_wp2_with fail
    refine (HN.out w1).mono ?_
    rintro e w2 ⟨rfl, hb2⟩
    have hG2 := HG.out.kept hb2
    have hR2 := HR.out.kept hb2
    have hA2 := HA.out.trans (hb2.mono HA.out.size)
    obtain ⟨⟨g0, g1, g2, g3, g4⟩, ⟨z0, z1, z2, z3, z4⟩⟩ := hG2.facts5
    have hgl2 := hG2.lt
    have HG3 := Lib.hid (hG2.set (by decide) 2 (.int .i64 (N : Int)))
    have HR3 := Lib.hid (hR2.other (k := w.heap.size + 1) (i := 2) (by omega) (.int .i64 (N : Int)))
    have HA3 := Lib.hid (hA2.setCell (p := ⟨w.heap.size + 1, 2, none⟩) (Nat.le_succ _) (.int .i64 (N : Int)))
    clear hG2 hR2 hA2 hb2 c
    go_wp2_with (refine wpL_storeBlk (o := ⟨none, _, _, _, _, _⟩) rfl 28 (.tmp 4) (.tmp 38) rfl w.heap.size zeroC [.int .i64 2, .string ⟨#[]⟩, .int .i64 (N : Int), .int .u32 0, .int .i64 0] rfl rfl HR3.out size_set rfl rfl ?_)
    intro w9 hR9 hg9 hz9
    have hB9 := below_row HA3.out hg9 (by have := HA3.out.size; omega) (Nat.le_refl _)
    go_wp2
    exact bodyPost_ret (ret_cell1 (load_set hR9 rfl) Tryz.results14 rfl) rfl ⟨rfl, hB9⟩
  · have hS := two_sets w zeroC [.int .i64 8, .string ⟨#[]⟩, .int .i64 0, .int .u32 0, .int .i64 0] 28
    obtain ⟨w1, hw1⟩ : ∃ w1, w1 = (w.alloc (.cells zeroC.toArray 28)).alloc (.cells [.int .i64 8, .string ⟨#[]⟩, .int .i64 0, .int .u32 0, .int .i64 0].toArray 28) := ⟨_, rfl⟩
    rw [← hw1] at hS
    obtain ⟨hA, hR, hG⟩ := hS
    have HA := Lib.hid hA
    have HR := Lib.hid hR
    have HG := Lib.hid hG
    have c := (hT.2.below hA).at 8 (by decide) 17 2 rfl rfl
    have hlt := (hT.2.below hA).1
    have hgl := hG.lt
    have hrl := hR.lt
    have hw1' : w1 = (w.alloc (.cells #[.int .i64 0, .string ⟨#[]⟩, .int .i64 0, .int .u32 0, .int .i64 0] 28)).alloc (.cells #[.int .i64 8, .string ⟨#[]⟩, .int .i64 0, .int .u32 0, .int .i64 0] 28) := hw1
    obtain ⟨⟨g0, g1, g2, g3, g4⟩, ⟨z0, z1, z2, z3, z4⟩⟩ := hG.facts5
    clear hA hR hG hw1
    clear hT z0 z1 z2 z3 z4 g0 g1 g2 g3 g4
    go_enter Tryz.func14, Tryz.ntmps14
    go_upto_region 2 with fail
    rw [← hw1']
    clear hw1'
    go_wp2_with fail
    refine (HN.out w1).mono ?_
    rintro e w2 ⟨rfl, hb2⟩
    have hG2 := HG.out.kept hb2
    have hR2 := HR.out.kept hb2
    have hA2 := HA.out.trans (hb2.mono HA.out.size)
    obtain ⟨⟨g0, g1, g2, g3, g4⟩, ⟨z0, z1, z2, z3, z4⟩⟩ := hG2.facts5
    have hgl2 := hG2.lt
    have HG3 := Lib.hid (hG2.set (by decide) 2 (.int .i64 (N : Int)))
    have HR3 := Lib.hid (hR2.other (k := w.heap.size + 1) (i := 2) (by omega) (.int .i64 (N : Int)))
    have HA3 := Lib.hid (hA2.setCell (p := ⟨w.heap.size + 1, 2, none⟩) (Nat.le_succ _) (.int .i64 (N : Int)))
    clear hG2 hR2 hA2 hb2 c
    go_wp2_with (refine wpL_storeBlk (o := ⟨none, _, _, _, _, _⟩) rfl 28 (.tmp 4) (.tmp 38) rfl w.heap.size zeroC [.int .i64 8, .string ⟨#[]⟩, .int .i64 (N : Int), .int .u32 0, .int .i64 0] rfl rfl HR3.out size_set rfl rfl ?_)
    intro w9 hR9 hg9 hz9
    have hB9 := below_row HA3.out hg9 (by have := HA3.out.size; omega) (Nat.le_refl _)
    go_wp2
    exact bodyPost_ret (ret_cell1 (load_set hR9 rfl) Tryz.results14 rfl) rfl ⟨rfl, hB9⟩
set_option maxRecDepth 20000 in
set_option maxHeartbeats 8000000 in
theorem guess_net (v : ByteArray) (w : World) (hv : v.size ≤ 1048576) (hT : BTabs w) :
    Calls Tryz.prog 14 #[.int .i64 10, .string v] w fun e w' => e = .returned (setV ⟨10, ⟨#[]⟩, 0, Nt.parAddr v.data.toList, (Nt.parBits v.data.toList : Int)⟩) ∧ Below w.heap.size w w' := by
  have HN := Lib.hid (fun W hW => net_Parse v W hv (hT.1.below hW))
  unfold netV at HN
  unfold setV
  generalize Nt.parAddr v.data.toList = A at *
  generalize (Nt.parBits v.data.toList : Int) = B at *
  generalize Nt.parErr v.data.toList = r at *
  have hS := two_sets w zeroC [.int .i64 10, .string ⟨#[]⟩, .int .i64 0, .int .u32 0, .int .i64 0] 28
  obtain ⟨w1, hw1⟩ : ∃ w1, w1 = (w.alloc (.cells zeroC.toArray 28)).alloc (.cells [.int .i64 10, .string ⟨#[]⟩, .int .i64 0, .int .u32 0, .int .i64 0].toArray 28) := ⟨_, rfl⟩
  rw [← hw1] at hS
  obtain ⟨hA, hR, hG⟩ := hS
  have HA := Lib.hid hA
  have HR := Lib.hid hR
  have HG := Lib.hid hG
  have c := (hT.2.below hA).at 10 (by decide) 21 3 rfl rfl
  have hlt := (hT.2.below hA).1
  have hgl := hG.lt
  have hrl := hR.lt
  have hw1' : w1 = (w.alloc (.cells #[.int .i64 0, .string ⟨#[]⟩, .int .i64 0, .int .u32 0, .int .i64 0] 28)).alloc (.cells #[.int .i64 10, .string ⟨#[]⟩, .int .i64 0, .int .u32 0, .int .i64 0] 28) := hw1
  obtain ⟨⟨g0, g1, g2, g3, g4⟩, ⟨z0, z1, z2, z3, z4⟩⟩ := hG.facts5
  clear hA hR hG hw1
  clear hT z0 z1 z2 z3 z4 g0 g1 g2 g3 g4
  go_enter Tryz.func14, Tryz.ntmps14
  go_upto_region 2 with fail
  rw [← hw1']
  clear hw1'
  go_wp2_with fail
  refine (HN.out w1 HA.out).mono ?_
  rintro e w2 ⟨rfl, hb2⟩
  have hG2 := HG.out.kept hb2
  have hR2 := HR.out.kept hb2
  have hA2 := HA.out.trans (hb2.mono HA.out.size)
  obtain ⟨⟨g0, g1, g2, g3, g4⟩, ⟨z0, z1, z2, z3, z4⟩⟩ := hG2.facts5
  have hgl2 := hG2.lt
  have HG3 := Lib.hid ((hG2.set (by decide) 3 (.int .u32 (A : Int))).set (by show 5 ≤ maxLen; decide) 4 (.int .i64 B))
  have HR3 := Lib.hid ((hR2.other (k := w.heap.size + 1) (i := 3) (by omega) (.int .u32 (A : Int))).other (k := w.heap.size + 1) (i := 4) (by omega) (.int .i64 B))
  have HA3 := Lib.hid ((hA2.setCell (p := ⟨w.heap.size + 1, 3, none⟩) (Nat.le_succ _) (.int .u32 (A : Int))).setCell (p := ⟨w.heap.size + 1, 4, none⟩) (Nat.le_succ _) (.int .i64 B))
  clear hG2 hR2 hA2 hb2 c
  go_wp2_with (refine wpL_storeBlk (o := ⟨none, _, _, _, _, _⟩) rfl 28 (.tmp 4) (.tmp 38) rfl w.heap.size zeroC [.int .i64 10, .string ⟨#[]⟩, .int .i64 0, .int .u32 (A : Int), .int .i64 B] rfl rfl HR3.out size_set rfl rfl ?_)
  intro w9 hR9 hg9 hz9
  have hB9 := below_row HA3.out hg9 (by have := HA3.out.size; omega) (Nat.le_refl _)
  go_wp2
  exact bodyPost_ret (ret_cell1 (load_set hR9 rfl) Tryz.results14 rfl) rfl ⟨rfl, hB9⟩
/-- The setting that a line of a kind may be of. -/
theorem batch_guess (k : Int) (v : ByteArray) (w : World) (h1 : 1 ≤ k) (h2 : k ≤ 10) (hv : v.size ≤ 1048576) (hT : BTabs w) :
    Calls Tryz.prog 14 #[.int .i64 k, .string v] w fun e w' => e = .returned (setV (Bt.guess k v)) ∧ Below w.heap.size w w' := by
  rcases Bt.fld_cases k h1 h2 with rfl | rfl | rfl | rfl | rfl | rfl | rfl | rfl | rfl | rfl
  · exact guess_text 1 (by omega) v w hT
  · exact guess_num 2 (by omega) v w (by omega) hT
  · exact guess_none 3 (by omega) v w hT
  · exact guess_text 4 (by omega) v w hT
  · exact guess_none 5 (by omega) v w hT
  · have := guess_shared v w hT
    have e : Bt.guess 6 v = ⟨6, if v = Bt.zeros then ⟨#[]⟩ else v, 0, 0, 0⟩ := by
      unfold Bt.guess
      rw [if_pos (show Bt.fld 6 = 1 from rfl)]
      simp
    rw [e]
    exact this
  · exact guess_text 7 (by omega) v w hT
  · exact guess_num 8 (by omega) v w (by omega) hT
  · exact guess_none 9 (by omega) v w hT
  · exact guess_net v w hv hT
end Go.Proofs.YthlagpmacnijfaaGreatDoor

namespace Go.Proofs.YthlagpmacnijfaaGreatDoor
open Go.RowKit

def Bt.shapeC : List Value := (List.range 11).flatMap fun k => [.string (Bt.nameOf k), .int .i64 (Bt.fld (k : Int) : Int)]
theorem Bt.shapeC_get (k : Nat) (h : k < 11) : Bt.shapeC[k * 2]? = some (.string (Bt.nameOf k)) ∧ Bt.shapeC[k * 2 + 1]? = some (.int .i64 (Bt.fld (k : Int) : Int)) := by
  have : k = 0 ∨ k = 1 ∨ k = 2 ∨ k = 3 ∨ k = 4 ∨ k = 5 ∨ k = 6 ∨ k = 7 ∨ k = 8 ∨ k = 9 ∨ k = 10 := by omega
  rcases this with rfl | rfl | rfl | rfl | rfl | rfl | rfl | rfl | rfl | rfl | rfl <;> exact ⟨rfl, rfl⟩
theorem Bt.shapeC_len : Bt.shapeC.length = 22 := rfl
theorem Bt.shapeC_part (k : Nat) (h : k < 11) : (List.take 2 (List.drop (k * 2) Bt.shapeC)).toArray = #[.string (Bt.nameOf k), .int .i64 (Bt.fld (k : Int) : Int)] := by
  have : k = 0 ∨ k = 1 ∨ k = 2 ∨ k = 3 ∨ k = 4 ∨ k = 5 ∨ k = 6 ∨ k = 7 ∨ k = 8 ∨ k = 9 ∨ k = 10 := by omega
  rcases this with rfl | rfl | rfl | rfl | rfl | rfl | rfl | rfl | rfl | rfl | rfl <;> rfl
theorem load_shapes {w : World} (h : ShapeTab w) : (loadVar 58 ⟨0, 0, none⟩).run Tryz.prog w = .ok (.agg Bt.shapeC.toArray) w := by
  have hL : (loadCells ⟨0, 0, none⟩ Bt.shapeC.length).run Tryz.prog w = .ok Bt.shapeC.toArray w :=
    run_loadCells_list (P := Tryz.prog) w ⟨0, 0, none⟩ Bt.shapeC (fun j v hv => by
      have hj : j < 22 := by have := (List.getElem?_eq_some_iff.1 hv).1; rwa [Bt.shapeC_len] at this
      rw [Addr.add_lit, Nat.zero_add]
      obtain ⟨g1, g2⟩ := Bt.shapeC_get (j / 2) (by omega)
      obtain ⟨c1, c2⟩ := h.2 (j / 2) (by omega)
      rcases Nat.mod_two_eq_zero_or_one j with hm | hm
      · have e : j = j / 2 * 2 := by omega
        rw [← e] at g1 c1
        rw [c1, ← g1, hv]
      · have e : j = j / 2 * 2 + 1 := by omega
        rw [← e] at g2 c2
        rw [c2, ← g2, hv])
  rw [Bt.shapeC_len] at hL
  obtain ⟨i, hq, hs⟩ : ∃ i, Tryz.prog.info? 58 = some i ∧ i.size = 22 := by
    cases hq : Tryz.prog.info? 58 with
    | none =>
      have := show (Tryz.prog.info? 58).map (·.size) = some 22 by kernel_rfl
      simp [hq] at this
    | some i =>
      have := show (Tryz.prog.info? 58).map (·.size) = some 22 by kernel_rfl
      exact ⟨i, rfl, by simpa [hq] using this⟩
  have hagg : (isAgg 58).run Tryz.prog w = .ok true w := by simp [isAgg, run_underlying Tryz.underlying58]
  simp only [loadVar, Sem.run_bind, hagg, Result.andThen_ok, if_true]
  simp [sizeOf, typeInfo, hq, hs, hL]
theorem index_shapes (k : Nat) (w : World) (hk : k < 11) : (Instr.index 58 (.agg Bt.shapeC.toArray) (.int .i64 (k : Int))).run Tryz.prog w = .ok (.agg #[.string (Bt.nameOf k), .int .i64 (Bt.fld (k : Int) : Int)]) w := by
  obtain ⟨i0, hi, hz0, hz1, hz2⟩ := info_parts (P := Tryz.prog) (e := 57) (z := .agg #[.string ByteArray.empty, .int .i64 0]) (size := 2) (bytes := 24) (by kernel_rfl)
  have hx := Bt.shapeC_part k hk
  simp [Instr.index, asIntOf, run_underlying Tryz.underlying58, run_underlying Tryz.underlying57, part, isAgg, sizeOf, typeInfo, hi, hz1]
  rw [if_pos hk, hx]
/-- A load whose run is known. -/
theorem wpL_load_at {w : World} {ops : Array Oper} {rest : List Oper} {o : Oper} {a : Act} {Q : Exit → Act → World → Prop} (hgd : o.guard = none) (t : TypeId) (x : Operand) (ho : o.op = .load t x) (ad : Addr) (v : Value) (hx : a.eval x = .pointer (some ad)) (hr : (loadVar t ad).run Tryz.prog w = .ok v w)
    (h : wpList Tryz.prog ops Q rest (a.put o.dst v) w) : wpList Tryz.prog ops Q (o :: rest) a w := by
  refine wpList_plain hgd fun K hK => ?_
  unfold Oper.wp execOp
  simp only [ho, hx, Instr.loadAt, Instr.sureAddr, Sem.run_bind, Sem.run_pure, Result.andThen_ok, hr]
  exact hK _ _ h
set_option maxRecDepth 20000 in
set_option maxHeartbeats 4000000 in
theorem batch_kindOf (K : ByteArray) (w : World) (hT : ShapeTab w) :
    Calls Tryz.prog 13 #[.string K] w fun e w' => e = .returned (.tuple #[.int .i64 (Bt.kindOf K : Int), .bool (decide (Bt.kindOf K ≠ 0))]) ∧ Below w.heap.size w w' := by
  have Hload := Lib.hid (load_shapes hT)
  clear hT
  obtain ⟨S, hS⟩ : ∃ S : Value, S = .agg Bt.shapeC.toArray := ⟨_, rfl⟩
  rw [← hS] at Hload
  have HS := Lib.hid hS
  clear hS
  go_enter Tryz.func13, Tryz.ntmps13
  go_wp2_with (with_reducible refine wpL_load_at (o := ⟨some 6, _, _, _, _, _⟩) rfl 58 _ rfl _ _ rfl Hload.out ?_)
  go_loopw [7] (fun i wr => ∃ k : Nat, k ≤ 11 ∧ i = .int .i64 (k : Int) ∧ Hid (∀ j, 1 ≤ j → j < k → Bt.nameOf j ≠ K) ∧ Hid (Below w.heap.size w wr)) (fun i _ => 11 - (intOf i).toNat)
  case atStart => exact ⟨0, by decide, rfl, Lib.hid (fun j h1 h2 => by omega), Lib.hid (Below.refl _ _)⟩
  case round =>
    obtain ⟨k, hk, rfl, Ha, HBr⟩ := hrel
    obtain ⟨wo, hwo⟩ : ∃ wo, wo = wr := ⟨_, rfl⟩
    subst hwo
    by_cases hlt : k < 11
    · have i11 : (k : Int) < 11 := by omega
      obtain ⟨X, hX⟩ : ∃ X, X = Bt.nameOf k := ⟨_, rfl⟩
      obtain ⟨F, hF⟩ : ∃ F, F = (Bt.fld (k : Int) : Int) := ⟨_, rfl⟩
      have HX := Lib.hid hX
      have HF := Lib.hid hF
      have HBn := Lib.hid (HBr.out.alloc HBr.out.size (.cells #[.string X, .int .i64 F] 57))
      have hI : ∀ W, (Instr.index 58 S (.int .i64 (k : Int))).run Tryz.prog W = .ok (.agg #[.string X, .int .i64 F]) W := fun W => by rw [HS.out, hX, hF]; exact index_shapes k W hlt
      clear hX hF
      by_cases h0 : k = 0
      · have q0 : decide ((0 : Int) < (k : Int)) = false := decide_eq_false (by omega)
        have Hn := Lib.hid (show ∀ j, 1 ≤ j → j < k + 1 → Bt.nameOf j ≠ K from fun j h1 h2 => by omega)
        have q1 : ¬ 0 < k := by omega
        rcases text_eq X K with hXK | q2
        · subst hXK
          clear h0
          go_wp2
          go_roundw
          case rel => exact ⟨k + 1, by omega, by go_num, Hn, HBn⟩
          case measure => simp [intOf]; omega
        · clear h0
          go_wp2
          go_roundw
          case rel => exact ⟨k + 1, by omega, by go_num, Hn, HBn⟩
          case measure => simp [intOf]; omega
      · have q0 : decide ((0 : Int) < (k : Int)) = true := decide_eq_true (by omega)
        have q1 : 0 < k := by omega
        rcases text_eq X K with hXK | q2
        · have HK := Lib.hid (Bt.kind_some q1 (by omega) (HX.out.symm.trans hXK))
          subst hXK
          clear h0
          go_wp2
          go_ret2
          exact ⟨by rw [HK.out, decide_eq_true (by omega : k ≠ 0)]; rfl, HBn.out⟩
        · have Hn := Lib.hid (show ∀ j, 1 ≤ j → j < k + 1 → Bt.nameOf j ≠ K from fun j h1 h2 => by
            by_cases hj : j < k
            · exact Ha.out j h1 hj
            · obtain rfl : j = k := by omega
              rw [← HX.out]
              intro e
              subst e
              simp at q2)
          clear h0
          go_wp2
          go_roundw
          case rel => exact ⟨k + 1, by omega, by go_num, Hn, HBn⟩
          case measure => simp [intOf]; omega
    · obtain rfl : k = 11 := by omega
      have HK := Lib.hid (Bt.kind_none (key := K) fun j h1 h2 => Ha.out j h1 (by omega))
      rw [show ((11 : Nat) : Int) = (11 : Int) from rfl]
      go_wp2
      go_ret2
      exact ⟨by rw [HK.out]; rfl, HBr.out⟩
end Go.Proofs.YthlagpmacnijfaaGreatDoor

namespace Go.Proofs.YthlagpmacnijfaaGreatDoor
open Go.RowKit

set_option maxRecDepth 20000 in
set_option maxHeartbeats 8000000 in
theorem batch_Read (l : Ln.L) (w : World) (hs : l.v.size ≤ 1048576) (hT : BTabs w) :
    Calls Tryz.prog 6 #[lineV l] w fun e w' => e = .returned (.tuple #[setV (Bt.ofLine l).1, .int .i64 ((Bt.ofLine l).2 : Int)]) ∧ Below w.heap.size w w' := by
  rw [Bt.of_guess l hs]
  obtain ⟨K, V⟩ := l
  simp only at hs ⊢
  have hS := set_beside w (Ln.lineC ⟨K, V⟩) zeroC 23 28
  obtain ⟨w1, hw1⟩ : ∃ w1, w1 = (w.alloc (.cells (Ln.lineC ⟨K, V⟩).toArray 23)).alloc (.cells zeroC.toArray 28) := ⟨_, rfl⟩
  rw [← hw1] at hS
  obtain ⟨hA, hG, hR⟩ := hS
  have HA := Lib.hid hA
  have HG := Lib.hid hG
  have HR := Lib.hid hR
  have hgl := hG.lt
  have hrl := hR.lt
  have HK := Lib.hid (batch_kindOf K w1 (hT.2.below hA))
  have HT := Lib.hid hT
  have hw1' : w1 = (w.alloc (.cells #[.string K, .string V] 23)).alloc (.cells #[.int .i64 0, .string ⟨#[]⟩, .int .i64 0, .int .u32 0, .int .i64 0] 28) := hw1
  have g0 := hG.cell 0 rfl
  have g1 := hG.cell 1 rfl
  unfold lineV
  rcases Bt.kindOf_cases K with hk | ⟨hk1, hk2, -⟩
  · rw [hk] at HK ⊢
    rw [decide_eq_false (by omega : ¬ (0 : Nat) ≠ 0)] at HK
    rw [if_pos rfl]
    clear hk hT hA hG hR hw1 hs
    unfold setV
    go_enter Tryz.func6, Tryz.ntmps6
    go_upto_region 1 with fail
    rw [← hw1']
    clear hw1'
    go_wp2_with fail
    refine HK.out.mono ?_
    rintro e w2 ⟨rfl, hb2⟩
    have HR2 := Lib.hid (HR.out.kept hb2)
    have HB2 := Lib.hid (HA.out.trans (hb2.mono HA.out.size))
    clear hb2 g0 g1
    go_wp2_with (refine wpL_storeBlk (o := ⟨none, _, _, _, _, _⟩) rfl 28 (.tmp 2) (.tmp 17) rfl (w.heap.size + 1) zeroC [.int .i64 0, .string ⟨#[]⟩, .int .i64 0, .int .u32 0, .int .i64 0] rfl rfl HR2.out size_set rfl rfl ?_)
    intro w9 hR9 hg9 hz9
    have hB9 := below_row HB2.out hg9 (by have := HB2.out.size; omega) (Nat.le_succ _)
    go_wp2
    exact bodyPost_ret (ret_cell (load_set hR9 rfl) Tryz.results6 rfl rfl) rfl ⟨rfl, hB9⟩
  · obtain ⟨k, hkk⟩ : ∃ k, k = Bt.kindOf K := ⟨_, rfl⟩
    rw [← hkk] at hk1 hk2 HK ⊢
    rw [if_neg (by omega)]
    rw [decide_eq_true (by omega : k ≠ 0)] at HK
    have HGu := Lib.hid (fun W hW => batch_guess (k : Int) V W (by omega) (by omega) hs (HT.out.below hW))
    have hgo := Bt.guess_ok (k : Int) V hs
    generalize Bt.guess (k : Int) V = s at *
    have HL := Lib.hid (fun W hW => batch_Line s W hgo.1 hgo.2.1 hgo.2.2.1 hgo.2.2.2 (HT.out.below hW))
    clear hkk hT hA hG hR hw1 hs hgo
    obtain ⟨L, hLL⟩ : ∃ L, L = Bt.line s := ⟨_, rfl⟩
    rw [← hLL] at HL ⊢
    obtain ⟨X, Y⟩ := L
    unfold lineV at HL
    by_cases he : Bt.err s = 0
    · rcases line_parts X K Y V with ⟨rfl, rfl⟩ | z0 | ⟨rfl, z0⟩
      · rw [if_pos ⟨he, rfl⟩]
        rw [he] at HL
        clear he hLL
        obtain ⟨sk, st, sn, sa, sb⟩ := s
        unfold setV at HGu HL ⊢
        go_enter Tryz.func6, Tryz.ntmps6
        go_upto_region 1 with fail
        rw [← hw1']
        clear hw1'
        go_wp2_with fail
        refine HK.out.mono ?_
        rintro e w2 ⟨rfl, hb2⟩
        have hG2 := HG.out.kept hb2
        have HG2 := Lib.hid hG2
        have HR2 := Lib.hid (HR.out.kept hb2)
        have HB2 := Lib.hid (HA.out.trans (hb2.mono HA.out.size))
        have k1 := hG2.cell 1 rfl
        clear hb2 g0 g1 hG2
        go_wp2_with fail
        refine (HGu.out w2 HB2.out).mono ?_
        rintro e w3 ⟨rfl, hb3⟩
        obtain ⟨w4, hw4⟩ : ∃ w4, w4 = w3.alloc (.cells #[.int .i64 sk, .string st, .int .i64 sn, .int .u32 (sa : Int), .int .i64 sb] 28) := ⟨_, rfl⟩
        have hA4 : Below w3.heap.size w3 w4 := by rw [hw4]; exact (Below.refl _ _).alloc (Nat.le_refl _) _
        have HS4 := Lib.hid (show Blk w4 w3.heap.size 28 [.int .i64 sk, .string st, .int .i64 sn, .int .u32 (sa : Int), .int .i64 sb] by rw [hw4]; exact Blk.new _ _ _)
        have hB24 := hb3.trans (hA4.mono hb3.size)
        have HG4 := Lib.hid (HG2.out.kept hB24)
        have HR4 := Lib.hid (HR2.out.kept hB24)
        have HB4 := Lib.hid (HB2.out.trans (hB24.mono HB2.out.size))
        have hg3 : w.heap.size + 1 < w3.heap.size := Nat.lt_of_lt_of_le HR2.out.lt hb3.size
        clear hA4 hB24 hb3 k1
        go_upto_region 5 with fail
        rw [← hw4]
        clear hw4
        obtain ⟨⟨s0, s1, s2, s3, s4⟩, -⟩ := HS4.out.facts5
        go_wp2_with fail
        refine (HL.out w4 HB4.out).mono ?_
        rintro e w5 ⟨rfl, hb5⟩
        obtain ⟨w6, hw6⟩ : ∃ w6, w6 = w5.alloc (.cells #[.string X, .string Y] 23) := ⟨_, rfl⟩
        have hA6 : Below w5.heap.size w5 w6 := by rw [hw6]; exact (Below.refl _ _).alloc (Nat.le_refl _) _
        have hM := show Blk w6 w5.heap.size 23 [.string X, .string Y] by rw [hw6]; exact Blk.new _ _ _
        have hB46 := hb5.trans (hA6.mono hb5.size)
        have hG6 := HG4.out.kept hB46
        have HR6 := Lib.hid (HR4.out.kept hB46)
        have hS6 := HS4.out.kept hB46
        have HB6 := Lib.hid (HB4.out.trans (hB46.mono HB4.out.size))
        obtain ⟨⟨s0, s1, s2, s3, s4⟩, -⟩ := hS6.facts5
        have k0 := hG6.cell 0 rfl
        have k1 := hG6.cell 1 rfl
        have m0 := hM.cell 0 rfl
        have m1 := hM.cell 1 rfl
        clear hA6 hB46 hb5 hM hG6 hS6
        go_upto_region 6 with fail
        rw [← hw6]
        clear hw6
        go_wp2_with (refine wpL_storeBlk (o := ⟨none, _, _, _, _, _⟩) rfl 28 (.tmp 2) (.tmp 35) rfl (w.heap.size + 1) zeroC [.int .i64 sk, .string st, .int .i64 sn, .int .u32 (sa : Int), .int .i64 sb] rfl rfl HR6.out size_set rfl rfl ?_)
        intro w9 hR9 hg9 hz9
        have hB9 := below_row HB6.out hg9 (by have := HB6.out.size; omega) (Nat.le_succ _)
        go_wp2
        exact bodyPost_ret (ret_cell (load_set hR9 rfl) Tryz.results6 rfl rfl) rfl ⟨rfl, hB9⟩
      · rw [if_neg (fun h => by have := h.2; injection this with e1 e2; subst e1; simp at z0)]
        rw [he] at HL
        clear he hLL
        obtain ⟨sk, st, sn, sa, sb⟩ := s
        unfold setV at HGu HL ⊢
        go_enter Tryz.func6, Tryz.ntmps6
        go_upto_region 1 with fail
        rw [← hw1']
        clear hw1'
        go_wp2_with fail
        refine HK.out.mono ?_
        rintro e w2 ⟨rfl, hb2⟩
        have hG2 := HG.out.kept hb2
        have HG2 := Lib.hid hG2
        have HR2 := Lib.hid (HR.out.kept hb2)
        have HB2 := Lib.hid (HA.out.trans (hb2.mono HA.out.size))
        have k1 := hG2.cell 1 rfl
        clear hb2 g0 g1 hG2
        go_wp2_with fail
        refine (HGu.out w2 HB2.out).mono ?_
        rintro e w3 ⟨rfl, hb3⟩
        obtain ⟨w4, hw4⟩ : ∃ w4, w4 = w3.alloc (.cells #[.int .i64 sk, .string st, .int .i64 sn, .int .u32 (sa : Int), .int .i64 sb] 28) := ⟨_, rfl⟩
        have hA4 : Below w3.heap.size w3 w4 := by rw [hw4]; exact (Below.refl _ _).alloc (Nat.le_refl _) _
        have HS4 := Lib.hid (show Blk w4 w3.heap.size 28 [.int .i64 sk, .string st, .int .i64 sn, .int .u32 (sa : Int), .int .i64 sb] by rw [hw4]; exact Blk.new _ _ _)
        have hB24 := hb3.trans (hA4.mono hb3.size)
        have HG4 := Lib.hid (HG2.out.kept hB24)
        have HR4 := Lib.hid (HR2.out.kept hB24)
        have HB4 := Lib.hid (HB2.out.trans (hB24.mono HB2.out.size))
        have hg3 : w.heap.size + 1 < w3.heap.size := Nat.lt_of_lt_of_le HR2.out.lt hb3.size
        clear hA4 hB24 hb3 k1
        go_upto_region 5 with fail
        rw [← hw4]
        clear hw4
        obtain ⟨⟨s0, s1, s2, s3, s4⟩, -⟩ := HS4.out.facts5
        go_wp2_with fail
        refine (HL.out w4 HB4.out).mono ?_
        rintro e w5 ⟨rfl, hb5⟩
        obtain ⟨w6, hw6⟩ : ∃ w6, w6 = w5.alloc (.cells #[.string X, .string Y] 23) := ⟨_, rfl⟩
        have hA6 : Below w5.heap.size w5 w6 := by rw [hw6]; exact (Below.refl _ _).alloc (Nat.le_refl _) _
        have hM := show Blk w6 w5.heap.size 23 [.string X, .string Y] by rw [hw6]; exact Blk.new _ _ _
        have hB46 := hb5.trans (hA6.mono hb5.size)
        have hG6 := HG4.out.kept hB46
        have HR6 := Lib.hid (HR4.out.kept hB46)
        have hS6 := HS4.out.kept hB46
        have HB6 := Lib.hid (HB4.out.trans (hB46.mono HB4.out.size))
        obtain ⟨⟨s0, s1, s2, s3, s4⟩, -⟩ := hS6.facts5
        have k0 := hG6.cell 0 rfl
        have k1 := hG6.cell 1 rfl
        have m0 := hM.cell 0 rfl
        have m1 := hM.cell 1 rfl
        clear hA6 hB46 hb5 hM hG6 hS6
        go_upto_region 6 with fail
        rw [← hw6]
        clear hw6
        go_wp2_with (refine wpL_storeBlk (o := ⟨none, _, _, _, _, _⟩) rfl 28 (.tmp 2) (.tmp 34) rfl (w.heap.size + 1) zeroC [.int .i64 0, .string ⟨#[]⟩, .int .i64 0, .int .u32 0, .int .i64 0] rfl rfl HR6.out size_set rfl rfl ?_)
        intro w9 hR9 hg9 hz9
        have hB9 := below_row HB6.out hg9 (by have := HB6.out.size; omega) (Nat.le_succ _)
        go_wp2
        exact bodyPost_ret (ret_cell (load_set hR9 rfl) Tryz.results6 rfl rfl) rfl ⟨rfl, hB9⟩
      · rw [if_neg (fun h => by have := h.2; injection this with e1 e2; subst e2; simp at z0)]
        rw [he] at HL
        clear he hLL
        obtain ⟨sk, st, sn, sa, sb⟩ := s
        unfold setV at HGu HL ⊢
        go_enter Tryz.func6, Tryz.ntmps6
        go_upto_region 1 with fail
        rw [← hw1']
        clear hw1'
        go_wp2_with fail
        refine HK.out.mono ?_
        rintro e w2 ⟨rfl, hb2⟩
        have hG2 := HG.out.kept hb2
        have HG2 := Lib.hid hG2
        have HR2 := Lib.hid (HR.out.kept hb2)
        have HB2 := Lib.hid (HA.out.trans (hb2.mono HA.out.size))
        have k1 := hG2.cell 1 rfl
        clear hb2 g0 g1 hG2
        go_wp2_with fail
        refine (HGu.out w2 HB2.out).mono ?_
        rintro e w3 ⟨rfl, hb3⟩
        obtain ⟨w4, hw4⟩ : ∃ w4, w4 = w3.alloc (.cells #[.int .i64 sk, .string st, .int .i64 sn, .int .u32 (sa : Int), .int .i64 sb] 28) := ⟨_, rfl⟩
        have hA4 : Below w3.heap.size w3 w4 := by rw [hw4]; exact (Below.refl _ _).alloc (Nat.le_refl _) _
        have HS4 := Lib.hid (show Blk w4 w3.heap.size 28 [.int .i64 sk, .string st, .int .i64 sn, .int .u32 (sa : Int), .int .i64 sb] by rw [hw4]; exact Blk.new _ _ _)
        have hB24 := hb3.trans (hA4.mono hb3.size)
        have HG4 := Lib.hid (HG2.out.kept hB24)
        have HR4 := Lib.hid (HR2.out.kept hB24)
        have HB4 := Lib.hid (HB2.out.trans (hB24.mono HB2.out.size))
        have hg3 : w.heap.size + 1 < w3.heap.size := Nat.lt_of_lt_of_le HR2.out.lt hb3.size
        clear hA4 hB24 hb3 k1
        go_upto_region 5 with fail
        rw [← hw4]
        clear hw4
        obtain ⟨⟨s0, s1, s2, s3, s4⟩, -⟩ := HS4.out.facts5
        go_wp2_with fail
        refine (HL.out w4 HB4.out).mono ?_
        rintro e w5 ⟨rfl, hb5⟩
        obtain ⟨w6, hw6⟩ : ∃ w6, w6 = w5.alloc (.cells #[.string X, .string Y] 23) := ⟨_, rfl⟩
        have hA6 : Below w5.heap.size w5 w6 := by rw [hw6]; exact (Below.refl _ _).alloc (Nat.le_refl _) _
        have hM := show Blk w6 w5.heap.size 23 [.string X, .string Y] by rw [hw6]; exact Blk.new _ _ _
        have hB46 := hb5.trans (hA6.mono hb5.size)
        have hG6 := HG4.out.kept hB46
        have HR6 := Lib.hid (HR4.out.kept hB46)
        have hS6 := HS4.out.kept hB46
        have HB6 := Lib.hid (HB4.out.trans (hB46.mono HB4.out.size))
        obtain ⟨⟨s0, s1, s2, s3, s4⟩, -⟩ := hS6.facts5
        have k0 := hG6.cell 0 rfl
        have k1 := hG6.cell 1 rfl
        have m0 := hM.cell 0 rfl
        have m1 := hM.cell 1 rfl
        clear hA6 hB46 hb5 hM hG6 hS6
        go_upto_region 6 with fail
        rw [← hw6]
        clear hw6
        go_wp2_with (refine wpL_storeBlk (o := ⟨none, _, _, _, _, _⟩) rfl 28 (.tmp 2) (.tmp 34) rfl (w.heap.size + 1) zeroC [.int .i64 0, .string ⟨#[]⟩, .int .i64 0, .int .u32 0, .int .i64 0] rfl rfl HR6.out size_set rfl rfl ?_)
        intro w9 hR9 hg9 hz9
        have hB9 := below_row HB6.out hg9 (by have := HB6.out.size; omega) (Nat.le_succ _)
        go_wp2
        exact bodyPost_ret (ret_cell (load_set hR9 rfl) Tryz.results6 rfl rfl) rfl ⟨rfl, hB9⟩
    · rw [if_neg (fun h => he h.1)]
      have hn : ((Bt.err s : Int) != 0) = true := by simpa using he
      clear he hLL
      generalize Bt.err s = r at *
      obtain ⟨sk, st, sn, sa, sb⟩ := s
      unfold setV at HGu HL ⊢
      go_enter Tryz.func6, Tryz.ntmps6
      go_upto_region 1 with fail
      rw [← hw1']
      clear hw1'
      go_wp2_with fail
      refine HK.out.mono ?_
      rintro e w2 ⟨rfl, hb2⟩
      have hG2 := HG.out.kept hb2
      have HG2 := Lib.hid hG2
      have HR2 := Lib.hid (HR.out.kept hb2)
      have HB2 := Lib.hid (HA.out.trans (hb2.mono HA.out.size))
      have k1 := hG2.cell 1 rfl
      clear hb2 g0 g1 hG2
      go_wp2_with fail
      refine (HGu.out w2 HB2.out).mono ?_
      rintro e w3 ⟨rfl, hb3⟩
      obtain ⟨w4, hw4⟩ : ∃ w4, w4 = w3.alloc (.cells #[.int .i64 sk, .string st, .int .i64 sn, .int .u32 (sa : Int), .int .i64 sb] 28) := ⟨_, rfl⟩
      have hA4 : Below w3.heap.size w3 w4 := by rw [hw4]; exact (Below.refl _ _).alloc (Nat.le_refl _) _
      have HS4 := Lib.hid (show Blk w4 w3.heap.size 28 [.int .i64 sk, .string st, .int .i64 sn, .int .u32 (sa : Int), .int .i64 sb] by rw [hw4]; exact Blk.new _ _ _)
      have hB24 := hb3.trans (hA4.mono hb3.size)
      have HG4 := Lib.hid (HG2.out.kept hB24)
      have HR4 := Lib.hid (HR2.out.kept hB24)
      have HB4 := Lib.hid (HB2.out.trans (hB24.mono HB2.out.size))
      have hg3 : w.heap.size + 1 < w3.heap.size := Nat.lt_of_lt_of_le HR2.out.lt hb3.size
      clear hA4 hB24 hb3 k1
      go_upto_region 5 with fail
      rw [← hw4]
      clear hw4
      obtain ⟨⟨s0, s1, s2, s3, s4⟩, -⟩ := HS4.out.facts5
      go_wp2_with fail
      refine (HL.out w4 HB4.out).mono ?_
      rintro e w5 ⟨rfl, hb5⟩
      obtain ⟨w6, hw6⟩ : ∃ w6, w6 = w5.alloc (.cells #[.string X, .string Y] 23) := ⟨_, rfl⟩
      have hA6 : Below w5.heap.size w5 w6 := by rw [hw6]; exact (Below.refl _ _).alloc (Nat.le_refl _) _
      have hM := show Blk w6 w5.heap.size 23 [.string X, .string Y] by rw [hw6]; exact Blk.new _ _ _
      have hB46 := hb5.trans (hA6.mono hb5.size)
      have hG6 := HG4.out.kept hB46
      have HR6 := Lib.hid (HR4.out.kept hB46)
      have hS6 := HS4.out.kept hB46
      have HB6 := Lib.hid (HB4.out.trans (hB46.mono HB4.out.size))
      obtain ⟨⟨s0, s1, s2, s3, s4⟩, -⟩ := hS6.facts5
      have k0 := hG6.cell 0 rfl
      have k1 := hG6.cell 1 rfl
      have m0 := hM.cell 0 rfl
      have m1 := hM.cell 1 rfl
      clear hA6 hB46 hb5 hM hG6 hS6
      go_upto_region 6 with fail
      rw [← hw6]
      clear hw6
      go_wp2_with (refine wpL_storeBlk (o := ⟨none, _, _, _, _, _⟩) rfl 28 (.tmp 2) (.tmp 34) rfl (w.heap.size + 1) zeroC [.int .i64 0, .string ⟨#[]⟩, .int .i64 0, .int .u32 0, .int .i64 0] rfl rfl HR6.out size_set rfl rfl ?_)
      intro w9 hR9 hg9 hz9
      have hB9 := below_row HB6.out hg9 (by have := HB6.out.size; omega) (Nat.le_succ _)
      go_wp2
      exact bodyPost_ret (ret_cell (load_set hR9 rfl) Tryz.results6 rfl rfl) rfl ⟨rfl, hB9⟩
end Go.Proofs.YthlagpmacnijfaaGreatDoor

namespace Go.Proofs.YthlagpmacnijfaaGreatDoor
open Go.RowKit

theorem run_storeVar_at (w : World) (g off : Nat) (t ty : TypeId) (cur ys : List Value) (hg : w.heap[g]? = some (.cells cur.toArray t (0, 0))) (hi : (Tryz.prog.info? ty).map (·.size) = some ys.length) (hl : off + ys.length ≤ cur.length) (h1 : ∀ v ∈ ys, v.oneCell' = true) :
    (storeVar ty ⟨g, off, none⟩ (.agg ys.toArray)).run Tryz.prog w = .ok () (w.setRow g (cur.take off ++ ys ++ cur.drop (off + ys.length)).toArray) := by
  have := run_storeCells_at Tryz.prog g off t ys 0 cur.toArray w hg (by simpa using hl) h1
  cases hq : Tryz.prog.info? ty with
  | none => simp [hq] at hi
  | some i =>
    have hs : ys.length = i.size := by simp [hq] at hi; omega
    simp [storeVar, sizeOf, typeInfo, hq, Value.cells, hs, this]
theorem Bt.setsC_set (L : List S) (k : Nat) (s : S) (h : k < L.length) : (setsC L).take (k * 5) ++ setC s ++ (setsC L).drop (k * 5 + (setC s).length) = setsC (L.set k s) := by
  have e : L = L.take k ++ (L[k] :: L.drop (k + 1)) := by simp
  have hk : (setsC (L.take k)).length = k * 5 := by rw [setsC_length, List.length_take, Nat.min_eq_left (by omega)]
  have h1 : setsC L = setsC (L.take k) ++ (setC L[k] ++ setsC (L.drop (k + 1))) := by
    conv => lhs; rw [e]
    rw [setsC_append]
    rfl
  have h2 : setsC (L.set k s) = setsC (L.take k) ++ (setC s ++ setsC (L.drop (k + 1))) := by
    rw [List.set_eq_take_append_cons_drop, if_pos h, setsC_append]
    rfl
  have h3 : k * 5 + (setC s).length = (setsC (L.take k) ++ setC L[k]).length := by rw [List.length_append, hk]; rfl
  rw [h2, h1, ← hk, List.take_left, List.append_assoc]
  congr 2
  rw [hk, h3, ← List.append_assoc, List.drop_left]
/-- One setting of a row written whole. -/
theorem wpL_store_elem {w : World} {ops : Array Oper} {rest : List Oper} {o : Oper} {a : Act} {Q : Exit → Act → World → Prop} (hgd : o.guard = none) (x y : Operand) (ho : o.op = .store 28 x y) (g k : Nat) (L : List Bt.S) (s : Bt.S)
    (hx : a.eval x = .pointer (some ⟨g, k * 5, none⟩)) (hy : a.eval y = .agg (Bt.setC s).toArray) (hg : Blk w g 28 (Bt.setsC L)) (hk : k < L.length)
    (h : ∀ w', Blk w' g 28 (Bt.setsC (L.set k s)) → w.grownBy w' (some g) → w'.heap.size = w.heap.size → wpList Tryz.prog ops Q rest (a.put o.dst undef) w') : wpList Tryz.prog ops Q (o :: rest) a w := by
  refine wpList_plain hgd fun K hK => ?_
  have hr := run_storeVar_at w g (k * 5) 28 28 (Bt.setsC L) (Bt.setC s) hg size_set (by rw [Bt.setsC_length]; show k * 5 + 5 ≤ _; omega) (fun v hv => Bt.setsC_one [s] v (by unfold Bt.setsC; simpa using hv))
  rw [Bt.setsC_set L k s hk] at hr
  unfold Oper.wp execOp
  simp only [ho, hx, hy, Instr.storeAt, Instr.sureAddr, Sem.run_bind, Sem.run_pure, Result.andThen_ok, hr]
  exact hK _ _ (h _ (setRow_heap w g _ _ _ _ hg) (grown_set_row w g _) (by simp))
theorem made_five (n : Nat) : madeCells #[.int .i64 0, .string ByteArray.empty, .int .i64 0, .int .u32 0, .int .i64 0] (n * 5) = (Bt.setsC (List.replicate n Bt.zeroS)).toArray := by
  apply Array.toList_inj.1
  apply List.ext_getElem?
  intro j
  unfold madeCells
  by_cases hj : j < n * 5
  · simp only [Array.toList_map, List.getElem?_map, Array.toList_range, List.getElem?_range hj, Option.map_some]
    have hq : j / 5 < (List.replicate n Bt.zeroS).length := by rw [List.length_replicate]; omega
    have e := Bt.setsC_get (List.replicate n Bt.zeroS) (j / 5) (j % 5) hq (by omega)
    rw [show j / 5 * 5 + j % 5 = j by omega, List.getElem_replicate] at e
    rw [e]
    have h5 : (#[.int .i64 0, .string ByteArray.empty, .int .i64 0, .int .u32 0, .int .i64 0] : Array Value).size = 5 := rfl
    rw [h5]
    have hm : j % 5 = 0 ∨ j % 5 = 1 ∨ j % 5 = 2 ∨ j % 5 = 3 ∨ j % 5 = 4 := by omega
    rcases hm with h | h | h | h | h <;> rw [h] <;> rfl
  · rw [List.getElem?_eq_none (by simp; omega), List.getElem?_eq_none (by show (Bt.setsC _).length ≤ j; rw [Bt.setsC_length, List.length_replicate]; omega)]
theorem make_sets (n : Nat) (hn : n ≤ 2000000) : ∀ W, (Instr.makeSlice 33 (.int .i64 (n : Int)) (.int .i64 (n : Int))).run Tryz.prog W = .ok (.slice (some ⟨W.heap.size, 0, none⟩) n n) (W.alloc (.cells (Bt.setsC (List.replicate n Bt.zeroS)).toArray 28)) := fun W => by
  obtain ⟨i, hi, hz0, hz1, hz2⟩ := info_set
  have hr := run_make (P := Tryz.prog) W 33 28 i _ Tryz.underlying33 hi hz0 .i64 .i64 n n (by omega) (by omega) (by rw [hz2]; omega) (by omega)
  simp only [Int.toNat_natCast, hz1] at hr
  rw [show madeCells (Value.agg #[.int .i64 0, .string ByteArray.empty, .int .i64 0, .int .u32 0, .int .i64 0]).cells (n * 5) = (Bt.setsC (List.replicate n Bt.zeroS)).toArray from made_five n] at hr
  exact hr
/-- The settings so far, zeros behind them. -/
def Bt.sofar (D : List S) (n : Nat) : List S := D ++ List.replicate (n - D.length) zeroS
theorem Bt.sofar_length (D : List S) (n : Nat) (h : D.length ≤ n) : (sofar D n).length = n := by unfold sofar; rw [List.length_append, List.length_replicate]; omega
theorem Bt.sofar_set (D : List S) (n k : Nat) (x : S) (hk : D.length = k) (h : k < n) : (sofar D n).set k x = sofar (D ++ [x]) n := by
  subst hk
  unfold sofar
  obtain ⟨m, hm⟩ : ∃ m, n - D.length = m + 1 := ⟨n - D.length - 1, by omega⟩
  rw [hm, List.set_append_right (h := Nat.le_refl _), Nat.sub_self, List.replicate_succ, List.set_cons_zero, List.length_append, List.length_singleton, show n - (D.length + 1) = m by omega, List.append_assoc]
  rfl
theorem Bt.sofar_full (D : List S) (n : Nat) (h : D.length = n) : sofar D n = D := by unfold sofar; rw [show n - D.length = 0 by omega]; simp
end Go.Proofs.YthlagpmacnijfaaGreatDoor
