/- The contract of batch.guess. -/
import Derived.Test.YthlagpmacnijfaaDoorBatchCode3
import Derived.Test.YthlagpmacnijfaaDoorBatchPlain7
import Derived.Test.YthlagpmacnijfaaDoorAddrCode
import Derived.Laws.StructEq
import Derived.Deep.DeepCutAuto
namespace Go.Proofs.YthlagpmacnijfaaDoor
open Go.RowKit

theorem two_sets (w : World) (xs ys : List Value) (t : TypeId) : Below w.heap.size w ((w.alloc (.cells xs.toArray t)).alloc (.cells ys.toArray t)) ∧ Blk ((w.alloc (.cells xs.toArray t)).alloc (.cells ys.toArray t)) w.heap.size t xs ∧ Blk ((w.alloc (.cells xs.toArray t)).alloc (.cells ys.toArray t)) (w.heap.size + 1) t ys := by
  refine ⟨((Below.refl _ _).alloc (Nat.le_refl _) _).alloc (by simp) _, (Blk.new w t xs).kept ((Below.refl _ _).alloc (Nat.le_refl _) _), ?_⟩
  have := Blk.new (w.alloc (.cells xs.toArray t)) t ys
  rwa [show (w.alloc (.cells xs.toArray t)).heap.size = w.heap.size + 1 by simp] at this

set_option maxRecDepth 20000 in
set_option maxHeartbeats 8000000 in
theorem guess_none (k : Int) (hk : k = 3 ∨ k = 5 ∨ k = 9) (v : ByteArray) (w : World) (hT : BTabs w) :
    Calls Tryd.prog 42 #[.int .i64 k, .string v] w fun e w' => e = .returned (setV ⟨k, ⟨#[]⟩, 0, 0, 0⟩) ∧ Below w.heap.size w w' := by
  unfold setV
  rcases hk with rfl | rfl | rfl
  · have hS := two_sets w zeroC [.int .i64 3, .string ⟨#[]⟩, .int .i64 0, .int .u32 0, .int .i64 0] 26
    obtain ⟨w1, hw1⟩ : ∃ w1, w1 = (w.alloc (.cells zeroC.toArray 26)).alloc (.cells [.int .i64 3, .string ⟨#[]⟩, .int .i64 0, .int .u32 0, .int .i64 0].toArray 26) := ⟨_, rfl⟩
    rw [← hw1] at hS
    obtain ⟨hA, hR, hG⟩ := hS
    have HA := Lib.hid hA
    have HR := Lib.hid hR
    have HG := Lib.hid hG
    have c := (hT.2.below hA).at 3 (by decide) 7 0 rfl rfl
    have hlt := (hT.2.below hA).1
    have hgl := hG.lt
    have hrl := hR.lt
    have hw1' : w1 = (w.alloc (.cells #[.int .i64 0, .string ⟨#[]⟩, .int .i64 0, .int .u32 0, .int .i64 0] 26)).alloc (.cells #[.int .i64 3, .string ⟨#[]⟩, .int .i64 0, .int .u32 0, .int .i64 0] 26) := hw1
    obtain ⟨⟨g0, g1, g2, g3, g4⟩, ⟨z0, z1, z2, z3, z4⟩⟩ := hG.facts5
    clear hA hR hG hw1
    clear hT
    go_enter Tryd.func42, Tryd.ntmps42
    go_upto_region 2 with fail
    rw [← hw1']
    clear hw1'
    go_wp2_with (refine wpL_storeBlk (o := ⟨none, _, _, _, _, _⟩) rfl 26 (.tmp 4) (.tmp 38) rfl w.heap.size zeroC [.int .i64 3, .string ⟨#[]⟩, .int .i64 0, .int .u32 0, .int .i64 0] rfl rfl HR.out size_set rfl rfl ?_)
    intro w9 hR9 hg9 hz9
    have hB9 := below_row HA.out hg9 (by have := HA.out.size; omega) (Nat.le_refl _)
    go_wp2
    exact bodyPost_ret (ret_cell1 (load_set hR9 rfl) Tryd.results42 rfl) rfl ⟨rfl, hB9⟩
  · have hS := two_sets w zeroC [.int .i64 5, .string ⟨#[]⟩, .int .i64 0, .int .u32 0, .int .i64 0] 26
    obtain ⟨w1, hw1⟩ : ∃ w1, w1 = (w.alloc (.cells zeroC.toArray 26)).alloc (.cells [.int .i64 5, .string ⟨#[]⟩, .int .i64 0, .int .u32 0, .int .i64 0].toArray 26) := ⟨_, rfl⟩
    rw [← hw1] at hS
    obtain ⟨hA, hR, hG⟩ := hS
    have HA := Lib.hid hA
    have HR := Lib.hid hR
    have HG := Lib.hid hG
    have c := (hT.2.below hA).at 5 (by decide) 11 0 rfl rfl
    have hlt := (hT.2.below hA).1
    have hgl := hG.lt
    have hrl := hR.lt
    have hw1' : w1 = (w.alloc (.cells #[.int .i64 0, .string ⟨#[]⟩, .int .i64 0, .int .u32 0, .int .i64 0] 26)).alloc (.cells #[.int .i64 5, .string ⟨#[]⟩, .int .i64 0, .int .u32 0, .int .i64 0] 26) := hw1
    obtain ⟨⟨g0, g1, g2, g3, g4⟩, ⟨z0, z1, z2, z3, z4⟩⟩ := hG.facts5
    clear hA hR hG hw1
    clear hT
    go_enter Tryd.func42, Tryd.ntmps42
    go_upto_region 2 with fail
    rw [← hw1']
    clear hw1'
    go_wp2_with (refine wpL_storeBlk (o := ⟨none, _, _, _, _, _⟩) rfl 26 (.tmp 4) (.tmp 38) rfl w.heap.size zeroC [.int .i64 5, .string ⟨#[]⟩, .int .i64 0, .int .u32 0, .int .i64 0] rfl rfl HR.out size_set rfl rfl ?_)
    intro w9 hR9 hg9 hz9
    have hB9 := below_row HA.out hg9 (by have := HA.out.size; omega) (Nat.le_refl _)
    go_wp2
    exact bodyPost_ret (ret_cell1 (load_set hR9 rfl) Tryd.results42 rfl) rfl ⟨rfl, hB9⟩
  · have hS := two_sets w zeroC [.int .i64 9, .string ⟨#[]⟩, .int .i64 0, .int .u32 0, .int .i64 0] 26
    obtain ⟨w1, hw1⟩ : ∃ w1, w1 = (w.alloc (.cells zeroC.toArray 26)).alloc (.cells [.int .i64 9, .string ⟨#[]⟩, .int .i64 0, .int .u32 0, .int .i64 0].toArray 26) := ⟨_, rfl⟩
    rw [← hw1] at hS
    obtain ⟨hA, hR, hG⟩ := hS
    have HA := Lib.hid hA
    have HR := Lib.hid hR
    have HG := Lib.hid hG
    have c := (hT.2.below hA).at 9 (by decide) 19 0 rfl rfl
    have hlt := (hT.2.below hA).1
    have hgl := hG.lt
    have hrl := hR.lt
    have hw1' : w1 = (w.alloc (.cells #[.int .i64 0, .string ⟨#[]⟩, .int .i64 0, .int .u32 0, .int .i64 0] 26)).alloc (.cells #[.int .i64 9, .string ⟨#[]⟩, .int .i64 0, .int .u32 0, .int .i64 0] 26) := hw1
    obtain ⟨⟨g0, g1, g2, g3, g4⟩, ⟨z0, z1, z2, z3, z4⟩⟩ := hG.facts5
    clear hA hR hG hw1
    clear hT
    go_enter Tryd.func42, Tryd.ntmps42
    go_upto_region 2 with fail
    rw [← hw1']
    clear hw1'
    go_wp2_with (refine wpL_storeBlk (o := ⟨none, _, _, _, _, _⟩) rfl 26 (.tmp 4) (.tmp 38) rfl w.heap.size zeroC [.int .i64 9, .string ⟨#[]⟩, .int .i64 0, .int .u32 0, .int .i64 0] rfl rfl HR.out size_set rfl rfl ?_)
    intro w9 hR9 hg9 hz9
    have hB9 := below_row HA.out hg9 (by have := HA.out.size; omega) (Nat.le_refl _)
    go_wp2
    exact bodyPost_ret (ret_cell1 (load_set hR9 rfl) Tryd.results42 rfl) rfl ⟨rfl, hB9⟩
set_option maxRecDepth 20000 in
set_option maxHeartbeats 8000000 in
theorem guess_text (k : Int) (hk : k = 1 ∨ k = 4 ∨ k = 7) (v : ByteArray) (w : World) (hT : BTabs w) :
    Calls Tryd.prog 42 #[.int .i64 k, .string v] w fun e w' => e = .returned (setV ⟨k, v, 0, 0, 0⟩) ∧ Below w.heap.size w w' := by
  unfold setV
  rcases hk with rfl | rfl | rfl
  · have hS := two_sets w zeroC [.int .i64 1, .string ⟨#[]⟩, .int .i64 0, .int .u32 0, .int .i64 0] 26
    obtain ⟨w1, hw1⟩ : ∃ w1, w1 = (w.alloc (.cells zeroC.toArray 26)).alloc (.cells [.int .i64 1, .string ⟨#[]⟩, .int .i64 0, .int .u32 0, .int .i64 0].toArray 26) := ⟨_, rfl⟩
    rw [← hw1] at hS
    obtain ⟨hA, hR, hG⟩ := hS
    have HA := Lib.hid hA
    have HR := Lib.hid hR
    have HG := Lib.hid hG
    have c := (hT.2.below hA).at 1 (by decide) 3 1 rfl rfl
    have hlt := (hT.2.below hA).1
    have hgl := hG.lt
    have hrl := hR.lt
    have hw1' : w1 = (w.alloc (.cells #[.int .i64 0, .string ⟨#[]⟩, .int .i64 0, .int .u32 0, .int .i64 0] 26)).alloc (.cells #[.int .i64 1, .string ⟨#[]⟩, .int .i64 0, .int .u32 0, .int .i64 0] 26) := hw1
    obtain ⟨⟨g0, g1, g2, g3, g4⟩, ⟨z0, z1, z2, z3, z4⟩⟩ := hG.facts5
    clear hA hR hG hw1
    clear hT
    have HG2 := Lib.hid (HG.out.set (by decide) 1 (.string v))
    have HR2 := Lib.hid (HR.out.other (k := w.heap.size + 1) (i := 1) (by omega) (.string v))
    have HA2 := Lib.hid (HA.out.setCell (p := ⟨w.heap.size + 1, 1, none⟩) (Nat.le_succ _) (.string v))
    go_enter Tryd.func42, Tryd.ntmps42
    go_upto_region 2 with fail
    rw [← hw1']
    clear hw1'
    go_wp2_with (refine wpL_storeBlk (o := ⟨none, _, _, _, _, _⟩) rfl 26 (.tmp 4) (.tmp 38) rfl w.heap.size zeroC [.int .i64 1, .string v, .int .i64 0, .int .u32 0, .int .i64 0] rfl rfl HR2.out size_set rfl rfl ?_)
    intro w9 hR9 hg9 hz9
    have hB9 := below_row HA2.out hg9 (by have := HA2.out.size; omega) (Nat.le_refl _)
    go_wp2
    exact bodyPost_ret (ret_cell1 (load_set hR9 rfl) Tryd.results42 rfl) rfl ⟨rfl, hB9⟩
  · have hS := two_sets w zeroC [.int .i64 4, .string ⟨#[]⟩, .int .i64 0, .int .u32 0, .int .i64 0] 26
    obtain ⟨w1, hw1⟩ : ∃ w1, w1 = (w.alloc (.cells zeroC.toArray 26)).alloc (.cells [.int .i64 4, .string ⟨#[]⟩, .int .i64 0, .int .u32 0, .int .i64 0].toArray 26) := ⟨_, rfl⟩
    rw [← hw1] at hS
    obtain ⟨hA, hR, hG⟩ := hS
    have HA := Lib.hid hA
    have HR := Lib.hid hR
    have HG := Lib.hid hG
    have c := (hT.2.below hA).at 4 (by decide) 9 1 rfl rfl
    have hlt := (hT.2.below hA).1
    have hgl := hG.lt
    have hrl := hR.lt
    have hw1' : w1 = (w.alloc (.cells #[.int .i64 0, .string ⟨#[]⟩, .int .i64 0, .int .u32 0, .int .i64 0] 26)).alloc (.cells #[.int .i64 4, .string ⟨#[]⟩, .int .i64 0, .int .u32 0, .int .i64 0] 26) := hw1
    obtain ⟨⟨g0, g1, g2, g3, g4⟩, ⟨z0, z1, z2, z3, z4⟩⟩ := hG.facts5
    clear hA hR hG hw1
    clear hT
    have HG2 := Lib.hid (HG.out.set (by decide) 1 (.string v))
    have HR2 := Lib.hid (HR.out.other (k := w.heap.size + 1) (i := 1) (by omega) (.string v))
    have HA2 := Lib.hid (HA.out.setCell (p := ⟨w.heap.size + 1, 1, none⟩) (Nat.le_succ _) (.string v))
    go_enter Tryd.func42, Tryd.ntmps42
    go_upto_region 2 with fail
    rw [← hw1']
    clear hw1'
    go_wp2_with (refine wpL_storeBlk (o := ⟨none, _, _, _, _, _⟩) rfl 26 (.tmp 4) (.tmp 38) rfl w.heap.size zeroC [.int .i64 4, .string v, .int .i64 0, .int .u32 0, .int .i64 0] rfl rfl HR2.out size_set rfl rfl ?_)
    intro w9 hR9 hg9 hz9
    have hB9 := below_row HA2.out hg9 (by have := HA2.out.size; omega) (Nat.le_refl _)
    go_wp2
    exact bodyPost_ret (ret_cell1 (load_set hR9 rfl) Tryd.results42 rfl) rfl ⟨rfl, hB9⟩
  · have hS := two_sets w zeroC [.int .i64 7, .string ⟨#[]⟩, .int .i64 0, .int .u32 0, .int .i64 0] 26
    obtain ⟨w1, hw1⟩ : ∃ w1, w1 = (w.alloc (.cells zeroC.toArray 26)).alloc (.cells [.int .i64 7, .string ⟨#[]⟩, .int .i64 0, .int .u32 0, .int .i64 0].toArray 26) := ⟨_, rfl⟩
    rw [← hw1] at hS
    obtain ⟨hA, hR, hG⟩ := hS
    have HA := Lib.hid hA
    have HR := Lib.hid hR
    have HG := Lib.hid hG
    have c := (hT.2.below hA).at 7 (by decide) 15 1 rfl rfl
    have hlt := (hT.2.below hA).1
    have hgl := hG.lt
    have hrl := hR.lt
    have hw1' : w1 = (w.alloc (.cells #[.int .i64 0, .string ⟨#[]⟩, .int .i64 0, .int .u32 0, .int .i64 0] 26)).alloc (.cells #[.int .i64 7, .string ⟨#[]⟩, .int .i64 0, .int .u32 0, .int .i64 0] 26) := hw1
    obtain ⟨⟨g0, g1, g2, g3, g4⟩, ⟨z0, z1, z2, z3, z4⟩⟩ := hG.facts5
    clear hA hR hG hw1
    clear hT
    have HG2 := Lib.hid (HG.out.set (by decide) 1 (.string v))
    have HR2 := Lib.hid (HR.out.other (k := w.heap.size + 1) (i := 1) (by omega) (.string v))
    have HA2 := Lib.hid (HA.out.setCell (p := ⟨w.heap.size + 1, 1, none⟩) (Nat.le_succ _) (.string v))
    go_enter Tryd.func42, Tryd.ntmps42
    go_upto_region 2 with fail
    rw [← hw1']
    clear hw1'
    go_wp2_with (refine wpL_storeBlk (o := ⟨none, _, _, _, _, _⟩) rfl 26 (.tmp 4) (.tmp 38) rfl w.heap.size zeroC [.int .i64 7, .string v, .int .i64 0, .int .u32 0, .int .i64 0] rfl rfl HR2.out size_set rfl rfl ?_)
    intro w9 hR9 hg9 hz9
    have hB9 := below_row HA2.out hg9 (by have := HA2.out.size; omega) (Nat.le_refl _)
    go_wp2
    exact bodyPost_ret (ret_cell1 (load_set hR9 rfl) Tryd.results42 rfl) rfl ⟨rfl, hB9⟩
set_option maxRecDepth 20000 in
set_option maxHeartbeats 8000000 in
theorem guess_shared (v : ByteArray) (w : World) (hT : BTabs w) :
    Calls Tryd.prog 42 #[.int .i64 6, .string v] w fun e w' => e = .returned (setV ⟨6, if v = Bt.zeros then ⟨#[]⟩ else v, 0, 0, 0⟩) ∧ Below w.heap.size w w' := by
  rw [Bt.zeros_lit]
  by_cases hz : v = ⟨#[48, 48, 48, 48, 48, 48, 48, 48, 48, 48, 48, 48, 48, 48, 48, 48, 48, 48, 48, 48, 48, 48, 48, 48, 48, 48, 48, 48, 48, 48, 48, 48, 48, 48, 48, 48, 48, 48, 48, 48, 48, 48, 48, 48, 48, 48, 48, 48, 48, 48, 48, 48, 48, 48, 48, 48, 48, 48, 48, 48, 48, 48, 48, 48]⟩
  · rw [if_pos hz]
    have dz : (v.toList == [48, 48, 48, 48, 48, 48, 48, 48, 48, 48, 48, 48, 48, 48, 48, 48, 48, 48, 48, 48, 48, 48, 48, 48, 48, 48, 48, 48, 48, 48, 48, 48, 48, 48, 48, 48, 48, 48, 48, 48, 48, 48, 48, 48, 48, 48, 48, 48, 48, 48, 48, 48, 48, 48, 48, 48, 48, 48, 48, 48, 48, 48, 48, 48]) = true := by rw [hz, ByteArray.toList_eq]; decide
    clear hz
    unfold setV
    have hS := two_sets w zeroC [.int .i64 6, .string ⟨#[]⟩, .int .i64 0, .int .u32 0, .int .i64 0] 26
    obtain ⟨w1, hw1⟩ : ∃ w1, w1 = (w.alloc (.cells zeroC.toArray 26)).alloc (.cells [.int .i64 6, .string ⟨#[]⟩, .int .i64 0, .int .u32 0, .int .i64 0].toArray 26) := ⟨_, rfl⟩
    rw [← hw1] at hS
    obtain ⟨hA, hR, hG⟩ := hS
    have HA := Lib.hid hA
    have HR := Lib.hid hR
    have HG := Lib.hid hG
    have c := (hT.2.below hA).at 6 (by decide) 13 1 rfl rfl
    have hlt := (hT.2.below hA).1
    have hgl := hG.lt
    have hrl := hR.lt
    have hw1' : w1 = (w.alloc (.cells #[.int .i64 0, .string ⟨#[]⟩, .int .i64 0, .int .u32 0, .int .i64 0] 26)).alloc (.cells #[.int .i64 6, .string ⟨#[]⟩, .int .i64 0, .int .u32 0, .int .i64 0] 26) := hw1
    obtain ⟨⟨g0, g1, g2, g3, g4⟩, ⟨z0, z1, z2, z3, z4⟩⟩ := hG.facts5
    clear hA hR hG hw1
    clear hT
    go_enter Tryd.func42, Tryd.ntmps42
    go_upto_region 2 with fail
    rw [← hw1']
    clear hw1'
    go_wp2_with (refine wpL_storeBlk (o := ⟨none, _, _, _, _, _⟩) rfl 26 (.tmp 4) (.tmp 38) rfl w.heap.size zeroC [.int .i64 6, .string ⟨#[]⟩, .int .i64 0, .int .u32 0, .int .i64 0] rfl rfl HR.out size_set rfl rfl ?_)
    intro w9 hR9 hg9 hz9
    have hB9 := below_row HA.out hg9 (by have := HA.out.size; omega) (Nat.le_refl _)
    go_wp2
    exact bodyPost_ret (ret_cell1 (load_set hR9 rfl) Tryd.results42 rfl) rfl ⟨rfl, hB9⟩
  · rw [if_neg hz]
    have dz : (v.toList == [48, 48, 48, 48, 48, 48, 48, 48, 48, 48, 48, 48, 48, 48, 48, 48, 48, 48, 48, 48, 48, 48, 48, 48, 48, 48, 48, 48, 48, 48, 48, 48, 48, 48, 48, 48, 48, 48, 48, 48, 48, 48, 48, 48, 48, 48, 48, 48, 48, 48, 48, 48, 48, 48, 48, 48, 48, 48, 48, 48, 48, 48, 48, 48]) = false := by
      refine beq_eq_false_iff_ne.2 fun e => hz ?_
      rw [ByteArray.toList_eq] at e
      exact WideShapes.bytes_inj (by rw [e])
    clear hz
    unfold setV
    have hS := two_sets w zeroC [.int .i64 6, .string ⟨#[]⟩, .int .i64 0, .int .u32 0, .int .i64 0] 26
    obtain ⟨w1, hw1⟩ : ∃ w1, w1 = (w.alloc (.cells zeroC.toArray 26)).alloc (.cells [.int .i64 6, .string ⟨#[]⟩, .int .i64 0, .int .u32 0, .int .i64 0].toArray 26) := ⟨_, rfl⟩
    rw [← hw1] at hS
    obtain ⟨hA, hR, hG⟩ := hS
    have HA := Lib.hid hA
    have HR := Lib.hid hR
    have HG := Lib.hid hG
    have c := (hT.2.below hA).at 6 (by decide) 13 1 rfl rfl
    have hlt := (hT.2.below hA).1
    have hgl := hG.lt
    have hrl := hR.lt
    have hw1' : w1 = (w.alloc (.cells #[.int .i64 0, .string ⟨#[]⟩, .int .i64 0, .int .u32 0, .int .i64 0] 26)).alloc (.cells #[.int .i64 6, .string ⟨#[]⟩, .int .i64 0, .int .u32 0, .int .i64 0] 26) := hw1
    obtain ⟨⟨g0, g1, g2, g3, g4⟩, ⟨z0, z1, z2, z3, z4⟩⟩ := hG.facts5
    clear hA hR hG hw1
    clear hT
    have HG2 := Lib.hid (HG.out.set (by decide) 1 (.string v))
    have HR2 := Lib.hid (HR.out.other (k := w.heap.size + 1) (i := 1) (by omega) (.string v))
    have HA2 := Lib.hid (HA.out.setCell (p := ⟨w.heap.size + 1, 1, none⟩) (Nat.le_succ _) (.string v))
    go_enter Tryd.func42, Tryd.ntmps42
    go_upto_region 2 with fail
    rw [← hw1']
    clear hw1'
    go_wp2_with (refine wpL_storeBlk (o := ⟨none, _, _, _, _, _⟩) rfl 26 (.tmp 4) (.tmp 38) rfl w.heap.size zeroC [.int .i64 6, .string v, .int .i64 0, .int .u32 0, .int .i64 0] rfl rfl HR2.out size_set rfl rfl ?_)
    intro w9 hR9 hg9 hz9
    have hB9 := below_row HA2.out hg9 (by have := HA2.out.size; omega) (Nat.le_refl _)
    go_wp2
    exact bodyPost_ret (ret_cell1 (load_set hR9 rfl) Tryd.results42 rfl) rfl ⟨rfl, hB9⟩
set_option maxRecDepth 20000 in
set_option maxHeartbeats 8000000 in
theorem guess_num (k : Int) (hk : k = 2 ∨ k = 8) (v : ByteArray) (w : World) (hv : v.size ≤ 281474976710656) (hT : BTabs w) :
    Calls Tryd.prog 42 #[.int .i64 k, .string v] w fun e w' => e = .returned (setV ⟨k, ⟨#[]⟩, (Ad.numOut v.data.toList 65535 : Int), 0, 0⟩) ∧ Below w.heap.size w w' := by
  have HN := Lib.hid (fun W => addr_Number v 65535 W hv)
  unfold setV
  generalize Ad.numOut v.data.toList 65535 = N at *
  generalize Ad.numErr v.data.toList 65535 = r at *
  rcases hk with rfl | rfl
  · have hS := two_sets w zeroC [.int .i64 2, .string ⟨#[]⟩, .int .i64 0, .int .u32 0, .int .i64 0] 26
    obtain ⟨w1, hw1⟩ : ∃ w1, w1 = (w.alloc (.cells zeroC.toArray 26)).alloc (.cells [.int .i64 2, .string ⟨#[]⟩, .int .i64 0, .int .u32 0, .int .i64 0].toArray 26) := ⟨_, rfl⟩
    rw [← hw1] at hS
    obtain ⟨hA, hR, hG⟩ := hS
    have HA := Lib.hid hA
    have HR := Lib.hid hR
    have HG := Lib.hid hG
    have c := (hT.2.below hA).at 2 (by decide) 5 2 rfl rfl
    have hlt := (hT.2.below hA).1
    have hgl := hG.lt
    have hrl := hR.lt
    have hw1' : w1 = (w.alloc (.cells #[.int .i64 0, .string ⟨#[]⟩, .int .i64 0, .int .u32 0, .int .i64 0] 26)).alloc (.cells #[.int .i64 2, .string ⟨#[]⟩, .int .i64 0, .int .u32 0, .int .i64 0] 26) := hw1
    obtain ⟨⟨g0, g1, g2, g3, g4⟩, ⟨z0, z1, z2, z3, z4⟩⟩ := hG.facts5
    clear hA hR hG hw1
    clear hT z0 z1 z2 z3 z4 g0 g1 g2 g3 g4
    go_enter Tryd.func42, Tryd.ntmps42
    go_upto_region 2 with fail
    rw [← hw1']
    clear hw1'
    go_wp2_with fail
    refine (HN.out w1).mono ?_
    rintro e w2 ⟨rfl, hb2⟩
    have hG2 := HG.out.kept hb2
    have hR2 := HR.out.kept hb2
    have hA2 := HA.out.trans (hb2.mono HA.out.size)
    obtain ⟨⟨g0, g1, g2, g3, g4⟩, ⟨z0, z1, z2, z3, z4⟩⟩ := hG2.facts5
    have hgl2 := hG2.lt
    have HG3 := Lib.hid (hG2.set (by decide) 2 (.int .i64 (N : Int)))
    have HR3 := Lib.hid (hR2.other (k := w.heap.size + 1) (i := 2) (by omega) (.int .i64 (N : Int)))
    have HA3 := Lib.hid (hA2.setCell (p := ⟨w.heap.size + 1, 2, none⟩) (Nat.le_succ _) (.int .i64 (N : Int)))
    clear hG2 hR2 hA2 hb2 c
    go_wp2_with (refine wpL_storeBlk (o := ⟨none, _, _, _, _, _⟩) rfl 26 (.tmp 4) (.tmp 38) rfl w.heap.size zeroC [.int .i64 2, .string ⟨#[]⟩, .int .i64 (N : Int), .int .u32 0, .int .i64 0] rfl rfl HR3.out size_set rfl rfl ?_)
    intro w9 hR9 hg9 hz9
    have hB9 := below_row HA3.out hg9 (by have := HA3.out.size; omega) (Nat.le_refl _)
    go_wp2
    exact bodyPost_ret (ret_cell1 (load_set hR9 rfl) Tryd.results42 rfl) rfl ⟨rfl, hB9⟩
  · have hS := two_sets w zeroC [.int .i64 8, .string ⟨#[]⟩, .int .i64 0, .int .u32 0, .int .i64 0] 26
    obtain ⟨w1, hw1⟩ : ∃ w1, w1 = (w.alloc (.cells zeroC.toArray 26)).alloc (.cells [.int .i64 8, .string ⟨#[]⟩, .int .i64 0, .int .u32 0, .int .i64 0].toArray 26) := ⟨_, rfl⟩
    rw [← hw1] at hS
    obtain ⟨hA, hR, hG⟩ := hS
    have HA := Lib.hid hA
    have HR := Lib.hid hR
    have HG := Lib.hid hG
    have c := (hT.2.below hA).at 8 (by decide) 17 2 rfl rfl
    have hlt := (hT.2.below hA).1
    have hgl := hG.lt
    have hrl := hR.lt
    have hw1' : w1 = (w.alloc (.cells #[.int .i64 0, .string ⟨#[]⟩, .int .i64 0, .int .u32 0, .int .i64 0] 26)).alloc (.cells #[.int .i64 8, .string ⟨#[]⟩, .int .i64 0, .int .u32 0, .int .i64 0] 26) := hw1
    obtain ⟨⟨g0, g1, g2, g3, g4⟩, ⟨z0, z1, z2, z3, z4⟩⟩ := hG.facts5
    clear hA hR hG hw1
    clear hT z0 z1 z2 z3 z4 g0 g1 g2 g3 g4
    go_enter Tryd.func42, Tryd.ntmps42
    go_upto_region 2 with fail
    rw [← hw1']
    clear hw1'
    go_wp2_with fail
    refine (HN.out w1).mono ?_
    rintro e w2 ⟨rfl, hb2⟩
    have hG2 := HG.out.kept hb2
    have hR2 := HR.out.kept hb2
    have hA2 := HA.out.trans (hb2.mono HA.out.size)
    obtain ⟨⟨g0, g1, g2, g3, g4⟩, ⟨z0, z1, z2, z3, z4⟩⟩ := hG2.facts5
    have hgl2 := hG2.lt
    have HG3 := Lib.hid (hG2.set (by decide) 2 (.int .i64 (N : Int)))
    have HR3 := Lib.hid (hR2.other (k := w.heap.size + 1) (i := 2) (by omega) (.int .i64 (N : Int)))
    have HA3 := Lib.hid (hA2.setCell (p := ⟨w.heap.size + 1, 2, none⟩) (Nat.le_succ _) (.int .i64 (N : Int)))
    clear hG2 hR2 hA2 hb2 c
    go_wp2_with (refine wpL_storeBlk (o := ⟨none, _, _, _, _, _⟩) rfl 26 (.tmp 4) (.tmp 38) rfl w.heap.size zeroC [.int .i64 8, .string ⟨#[]⟩, .int .i64 (N : Int), .int .u32 0, .int .i64 0] rfl rfl HR3.out size_set rfl rfl ?_)
    intro w9 hR9 hg9 hz9
    have hB9 := below_row HA3.out hg9 (by have := HA3.out.size; omega) (Nat.le_refl _)
    go_wp2
    exact bodyPost_ret (ret_cell1 (load_set hR9 rfl) Tryd.results42 rfl) rfl ⟨rfl, hB9⟩
set_option maxRecDepth 20000 in
set_option maxHeartbeats 8000000 in
theorem guess_net (v : ByteArray) (w : World) (hv : v.size ≤ 1048576) (hT : BTabs w) :
    Calls Tryd.prog 42 #[.int .i64 10, .string v] w fun e w' => e = .returned (setV ⟨10, ⟨#[]⟩, 0, Nt.parAddr v.data.toList, (Nt.parBits v.data.toList : Int)⟩) ∧ Below w.heap.size w w' := by
  have HN := Lib.hid (fun W hW => net_Parse v W hv (hT.1.below hW))
  unfold netV at HN
  unfold setV
  generalize Nt.parAddr v.data.toList = A at *
  generalize (Nt.parBits v.data.toList : Int) = B at *
  generalize Nt.parErr v.data.toList = r at *
  have hS := two_sets w zeroC [.int .i64 10, .string ⟨#[]⟩, .int .i64 0, .int .u32 0, .int .i64 0] 26
  obtain ⟨w1, hw1⟩ : ∃ w1, w1 = (w.alloc (.cells zeroC.toArray 26)).alloc (.cells [.int .i64 10, .string ⟨#[]⟩, .int .i64 0, .int .u32 0, .int .i64 0].toArray 26) := ⟨_, rfl⟩
  rw [← hw1] at hS
  obtain ⟨hA, hR, hG⟩ := hS
  have HA := Lib.hid hA
  have HR := Lib.hid hR
  have HG := Lib.hid hG
  have c := (hT.2.below hA).at 10 (by decide) 21 3 rfl rfl
  have hlt := (hT.2.below hA).1
  have hgl := hG.lt
  have hrl := hR.lt
  have hw1' : w1 = (w.alloc (.cells #[.int .i64 0, .string ⟨#[]⟩, .int .i64 0, .int .u32 0, .int .i64 0] 26)).alloc (.cells #[.int .i64 10, .string ⟨#[]⟩, .int .i64 0, .int .u32 0, .int .i64 0] 26) := hw1
  obtain ⟨⟨g0, g1, g2, g3, g4⟩, ⟨z0, z1, z2, z3, z4⟩⟩ := hG.facts5
  clear hA hR hG hw1
  clear hT z0 z1 z2 z3 z4 g0 g1 g2 g3 g4
  go_enter Tryd.func42, Tryd.ntmps42
  go_upto_region 2 with fail
  rw [← hw1']
  clear hw1'
  go_wp2_with fail
  refine (HN.out w1 HA.out).mono ?_
  rintro e w2 ⟨rfl, hb2⟩
  have hG2 := HG.out.kept hb2
  have hR2 := HR.out.kept hb2
  have hA2 := HA.out.trans (hb2.mono HA.out.size)
  obtain ⟨⟨g0, g1, g2, g3, g4⟩, ⟨z0, z1, z2, z3, z4⟩⟩ := hG2.facts5
  have hgl2 := hG2.lt
  have HG3 := Lib.hid ((hG2.set (by decide) 3 (.int .u32 (A : Int))).set (by show 5 ≤ maxLen; decide) 4 (.int .i64 B))
  have HR3 := Lib.hid ((hR2.other (k := w.heap.size + 1) (i := 3) (by omega) (.int .u32 (A : Int))).other (k := w.heap.size + 1) (i := 4) (by omega) (.int .i64 B))
  have HA3 := Lib.hid ((hA2.setCell (p := ⟨w.heap.size + 1, 3, none⟩) (Nat.le_succ _) (.int .u32 (A : Int))).setCell (p := ⟨w.heap.size + 1, 4, none⟩) (Nat.le_succ _) (.int .i64 B))
  clear hG2 hR2 hA2 hb2 c
  go_wp2_with (refine wpL_storeBlk (o := ⟨none, _, _, _, _, _⟩) rfl 26 (.tmp 4) (.tmp 38) rfl w.heap.size zeroC [.int .i64 10, .string ⟨#[]⟩, .int .i64 0, .int .u32 (A : Int), .int .i64 B] rfl rfl HR3.out size_set rfl rfl ?_)
  intro w9 hR9 hg9 hz9
  have hB9 := below_row HA3.out hg9 (by have := HA3.out.size; omega) (Nat.le_refl _)
  go_wp2
  exact bodyPost_ret (ret_cell1 (load_set hR9 rfl) Tryd.results42 rfl) rfl ⟨rfl, hB9⟩
/-- The setting that a line of a kind may be of. -/
theorem batch_guess (k : Int) (v : ByteArray) (w : World) (h1 : 1 ≤ k) (h2 : k ≤ 10) (hv : v.size ≤ 1048576) (hT : BTabs w) :
    Calls Tryd.prog 42 #[.int .i64 k, .string v] w fun e w' => e = .returned (setV (Bt.guess k v)) ∧ Below w.heap.size w w' := by
  rcases Bt.fld_cases k h1 h2 with rfl | rfl | rfl | rfl | rfl | rfl | rfl | rfl | rfl | rfl
  · exact guess_text 1 (by omega) v w hT
  · exact guess_num 2 (by omega) v w (by omega) hT
  · exact guess_none 3 (by omega) v w hT
  · exact guess_text 4 (by omega) v w hT
  · exact guess_none 5 (by omega) v w hT
  · have := guess_shared v w hT
    have e : Bt.guess 6 v = ⟨6, if v = Bt.zeros then ⟨#[]⟩ else v, 0, 0, 0⟩ := by
      unfold Bt.guess
      rw [if_pos (show Bt.fld 6 = 1 from rfl)]
      simp
    rw [e]
    exact this
  · exact guess_text 7 (by omega) v w hT
  · exact guess_num 8 (by omega) v w (by omega) hT
  · exact guess_none 9 (by omega) v w hT
  · exact guess_net v w hv hT
end Go.Proofs.YthlagpmacnijfaaDoor
