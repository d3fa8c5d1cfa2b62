/- The contracts of the program's wire.shapeOf, headSize, within, lacks, Check. -/
import Derived.Test.YtfgkodgdoplpbabStructMem
import Derived.Test.YtfgkodgdoplpbabPackMem
import Derived.Test.YtfgkodgdoplpbabWirePlain
namespace Go.Proofs.Ytfgkodgdoplpbab
open Go.RowKit

def shapeL (k : Int) : List Value :=
  if k = 1 then [.int .i64 4, .int .i64 0, .int .i64 0, .int .i64 32, .int .i64 32] else if k = 2 then [.int .i64 4, .int .i64 4, .int .i64 0, .int .i64 24, .int .i64 24]
    else if k = 4 then [.int .i64 0, .int .i64 4, .int .i64 8, .int .i64 16, .int .i64 236] else [.int .i64 0, .int .i64 0, .int .i64 0, .int .i64 0, .int .i64 0]
def messV (k s r c : Int) (a : Option Addr) (n cap : Nat) : Value := .agg #[.int .i64 k, .int .i64 s, .int .i64 r, .int .i64 c, .slice a n cap]
theorem size_shape : (Try.prog.info? 45).map (·.size) = some 5 := by kernel_rfl
theorem size_mess : (Try.prog.info? 24).map (·.size) = some 5 := by kernel_rfl
theorem load_shape {w : World} {g : Nat} {xs : List Value} (R : Blk w g 45 xs) (h : xs.length = 5) : (loadVar 45 ⟨g, 0, none⟩).run Try.prog w = .ok (.agg xs.toArray) w :=
  run_loadVar_row (P := Try.prog) w g 45 45 xs.toArray (0, 0) _ R Try.underlying45 rfl (by rw [size_shape]; simp [h])
theorem load_mess {w : World} {g : Nat} {xs : List Value} (R : Blk w g 24 xs) (h : xs.length = 5) : (loadVar 24 ⟨g, 0, none⟩).run Try.prog w = .ok (.agg xs.toArray) w :=
  run_loadVar_row (P := Try.prog) w g 24 24 xs.toArray (0, 0) _ R Try.underlying24 rfl (by rw [size_mess]; simp [h])
theorem shapeL_length (k : Int) : (shapeL k).length = 5 := by unfold shapeL; split <;> (try split) <;> (try split) <;> rfl

set_option maxHeartbeats 800000 in
theorem wire_shapeOf (k : Int) (w : World) :
    Calls Try.prog 20 #[.int .i64 k] w fun e w' => e = .returned (.tuple #[.agg (shapeL k).toArray, .bool (decide (Wr.Known k))]) ∧ Below w.heap.size w w' := by
  have h0 : Blk (w.alloc (.cells #[.int .i64 0, .int .i64 0, .int .i64 0, .int .i64 0, .int .i64 0] 45)) w.heap.size 45 [.int .i64 0, .int .i64 0, .int .i64 0, .int .i64 0, .int .i64 0] := Blk.new w _ _
  have hB : Below w.heap.size w (w.alloc (.cells #[.int .i64 0, .int .i64 0, .int .i64 0, .int .i64 0, .int .i64 0] 45)) := (Below.refl _ _).alloc (Nat.le_refl _) _
  have H : Hid (∀ W, Blk W w.heap.size 45 (shapeL k) → ∀ tmps b, tmps.getD 2 undef = .pointer (some ⟨w.heap.size, 0, none⟩) → tmps.getD 3 undef = .bool b → b = decide (Wr.Known k) → (results Try.f20 tmps).run Try.prog W = .ok (.tuple #[.agg (shapeL k).toArray, .bool (decide (Wr.Known k))]) W) :=
    Lib.hid (fun W hW tmps b h2 h3 hb => by subst hb; exact ret_cell (load_shape hW (shapeL_length k)) Try.results20 h2 h3)
  have HB : Hid (∀ xs : List Value, Below w.heap.size w (w.alloc (.cells xs.toArray 45))) := Lib.hid (fun xs => (Below.refl _ _).alloc (Nat.le_refl _) _)
  clear h0 hB
  by_cases h1 : k = 1
  · subst h1
    go_enter Try.func20, Try.ntmps20
    go_wp2
    exact bodyPost_ret (H.out _ (Blk.new w _ (shapeL 1)) _ _ rfl rfl rfl) rfl ⟨rfl, HB.out _⟩
  · by_cases h2 : k = 2
    · subst h2
      clear h1
      go_enter Try.func20, Try.ntmps20
      go_wp2
      exact bodyPost_ret (H.out _ (Blk.new w _ (shapeL 2)) _ _ rfl rfl rfl) rfl ⟨rfl, HB.out _⟩
    · by_cases h4 : k = 4
      · subst h4
        clear h1 h2
        go_enter Try.func20, Try.ntmps20
        go_wp2
        exact bodyPost_ret (H.out _ (Blk.new w _ (shapeL 4)) _ _ rfl rfl rfl) rfl ⟨rfl, HB.out _⟩
      · have HK : Hid (shapeL k = [.int .i64 0, .int .i64 0, .int .i64 0, .int .i64 0, .int .i64 0]) := Lib.hid (by unfold shapeL; rw [if_neg h1, if_neg h2, if_neg h4])
        have HD : Hid (false = decide (Wr.Known k)) := Lib.hid (by symm; exact decide_eq_false (by unfold Wr.Known; omega))
        go_enter Try.func20, Try.ntmps20
        go_wp2
        exact bodyPost_ret (H.out _ (by rw [HK.out]; exact Blk.new w _ _) _ _ rfl rfl HD.out) rfl ⟨rfl, HB.out _⟩

set_option maxHeartbeats 400000 in
theorem wire_headSize (k : Nat) (hk : k = 1 ∨ k = 2 ∨ k = 4) (w : World) :
    Calls Try.prog 23 #[.agg (shapeL k).toArray] w fun e w' => e = .returned (.int .i64 (Wr.head k : Int)) ∧ w' = w.alloc (.cells (shapeL k).toArray 45) := by
  rcases hk with rfl | rfl | rfl
  · have h := Blk.new w 45 (shapeL 1)
    have c0 := h.cell 0 rfl
    have c1 := h.cell 1 rfl
    have c2 := h.cell 2 rfl
    clear h
    go_enter Try.func23, Try.ntmps23
    go_wp2
    go_ret
    exact ⟨rfl, rfl⟩
  · have h := Blk.new w 45 (shapeL 2)
    have c0 := h.cell 0 rfl
    have c1 := h.cell 1 rfl
    have c2 := h.cell 2 rfl
    clear h
    go_enter Try.func23, Try.ntmps23
    go_wp2
    go_ret
    exact ⟨rfl, rfl⟩
  · have h := Blk.new w 45 (shapeL 4)
    have c0 := h.cell 0 rfl
    have c1 := h.cell 1 rfl
    have c2 := h.cell 2 rfl
    clear h
    go_enter Try.func23, Try.ntmps23
    go_wp2
    go_ret
    exact ⟨rfl, rfl⟩

set_option maxHeartbeats 400000 in
theorem wire_within (n m : Int) (w : World) :
    Calls Try.prog 22 #[.int .i64 n, .int .i64 m] w fun e w' => e = .returned (.bool (Wr.inR n m)) ∧ w = w' := by
  by_cases h0 : 0 ≤ n
  · by_cases h1 : n ≤ m
    · have HD : Hid (Wr.inR n m = true) := Lib.hid (Wr.inR_true h0 h1)
      go_enter Try.func22, Try.ntmps22
      go_wp2
      go_ret
      exact ⟨by rw [HD.out]; rfl, rfl⟩
    · have HD : Hid (Wr.inR n m = false) := Lib.hid (Wr.inR_false (by omega))
      go_enter Try.func22, Try.ntmps22
      go_wp2
      go_ret
      exact ⟨by rw [HD.out]; rfl, rfl⟩
  · have HD : Hid (Wr.inR n m = false) := Lib.hid (Wr.inR_false (by omega))
    go_enter Try.func22, Try.ntmps22
    go_wp2
    go_ret
    exact ⟨by rw [HD.out]; rfl, rfl⟩

set_option maxHeartbeats 4000000 in
theorem wire_lacks (k s r c : Int) (hk : Wr.Known k) (a : Option Addr) (n cap : Nat) (w : World) :
    Calls Try.prog 21 #[.agg (shapeL k).toArray, messV k s r c a n cap] w fun e w' => e = .returned (.bool (Wr.lacks k s r c)) ∧ Below w.heap.size w w' := by
  have h := Blk.new w 45 (shapeL k)
  have hB : Below w.heap.size w (w.alloc (.cells (shapeL k).toArray 45)) := (Below.refl _ _).alloc (Nat.le_refl _) _
  have g := Blk.new (w.alloc (.cells (shapeL k).toArray 45)) 24 [.int .i64 k, .int .i64 s, .int .i64 r, .int .i64 c, .slice a n cap]
  have h' := h.kept ((Below.refl _ _).alloc (Nat.le_refl _) (.cells #[.int .i64 k, .int .i64 s, .int .i64 r, .int .i64 c, .slice a n cap] 24))
  rw [show (w.alloc (.cells (shapeL k).toArray 45)).heap.size = w.heap.size + 1 by simp] at g
  have HB := Lib.hid (hB.alloc hB.size (.cells #[.int .i64 k, .int .i64 s, .int .i64 r, .int .i64 c, .slice a n cap] 24))
  have m1 := g.cell 1 rfl
  have m2 := g.cell 2 rfl
  have m3 := g.cell 3 rfl
  have HD : Hid (∀ b, (Wr.Lacks k s r c ↔ b = true) → Wr.lacks k s r c = b) := Lib.hid (fun b hb => by
    unfold Wr.lacks
    cases b
    · exact decide_eq_false (fun h => by cases hb.1 h)
    · exact decide_eq_true (hb.2 rfl))
  unfold messV
  rcases hk with rfl | rfl | rfl
  all_goals
    have c0 := h'.cell 0 rfl
    have c1 := h'.cell 1 rfl
    have c2 := h'.cell 2 rfl
    clear h hB g h'
    generalize Wr.lacks _ s r c = L at *
    unfold Wr.Lacks at HD
    by_cases hs : s = 0
    all_goals (try subst hs)
    all_goals by_cases hr : r = 0
    all_goals (try subst hr)
    all_goals by_cases hc : c = 0
    all_goals (try subst hc)
    all_goals
      go_enter Try.func21, Try.ntmps21
      go_wp2
      go_ret
      refine ⟨congrArg (fun b => Ending.returned (Value.bool b)) (HD.out _ ?_).symm, HB.out⟩
      simp
      try omega
end Go.Proofs.Ytfgkodgdoplpbab
