/- What the last region of the reference's SettingLine does, operation by operation. -/
import Derived.Test.YthlagpmacnijfaaGreatDoorBatchRef3
import Derived.Test.YthlagpmacnijfaaGreatDoorBatchNames
import Derived.Test.YthlagpmacnijfaaGreatDoorLineBlk
import Derived.Test.YthlagpmacnijfaaGreatDoorRegVals
namespace Go.Proofs.YthlagpmacnijfaaGreatDoor
open Go.RowKit

set_option maxRecDepth 20000 in
set_option maxHeartbeats 800000 in
theorem ref_names (w : World) : Calls Tryz.prog 16 #[] w fun e w' => e = .returned (.slice (some ⟨w.heap.size, 0, none⟩) 11 11) ∧ Blk w' w.heap.size 9 nameCells ∧ Below w.heap.size w w' := by
  go_enter Tryz.func16, Tryz.ntmps16
  go_wp2
  go_ret
  exact ⟨rfl, Blk.new w 9 nameCells, (Below.refl _ _).alloc (Nat.le_refl _) _⟩
def setC2 (k : Int) (t : ByteArray) (n : Int) (a : Nat) (b : Int) : List Value := [.int .i64 k, .string t, .int .i64 n, .int .u32 (a : Int), .int .i64 b]
def lineSpec2 (G : Nat) (k : Nat) (C : List Value) (X V : ByteArray) (j : Nat) (v : Value) (w : World) : Prop :=
  match j with
  | 0 => ∃ g, v = .slice (some ⟨g, 0, none⟩) 11 11 ∧ Blk w g 9 nameCells
  | 1 => v = .pointer (some ⟨G, 0, none⟩) ∧ Blk w G 28 C
  | 2 => v = .int .i64 (k : Int)
  | 3 => ∃ g, v = .pointer (some ⟨g, k, none⟩) ∧ Blk w g 9 nameCells
  | 4 => v = .string X
  | 5 => v = .string V
  | 6 => v = lineV ⟨X, V⟩
  | 7 => True
  | _ => v = .int .i64 0
theorem lineSpec2_kept {G k : Nat} {C : List Value} {X V : ByteArray} {j : Nat} {v : Value} {w w' : World} (hb : Below w.heap.size w w') (h : lineSpec2 G k C X V j v w) : lineSpec2 G k C X V j v w' := by
  unfold lineSpec2 at *
  split at h
  · obtain ⟨g, h1, h2⟩ := h; exact ⟨g, h1, h2.kept hb⟩
  · exact ⟨h.1, h.2.kept hb⟩
  · exact h
  · obtain ⟨g, h1, h2⟩ := h; exact ⟨g, h1, h2.kept hb⟩
  · exact h
  · exact h
  · exact h
  · exact h
  · exact h
def lineDst2 (i : Nat) : Option Nat := ([some 42, some 43, some 44, some 45, some 46, some 47, some 48, none, some 3] : List (Option Nat)).getD i none
theorem line_dist2 (i j : Nat) (h : i < j) (hj : j < 9) : lineDst2 i = none ∨ lineDst2 i ≠ lineDst2 j := (by decide : ∀ j, j < 9 → ∀ i, i < j → (lineDst2 i = none ∨ lineDst2 i ≠ lineDst2 j)) j hj i h
theorem line_in2 (i d : Nat) (hi : i < 9) (hd : lineDst2 i = some d) : (d = 3 ∨ 42 ≤ d) ∧ d ≤ 48 := by
  have h := (by decide : ∀ i, i < 9 → ((lineDst2 i).getD 3 = 3 ∨ 42 ≤ (lineDst2 i).getD 3) ∧ (lineDst2 i).getD 0 ≤ 48) i hi
  rw [hd] at h
  exact h
theorem line_put2 (F : Nat → Value) (a0 : Act) : putAll lineDst2 F a0 9 = ((((((((a0.put (some 42) (F 0)).put (some 43) (F 1)).put (some 44) (F 2)).put (some 45) (F 3)).put (some 46) (F 4)).put (some 47) (F 5)).put (some 48) (F 6)).put (some 3) (F 8)) := by
  rw [putAll_some 9 8 3 _ rfl rfl rfl, putAll_none 8 7 rfl rfl, putAll_some 7 6 48 _ rfl rfl rfl, putAll_some 6 5 47 _ rfl rfl rfl, putAll_some 5 4 46 _ rfl rfl rfl, putAll_some 4 3 45 _ rfl rfl rfl, putAll_some 3 2 44 _ rfl rfl rfl, putAll_some 2 1 43 _ rfl rfl rfl, putAll_some 1 0 42 _ rfl rfl rfl]
  rfl
/-- The value of a line before an empty key is shown. -/
def Bt.val0 (s : Bt.S) : ByteArray := if Bt.fld s.k = 2 then Ln.ofT (Lib.itoa s.n) else if s.k = 3 ∨ s.k = 5 ∨ s.k = 9 then Bt.isTrue else if s.k = 10 then Ln.ofT (Nt.textOut s.a s.b) else s.t
end Go.Proofs.YthlagpmacnijfaaGreatDoor
