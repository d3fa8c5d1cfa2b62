/- The worlds in which the region of a data message's fields may stand. -/
import Derived.Test.YtfgkodgdoplpbabWireKeep1
import Derived.Test.YtfgkodgdoplpbabRegDet
namespace Go.Proofs.Ytfgkodgdoplpbab
open Go.RowKit

def msgDst (i : Nat) : Option Nat := ([some 13, some 14, some 15, some 16, some 17, some 18, some 19, some 20, some 21, some 22, some 23, some 24, some 25, none, some 26, none, some 27, none] : List (Option Nat)).getD i none
theorem msg_dist (i j : Nat) (h : i < j) (hj : j < 18) : msgDst i = none ∨ msgDst i ≠ msgDst j := (by decide : ∀ j, j < 18 → ∀ i, i < j → (msgDst i = none ∨ msgDst i ≠ msgDst j)) j hj i h
theorem msg_in (i d : Nat) (hi : i < 18) (hd : msgDst i = some d) : d ≤ 27 := by
  have h := (by decide : ∀ i, i < 18 → (msgDst i).getD 0 ≤ 27) i hi
  rw [hd] at h
  exact h
def msgF (g G z : Nat) (a b : Int) (R C q M : Nat) (s : ByteArray) (i : Nat) : Value :=
  ([.pointer (some ⟨g, 1, none⟩), .int .i64 a, .int .i64 (R : Int), .pointer (some ⟨g, 2, none⟩), .int .i64 b, .int .i64 (C : Int), .pointer (some ⟨g, 3, none⟩), .string s, .int .i64 (s.size : Int), .int .i64 (q : Int), .int .i64 (M : Int), .slice (some ⟨z, 0, none⟩) M M, .pointer (some ⟨G, 2, none⟩), undef, .pointer (some ⟨G, 3, none⟩), undef, .pointer (some ⟨G, 4, none⟩), undef] : List Value).getD i undef
theorem msg_put (g G z : Nat) (a b : Int) (R C q M : Nat) (s : ByteArray) (a0 : Act) : putAll msgDst (msgF g G z a b R C q M s) a0 18 = (((((((((((((((a0.put (some 13) (.pointer (some ⟨g, 1, none⟩))).put (some 14) (.int .i64 a)).put (some 15) (.int .i64 (R : Int))).put (some 16) (.pointer (some ⟨g, 2, none⟩))).put (some 17) (.int .i64 b)).put (some 18) (.int .i64 (C : Int))).put (some 19) (.pointer (some ⟨g, 3, none⟩))).put (some 20) (.string s)).put (some 21) (.int .i64 (s.size : Int))).put (some 22) (.int .i64 (q : Int))).put (some 23) (.int .i64 (M : Int))).put (some 24) (.slice (some ⟨z, 0, none⟩) M M)).put (some 25) (.pointer (some ⟨G, 2, none⟩))).put (some 26) (.pointer (some ⟨G, 3, none⟩))).put (some 27) (.pointer (some ⟨G, 4, none⟩))) := by
  rw [putAll_none 18 17 rfl rfl, putAll_some 17 16 27 _ rfl rfl rfl, putAll_none 16 15 rfl rfl, putAll_some 15 14 26 _ rfl rfl rfl, putAll_none 14 13 rfl rfl, putAll_some 13 12 25 _ rfl rfl rfl, putAll_some 12 11 24 _ rfl rfl rfl, putAll_some 11 10 23 _ rfl rfl rfl, putAll_some 10 9 22 _ rfl rfl rfl, putAll_some 9 8 21 _ rfl rfl rfl, putAll_some 8 7 20 _ rfl rfl rfl, putAll_some 7 6 19 _ rfl rfl rfl, putAll_some 6 5 18 _ rfl rfl rfl, putAll_some 5 4 17 _ rfl rfl rfl, putAll_some 4 3 16 _ rfl rfl rfl, putAll_some 3 2 15 _ rfl rfl rfl, putAll_some 2 1 14 _ rfl rfl rfl, putAll_some 1 0 13 _ rfl rfl rfl]
  rfl
def msgW (w : World) (G : Nat) (x y z : Value) (Z : Obj) (l : Array Bool) : World :=
  let w1 := if l.getD 13 false = true then w.setCell ⟨G, 2, none⟩ x else w
  let w2 := if l.getD 15 false = true then w1.setCell ⟨G, 3, none⟩ y else w1
  let w3 := if l.getD 17 false = true then w2.setCell ⟨G, 4, none⟩ z else w2
  if l.getD 11 false = true then w3.alloc Z else w3
theorem if_blk {c : Bool} {W : World} {g k i : Nat} {t : TypeId} {xs : List Value} {u : Value} (h : Blk W g t xs) (hne : g ≠ k) : Blk (if c = true then W.setCell ⟨k, i, none⟩ u else W) g t xs := by
  cases c
  · exact h
  · exact h.other hne u
theorem if_mess {c : Bool} {W : World} {k i : Nat} {t : TypeId} {u : Value} (h : ∃ x0 x1 x2 x3 x4, Blk W k t [x0, x1, x2, x3, x4]) (hi : i < 5) : ∃ x0 x1 x2 x3 x4, Blk (if c = true then W.setCell ⟨k, i, none⟩ u else W) k t [x0, x1, x2, x3, x4] := by
  obtain ⟨x0, x1, x2, x3, x4, h⟩ := h
  cases c
  · exact ⟨_, _, _, _, _, h⟩
  · have := h.set (by show 5 ≤ maxLen; decide) i u
    have h5 : i = 0 ∨ i = 1 ∨ i = 2 ∨ i = 3 ∨ i = 4 := by omega
    rcases h5 with rfl | rfl | rfl | rfl | rfl <;> exact ⟨_, _, _, _, _, this⟩
section
variable {w : World} {G : Nat} {x y z : Value} {Z : Obj} {l : Array Bool}
theorem msgW_raw {g : Nat} {t : TypeId} {xs : List Value} (h : Blk w g t xs) (hne : g ≠ G) : Blk (msgW w G x y z Z l) g t xs := by
  have h3 := if_blk (c := l.getD 17 false) (i := 4) (u := z) (if_blk (c := l.getD 15 false) (i := 3) (u := y) (if_blk (c := l.getD 13 false) (i := 2) (u := x) h hne) hne) hne
  unfold msgW
  simp only
  split
  · exact h3.kept (step_alloc _ _)
  · exact h3
theorem msgW_mess {t : TypeId} (h : ∃ x0 x1 x2 x3 x4, Blk w G t [x0, x1, x2, x3, x4]) : ∃ x0 x1 x2 x3 x4, Blk (msgW w G x y z Z l) G t [x0, x1, x2, x3, x4] := by
  have h3 := if_mess (c := l.getD 17 false) (i := 4) (u := z) (if_mess (c := l.getD 15 false) (i := 3) (u := y) (if_mess (c := l.getD 13 false) (i := 2) (u := x) h (by decide)) (by decide)) (by decide)
  unfold msgW
  simp only
  split
  · obtain ⟨x0, x1, x2, x3, x4, h3⟩ := h3
    exact ⟨_, _, _, _, _, h3.kept (step_alloc _ _)⟩
  · exact h3
theorem msgW_other {i : Nat} (h1 : i ≠ 11) (h2 : i ≠ 13) (h3 : i ≠ 15) (h4 : i ≠ 17) : msgW w G x y z Z (l.setIfInBounds i true) = msgW w G x y z Z l := by
  unfold msgW
  rw [mark_other h1, mark_other h2, mark_other h3, mark_other h4]
theorem msgW_make (h : l.getD 11 false = false) (hs : 11 < l.size) : msgW w G x y z Z (l.setIfInBounds 11 true) = (msgW w G x y z Z l).alloc Z := by
  unfold msgW
  rw [mark_same hs, mark_other (show (11 : Nat) ≠ 13 by decide), mark_other (show (11 : Nat) ≠ 15 by decide), mark_other (show (11 : Nat) ≠ 17 by decide), h]
  simp
theorem msgW_size (h : l.getD 11 false = false) : (msgW w G x y z Z l).heap.size = w.heap.size := by
  unfold msgW
  rw [h]
  simp only [Bool.false_eq_true, if_false]
  split <;> split <;> split <;> simp
theorem msgW_13 (h15 : l.getD 15 false = false) (h17 : l.getD 17 false = false) (h13 : l.getD 13 false = false) (hs : 13 < l.size) (hG : G < w.heap.size) : msgW w G x y z Z (l.setIfInBounds 13 true) = (msgW w G x y z Z l).setCell ⟨G, 2, none⟩ x := by
  unfold msgW
  rw [mark_same hs, mark_other (show (13 : Nat) ≠ 11 by decide), mark_other (show (13 : Nat) ≠ 15 by decide), mark_other (show (13 : Nat) ≠ 17 by decide), h15, h17, h13]
  cases l.getD 11 false
  · simp
  · simp
    exact (World.setCell_alloc_past _ _ _ _ (by simpa using hG)).symm
theorem msgW_15 (h13 : l.getD 13 false = true) (h17 : l.getD 17 false = false) (h15 : l.getD 15 false = false) (hs : 15 < l.size) (hG : G < w.heap.size) : msgW w G x y z Z (l.setIfInBounds 15 true) = (msgW w G x y z Z l).setCell ⟨G, 3, none⟩ y := by
  unfold msgW
  rw [mark_same hs, mark_other (show (15 : Nat) ≠ 11 by decide), mark_other (show (15 : Nat) ≠ 13 by decide), mark_other (show (15 : Nat) ≠ 17 by decide), h15, h17, h13]
  cases l.getD 11 false
  · simp
  · simp
    exact (World.setCell_alloc_past _ _ _ _ (by simpa using hG)).symm
theorem msgW_17 (h13 : l.getD 13 false = true) (h15 : l.getD 15 false = true) (h11 : l.getD 11 false = true) (h17 : l.getD 17 false = false) (hs : 17 < l.size) (hG : G < w.heap.size) : msgW w G x y z Z (l.setIfInBounds 17 true) = (msgW w G x y z Z l).setCell ⟨G, 4, none⟩ z := by
  unfold msgW
  rw [mark_same hs, mark_other (show (17 : Nat) ≠ 11 by decide), mark_other (show (17 : Nat) ≠ 13 by decide), mark_other (show (17 : Nat) ≠ 15 by decide), h15, h17, h13, h11]
  simp
  exact (World.setCell_alloc_past _ _ _ _ (by simpa using hG)).symm
end
end Go.Proofs.Ytfgkodgdoplpbab
