/- The region of three calls of Net, in whatever order its operations come up. -/
import Derived.Test.YthcdebdohlffpaaNetInBlk
import Derived.Test.YthcdebdohlffpaaKeepNet
import Derived.Test.YthcdebdohlffpaaRegInv
import Derived.WalkKit
namespace Go.Proofs.Ythcdebdohlffpaa
open Go.RowKit

/-- What holds of the frame's values while the operations come up. -/
structure ThreeP (w1 : World) (R1 R2 R3 : Value) (A B C : Nat) (p q r : Int) (listed : Array Bool) (w : World) (v7 v8 v9 l1 c1 l2 c2 l3 c3 : Value) (g7 g8 g9 : Nat) : Prop where
  size : listed.size = 12
  below : Below w1.heap.size w1 w
  e0 : listed.getD 0 false = true → l1 = R1
  e1 : listed.getD 1 false = true → c1 = netV A p
  e2 : listed.getD 2 false = true → l2 = R2
  e3 : listed.getD 3 false = true → c2 = netV B q
  e4 : listed.getD 4 false = true → l3 = R3
  e5 : listed.getD 5 false = true → c3 = netV C r
  p6 : listed.getD 6 false = true → v7 = .pointer (some ⟨g7, 0, none⟩) ∧ w1.heap.size ≤ g7
  z6 : listed.getD 6 false = true → listed.getD 9 false = false → NetIn w g7 0 0
  n9 : listed.getD 9 false = true → NetIn w g7 A p
  i9 : listed.getD 9 false = true → listed.getD 6 false = true
  p7 : listed.getD 7 false = true → v8 = .pointer (some ⟨g8, 0, none⟩) ∧ w1.heap.size ≤ g8
  z7 : listed.getD 7 false = true → listed.getD 10 false = false → NetIn w g8 0 0
  n10 : listed.getD 10 false = true → NetIn w g8 B q
  i10 : listed.getD 10 false = true → listed.getD 7 false = true
  p8 : listed.getD 8 false = true → v9 = .pointer (some ⟨g9, 0, none⟩) ∧ w1.heap.size ≤ g9
  z8 : listed.getD 8 false = true → listed.getD 11 false = false → NetIn w g9 0 0
  n11 : listed.getD 11 false = true → NetIn w g9 C r
  i11 : listed.getD 11 false = true → listed.getD 8 false = true
  d78 : listed.getD 6 false = true → listed.getD 7 false = true → g7 ≠ g8
  d79 : listed.getD 6 false = true → listed.getD 8 false = true → g7 ≠ g9
  d89 : listed.getD 7 false = true → listed.getD 8 false = true → g8 ≠ g9
theorem set_same {l : Array Bool} {i : Nat} (h : i < l.size) : (l.setIfInBounds i true).getD i false = true := by simp [h]
theorem set_other {l : Array Bool} {i j : Nat} (h : i ≠ j) : (l.setIfInBounds i true).getD j false = l.getD j false := by simp [Array.getElem?_setIfInBounds_ne h]
def Three (w1 : World) (R1 R2 R3 : Value) (A B C : Nat) (p q r : Int) (fr : Value → Value → Value → Value → Value → Value → Value → Value → Value → Act) (listed : Array Bool) (a : Act) (w : World) : Prop :=
  ∃ (v7 v8 v9 l1 c1 l2 c2 l3 c3 : Value) (g7 g8 g9 : Nat), a = fr v7 v8 v9 l1 c1 l2 c2 l3 c3 ∧ ThreeP w1 R1 R2 R3 A B C p q r listed w v7 v8 v9 l1 c1 l2 c2 l3 c3 g7 g8 g9
section
variable {w1 : World} {R1 R2 R3 : Value} {A B C : Nat} {p q r : Int} {listed : Array Bool} {w w' : World} {v7 v8 v9 l1 c1 l2 c2 l3 c3 : Value} {g7 g8 g9 : Nat}
theorem ThreeP.begin (w1 : World) (w : World) (hb : Below w1.heap.size w1 w) : ThreeP w1 R1 R2 R3 A B C p q r (Array.replicate 12 false) w undef undef undef undef undef undef undef undef undef 0 0 0 := by
  constructor
  · simp
  · exact hb
  all_goals simp
theorem ThreeP.load1 (h : ThreeP w1 R1 R2 R3 A B C p q r listed w v7 v8 v9 l1 c1 l2 c2 l3 c3 g7 g8 g9) : ThreeP w1 R1 R2 R3 A B C p q r (listed.setIfInBounds 0 true) w v7 v8 v9 R1 c1 l2 c2 l3 c3 g7 g8 g9 := by
  have hi : (listed.setIfInBounds 0 true).getD 0 false = true := set_same (by rw [h.size]; decide)
  constructor
  · simpa using h.size
  · exact h.below
  · exact fun _ => rfl
  · rw [set_other (show 0 ≠ 1 by decide)]; exact h.e1
  · rw [set_other (show 0 ≠ 2 by decide)]; exact h.e2
  · rw [set_other (show 0 ≠ 3 by decide)]; exact h.e3
  · rw [set_other (show 0 ≠ 4 by decide)]; exact h.e4
  · rw [set_other (show 0 ≠ 5 by decide)]; exact h.e5
  · rw [set_other (show 0 ≠ 6 by decide)]; exact h.p6
  · rw [set_other (show 0 ≠ 6 by decide), set_other (show 0 ≠ 9 by decide)]; exact h.z6
  · rw [set_other (show 0 ≠ 9 by decide)]; exact h.n9
  · rw [set_other (show 0 ≠ 9 by decide), set_other (show 0 ≠ 6 by decide)]; exact h.i9
  · rw [set_other (show 0 ≠ 7 by decide)]; exact h.p7
  · rw [set_other (show 0 ≠ 7 by decide), set_other (show 0 ≠ 10 by decide)]; exact h.z7
  · rw [set_other (show 0 ≠ 10 by decide)]; exact h.n10
  · rw [set_other (show 0 ≠ 10 by decide), set_other (show 0 ≠ 7 by decide)]; exact h.i10
  · rw [set_other (show 0 ≠ 8 by decide)]; exact h.p8
  · rw [set_other (show 0 ≠ 8 by decide), set_other (show 0 ≠ 11 by decide)]; exact h.z8
  · rw [set_other (show 0 ≠ 11 by decide)]; exact h.n11
  · rw [set_other (show 0 ≠ 11 by decide), set_other (show 0 ≠ 8 by decide)]; exact h.i11
  · rw [set_other (show 0 ≠ 6 by decide), set_other (show 0 ≠ 7 by decide)]; exact h.d78
  · rw [set_other (show 0 ≠ 6 by decide), set_other (show 0 ≠ 8 by decide)]; exact h.d79
  · rw [set_other (show 0 ≠ 7 by decide), set_other (show 0 ≠ 8 by decide)]; exact h.d89
theorem ThreeP.load2 (h : ThreeP w1 R1 R2 R3 A B C p q r listed w v7 v8 v9 l1 c1 l2 c2 l3 c3 g7 g8 g9) : ThreeP w1 R1 R2 R3 A B C p q r (listed.setIfInBounds 2 true) w v7 v8 v9 l1 c1 R2 c2 l3 c3 g7 g8 g9 := by
  have hi : (listed.setIfInBounds 2 true).getD 2 false = true := set_same (by rw [h.size]; decide)
  constructor
  · simpa using h.size
  · exact h.below
  · rw [set_other (show 2 ≠ 0 by decide)]; exact h.e0
  · rw [set_other (show 2 ≠ 1 by decide)]; exact h.e1
  · exact fun _ => rfl
  · rw [set_other (show 2 ≠ 3 by decide)]; exact h.e3
  · rw [set_other (show 2 ≠ 4 by decide)]; exact h.e4
  · rw [set_other (show 2 ≠ 5 by decide)]; exact h.e5
  · rw [set_other (show 2 ≠ 6 by decide)]; exact h.p6
  · rw [set_other (show 2 ≠ 6 by decide), set_other (show 2 ≠ 9 by decide)]; exact h.z6
  · rw [set_other (show 2 ≠ 9 by decide)]; exact h.n9
  · rw [set_other (show 2 ≠ 9 by decide), set_other (show 2 ≠ 6 by decide)]; exact h.i9
  · rw [set_other (show 2 ≠ 7 by decide)]; exact h.p7
  · rw [set_other (show 2 ≠ 7 by decide), set_other (show 2 ≠ 10 by decide)]; exact h.z7
  · rw [set_other (show 2 ≠ 10 by decide)]; exact h.n10
  · rw [set_other (show 2 ≠ 10 by decide), set_other (show 2 ≠ 7 by decide)]; exact h.i10
  · rw [set_other (show 2 ≠ 8 by decide)]; exact h.p8
  · rw [set_other (show 2 ≠ 8 by decide), set_other (show 2 ≠ 11 by decide)]; exact h.z8
  · rw [set_other (show 2 ≠ 11 by decide)]; exact h.n11
  · rw [set_other (show 2 ≠ 11 by decide), set_other (show 2 ≠ 8 by decide)]; exact h.i11
  · rw [set_other (show 2 ≠ 6 by decide), set_other (show 2 ≠ 7 by decide)]; exact h.d78
  · rw [set_other (show 2 ≠ 6 by decide), set_other (show 2 ≠ 8 by decide)]; exact h.d79
  · rw [set_other (show 2 ≠ 7 by decide), set_other (show 2 ≠ 8 by decide)]; exact h.d89
theorem ThreeP.load3 (h : ThreeP w1 R1 R2 R3 A B C p q r listed w v7 v8 v9 l1 c1 l2 c2 l3 c3 g7 g8 g9) : ThreeP w1 R1 R2 R3 A B C p q r (listed.setIfInBounds 4 true) w v7 v8 v9 l1 c1 l2 c2 R3 c3 g7 g8 g9 := by
  have hi : (listed.setIfInBounds 4 true).getD 4 false = true := set_same (by rw [h.size]; decide)
  constructor
  · simpa using h.size
  · exact h.below
  · rw [set_other (show 4 ≠ 0 by decide)]; exact h.e0
  · rw [set_other (show 4 ≠ 1 by decide)]; exact h.e1
  · rw [set_other (show 4 ≠ 2 by decide)]; exact h.e2
  · rw [set_other (show 4 ≠ 3 by decide)]; exact h.e3
  · exact fun _ => rfl
  · rw [set_other (show 4 ≠ 5 by decide)]; exact h.e5
  · rw [set_other (show 4 ≠ 6 by decide)]; exact h.p6
  · rw [set_other (show 4 ≠ 6 by decide), set_other (show 4 ≠ 9 by decide)]; exact h.z6
  · rw [set_other (show 4 ≠ 9 by decide)]; exact h.n9
  · rw [set_other (show 4 ≠ 9 by decide), set_other (show 4 ≠ 6 by decide)]; exact h.i9
  · rw [set_other (show 4 ≠ 7 by decide)]; exact h.p7
  · rw [set_other (show 4 ≠ 7 by decide), set_other (show 4 ≠ 10 by decide)]; exact h.z7
  · rw [set_other (show 4 ≠ 10 by decide)]; exact h.n10
  · rw [set_other (show 4 ≠ 10 by decide), set_other (show 4 ≠ 7 by decide)]; exact h.i10
  · rw [set_other (show 4 ≠ 8 by decide)]; exact h.p8
  · rw [set_other (show 4 ≠ 8 by decide), set_other (show 4 ≠ 11 by decide)]; exact h.z8
  · rw [set_other (show 4 ≠ 11 by decide)]; exact h.n11
  · rw [set_other (show 4 ≠ 11 by decide), set_other (show 4 ≠ 8 by decide)]; exact h.i11
  · rw [set_other (show 4 ≠ 6 by decide), set_other (show 4 ≠ 7 by decide)]; exact h.d78
  · rw [set_other (show 4 ≠ 6 by decide), set_other (show 4 ≠ 8 by decide)]; exact h.d79
  · rw [set_other (show 4 ≠ 7 by decide), set_other (show 4 ≠ 8 by decide)]; exact h.d89
theorem ThreeP.call1 (h : ThreeP w1 R1 R2 R3 A B C p q r listed w v7 v8 v9 l1 c1 l2 c2 l3 c3 g7 g8 g9) (hb : Below w.heap.size w w') : ThreeP w1 R1 R2 R3 A B C p q r (listed.setIfInBounds 1 true) w' v7 v8 v9 l1 (netV A p) l2 c2 l3 c3 g7 g8 g9 := by
  have hi : (listed.setIfInBounds 1 true).getD 1 false = true := set_same (by rw [h.size]; decide)
  constructor
  · simpa using h.size
  · exact h.below.trans (hb.mono h.below.size)
  · rw [set_other (show 1 ≠ 0 by decide)]; exact h.e0
  · exact fun _ => rfl
  · rw [set_other (show 1 ≠ 2 by decide)]; exact h.e2
  · rw [set_other (show 1 ≠ 3 by decide)]; exact h.e3
  · rw [set_other (show 1 ≠ 4 by decide)]; exact h.e4
  · rw [set_other (show 1 ≠ 5 by decide)]; exact h.e5
  · rw [set_other (show 1 ≠ 6 by decide)]; exact h.p6
  · rw [set_other (show 1 ≠ 6 by decide), set_other (show 1 ≠ 9 by decide)]; exact fun x y => (h.z6 x y).below hb
  · rw [set_other (show 1 ≠ 9 by decide)]; exact fun x => (h.n9 x).below hb
  · rw [set_other (show 1 ≠ 9 by decide), set_other (show 1 ≠ 6 by decide)]; exact h.i9
  · rw [set_other (show 1 ≠ 7 by decide)]; exact h.p7
  · rw [set_other (show 1 ≠ 7 by decide), set_other (show 1 ≠ 10 by decide)]; exact fun x y => (h.z7 x y).below hb
  · rw [set_other (show 1 ≠ 10 by decide)]; exact fun x => (h.n10 x).below hb
  · rw [set_other (show 1 ≠ 10 by decide), set_other (show 1 ≠ 7 by decide)]; exact h.i10
  · rw [set_other (show 1 ≠ 8 by decide)]; exact h.p8
  · rw [set_other (show 1 ≠ 8 by decide), set_other (show 1 ≠ 11 by decide)]; exact fun x y => (h.z8 x y).below hb
  · rw [set_other (show 1 ≠ 11 by decide)]; exact fun x => (h.n11 x).below hb
  · rw [set_other (show 1 ≠ 11 by decide), set_other (show 1 ≠ 8 by decide)]; exact h.i11
  · rw [set_other (show 1 ≠ 6 by decide), set_other (show 1 ≠ 7 by decide)]; exact h.d78
  · rw [set_other (show 1 ≠ 6 by decide), set_other (show 1 ≠ 8 by decide)]; exact h.d79
  · rw [set_other (show 1 ≠ 7 by decide), set_other (show 1 ≠ 8 by decide)]; exact h.d89
theorem ThreeP.call2 (h : ThreeP w1 R1 R2 R3 A B C p q r listed w v7 v8 v9 l1 c1 l2 c2 l3 c3 g7 g8 g9) (hb : Below w.heap.size w w') : ThreeP w1 R1 R2 R3 A B C p q r (listed.setIfInBounds 3 true) w' v7 v8 v9 l1 c1 l2 (netV B q) l3 c3 g7 g8 g9 := by
  have hi : (listed.setIfInBounds 3 true).getD 3 false = true := set_same (by rw [h.size]; decide)
  constructor
  · simpa using h.size
  · exact h.below.trans (hb.mono h.below.size)
  · rw [set_other (show 3 ≠ 0 by decide)]; exact h.e0
  · rw [set_other (show 3 ≠ 1 by decide)]; exact h.e1
  · rw [set_other (show 3 ≠ 2 by decide)]; exact h.e2
  · exact fun _ => rfl
  · rw [set_other (show 3 ≠ 4 by decide)]; exact h.e4
  · rw [set_other (show 3 ≠ 5 by decide)]; exact h.e5
  · rw [set_other (show 3 ≠ 6 by decide)]; exact h.p6
  · rw [set_other (show 3 ≠ 6 by decide), set_other (show 3 ≠ 9 by decide)]; exact fun x y => (h.z6 x y).below hb
  · rw [set_other (show 3 ≠ 9 by decide)]; exact fun x => (h.n9 x).below hb
  · rw [set_other (show 3 ≠ 9 by decide), set_other (show 3 ≠ 6 by decide)]; exact h.i9
  · rw [set_other (show 3 ≠ 7 by decide)]; exact h.p7
  · rw [set_other (show 3 ≠ 7 by decide), set_other (show 3 ≠ 10 by decide)]; exact fun x y => (h.z7 x y).below hb
  · rw [set_other (show 3 ≠ 10 by decide)]; exact fun x => (h.n10 x).below hb
  · rw [set_other (show 3 ≠ 10 by decide), set_other (show 3 ≠ 7 by decide)]; exact h.i10
  · rw [set_other (show 3 ≠ 8 by decide)]; exact h.p8
  · rw [set_other (show 3 ≠ 8 by decide), set_other (show 3 ≠ 11 by decide)]; exact fun x y => (h.z8 x y).below hb
  · rw [set_other (show 3 ≠ 11 by decide)]; exact fun x => (h.n11 x).below hb
  · rw [set_other (show 3 ≠ 11 by decide), set_other (show 3 ≠ 8 by decide)]; exact h.i11
  · rw [set_other (show 3 ≠ 6 by decide), set_other (show 3 ≠ 7 by decide)]; exact h.d78
  · rw [set_other (show 3 ≠ 6 by decide), set_other (show 3 ≠ 8 by decide)]; exact h.d79
  · rw [set_other (show 3 ≠ 7 by decide), set_other (show 3 ≠ 8 by decide)]; exact h.d89
theorem ThreeP.call3 (h : ThreeP w1 R1 R2 R3 A B C p q r listed w v7 v8 v9 l1 c1 l2 c2 l3 c3 g7 g8 g9) (hb : Below w.heap.size w w') : ThreeP w1 R1 R2 R3 A B C p q r (listed.setIfInBounds 5 true) w' v7 v8 v9 l1 c1 l2 c2 l3 (netV C r) g7 g8 g9 := by
  have hi : (listed.setIfInBounds 5 true).getD 5 false = true := set_same (by rw [h.size]; decide)
  constructor
  · simpa using h.size
  · exact h.below.trans (hb.mono h.below.size)
  · rw [set_other (show 5 ≠ 0 by decide)]; exact h.e0
  · rw [set_other (show 5 ≠ 1 by decide)]; exact h.e1
  · rw [set_other (show 5 ≠ 2 by decide)]; exact h.e2
  · rw [set_other (show 5 ≠ 3 by decide)]; exact h.e3
  · rw [set_other (show 5 ≠ 4 by decide)]; exact h.e4
  · exact fun _ => rfl
  · rw [set_other (show 5 ≠ 6 by decide)]; exact h.p6
  · rw [set_other (show 5 ≠ 6 by decide), set_other (show 5 ≠ 9 by decide)]; exact fun x y => (h.z6 x y).below hb
  · rw [set_other (show 5 ≠ 9 by decide)]; exact fun x => (h.n9 x).below hb
  · rw [set_other (show 5 ≠ 9 by decide), set_other (show 5 ≠ 6 by decide)]; exact h.i9
  · rw [set_other (show 5 ≠ 7 by decide)]; exact h.p7
  · rw [set_other (show 5 ≠ 7 by decide), set_other (show 5 ≠ 10 by decide)]; exact fun x y => (h.z7 x y).below hb
  · rw [set_other (show 5 ≠ 10 by decide)]; exact fun x => (h.n10 x).below hb
  · rw [set_other (show 5 ≠ 10 by decide), set_other (show 5 ≠ 7 by decide)]; exact h.i10
  · rw [set_other (show 5 ≠ 8 by decide)]; exact h.p8
  · rw [set_other (show 5 ≠ 8 by decide), set_other (show 5 ≠ 11 by decide)]; exact fun x y => (h.z8 x y).below hb
  · rw [set_other (show 5 ≠ 11 by decide)]; exact fun x => (h.n11 x).below hb
  · rw [set_other (show 5 ≠ 11 by decide), set_other (show 5 ≠ 8 by decide)]; exact h.i11
  · rw [set_other (show 5 ≠ 6 by decide), set_other (show 5 ≠ 7 by decide)]; exact h.d78
  · rw [set_other (show 5 ≠ 6 by decide), set_other (show 5 ≠ 8 by decide)]; exact h.d79
  · rw [set_other (show 5 ≠ 7 by decide), set_other (show 5 ≠ 8 by decide)]; exact h.d89
theorem ThreeP.alloc7 (h : ThreeP w1 R1 R2 R3 A B C p q r listed w v7 v8 v9 l1 c1 l2 c2 l3 c3 g7 g8 g9) (h0 : listed.getD 9 false = false) : ThreeP w1 R1 R2 R3 A B C p q r (listed.setIfInBounds 6 true) (w.alloc (.cells #[.int .u32 0, .int .i64 0] 24)) (.pointer (some ⟨w.heap.size, 0, none⟩)) v8 v9 l1 c1 l2 c2 l3 c3 w.heap.size g8 g9 := by
  have hi : (listed.setIfInBounds 6 true).getD 6 false = true := set_same (by rw [h.size]; decide)
  constructor
  · simpa using h.size
  · exact h.below.trans (((Below.refl w.heap.size w).alloc (Nat.le_refl _) (.cells #[.int .u32 0, .int .i64 0] 24)).mono h.below.size)
  · rw [set_other (show 6 ≠ 0 by decide)]; exact h.e0
  · rw [set_other (show 6 ≠ 1 by decide)]; exact h.e1
  · rw [set_other (show 6 ≠ 2 by decide)]; exact h.e2
  · rw [set_other (show 6 ≠ 3 by decide)]; exact h.e3
  · rw [set_other (show 6 ≠ 4 by decide)]; exact h.e4
  · rw [set_other (show 6 ≠ 5 by decide)]; exact h.e5
  · exact fun _ => ⟨rfl, h.below.size⟩
  · rw [set_other (show 6 ≠ 9 by decide)]; exact fun _ _ => heap_alloc_last w _
  · rw [set_other (show 6 ≠ 9 by decide)]; exact fun x => by rw [h0] at x; cases x
  · rw [set_other (show 6 ≠ 9 by decide)]; exact fun _ => hi
  · rw [set_other (show 6 ≠ 7 by decide)]; exact h.p7
  · rw [set_other (show 6 ≠ 7 by decide), set_other (show 6 ≠ 10 by decide)]; exact fun x y => (h.z7 x y).below ((Below.refl w.heap.size w).alloc (Nat.le_refl _) (.cells #[.int .u32 0, .int .i64 0] 24))
  · rw [set_other (show 6 ≠ 10 by decide)]; exact fun x => (h.n10 x).below ((Below.refl w.heap.size w).alloc (Nat.le_refl _) (.cells #[.int .u32 0, .int .i64 0] 24))
  · rw [set_other (show 6 ≠ 10 by decide), set_other (show 6 ≠ 7 by decide)]; exact h.i10
  · rw [set_other (show 6 ≠ 8 by decide)]; exact h.p8
  · rw [set_other (show 6 ≠ 8 by decide), set_other (show 6 ≠ 11 by decide)]; exact fun x y => (h.z8 x y).below ((Below.refl w.heap.size w).alloc (Nat.le_refl _) (.cells #[.int .u32 0, .int .i64 0] 24))
  · rw [set_other (show 6 ≠ 11 by decide)]; exact fun x => (h.n11 x).below ((Below.refl w.heap.size w).alloc (Nat.le_refl _) (.cells #[.int .u32 0, .int .i64 0] 24))
  · rw [set_other (show 6 ≠ 11 by decide), set_other (show 6 ≠ 8 by decide)]; exact h.i11
  · rw [set_other (show 6 ≠ 7 by decide)]; exact fun _ x => Nat.ne_of_gt (by cases hj : listed.getD 10 false; exact (h.z7 x hj).lt; exact (h.n10 hj).lt : g8 < w.heap.size)
  · rw [set_other (show 6 ≠ 8 by decide)]; exact fun _ x => Nat.ne_of_gt (by cases hj : listed.getD 11 false; exact (h.z8 x hj).lt; exact (h.n11 hj).lt : g9 < w.heap.size)
  · rw [set_other (show 6 ≠ 7 by decide), set_other (show 6 ≠ 8 by decide)]; exact h.d89
theorem ThreeP.alloc8 (h : ThreeP w1 R1 R2 R3 A B C p q r listed w v7 v8 v9 l1 c1 l2 c2 l3 c3 g7 g8 g9) (h0 : listed.getD 10 false = false) : ThreeP w1 R1 R2 R3 A B C p q r (listed.setIfInBounds 7 true) (w.alloc (.cells #[.int .u32 0, .int .i64 0] 24)) v7 (.pointer (some ⟨w.heap.size, 0, none⟩)) v9 l1 c1 l2 c2 l3 c3 g7 w.heap.size g9 := by
  have hi : (listed.setIfInBounds 7 true).getD 7 false = true := set_same (by rw [h.size]; decide)
  constructor
  · simpa using h.size
  · exact h.below.trans (((Below.refl w.heap.size w).alloc (Nat.le_refl _) (.cells #[.int .u32 0, .int .i64 0] 24)).mono h.below.size)
  · rw [set_other (show 7 ≠ 0 by decide)]; exact h.e0
  · rw [set_other (show 7 ≠ 1 by decide)]; exact h.e1
  · rw [set_other (show 7 ≠ 2 by decide)]; exact h.e2
  · rw [set_other (show 7 ≠ 3 by decide)]; exact h.e3
  · rw [set_other (show 7 ≠ 4 by decide)]; exact h.e4
  · rw [set_other (show 7 ≠ 5 by decide)]; exact h.e5
  · rw [set_other (show 7 ≠ 6 by decide)]; exact h.p6
  · rw [set_other (show 7 ≠ 6 by decide), set_other (show 7 ≠ 9 by decide)]; exact fun x y => (h.z6 x y).below ((Below.refl w.heap.size w).alloc (Nat.le_refl _) (.cells #[.int .u32 0, .int .i64 0] 24))
  · rw [set_other (show 7 ≠ 9 by decide)]; exact fun x => (h.n9 x).below ((Below.refl w.heap.size w).alloc (Nat.le_refl _) (.cells #[.int .u32 0, .int .i64 0] 24))
  · rw [set_other (show 7 ≠ 9 by decide), set_other (show 7 ≠ 6 by decide)]; exact h.i9
  · exact fun _ => ⟨rfl, h.below.size⟩
  · rw [set_other (show 7 ≠ 10 by decide)]; exact fun _ _ => heap_alloc_last w _
  · rw [set_other (show 7 ≠ 10 by decide)]; exact fun x => by rw [h0] at x; cases x
  · rw [set_other (show 7 ≠ 10 by decide)]; exact fun _ => hi
  · rw [set_other (show 7 ≠ 8 by decide)]; exact h.p8
  · rw [set_other (show 7 ≠ 8 by decide), set_other (show 7 ≠ 11 by decide)]; exact fun x y => (h.z8 x y).below ((Below.refl w.heap.size w).alloc (Nat.le_refl _) (.cells #[.int .u32 0, .int .i64 0] 24))
  · rw [set_other (show 7 ≠ 11 by decide)]; exact fun x => (h.n11 x).below ((Below.refl w.heap.size w).alloc (Nat.le_refl _) (.cells #[.int .u32 0, .int .i64 0] 24))
  · rw [set_other (show 7 ≠ 11 by decide), set_other (show 7 ≠ 8 by decide)]; exact h.i11
  · rw [set_other (show 7 ≠ 6 by decide)]; exact fun x _ => Nat.ne_of_lt (by cases hj : listed.getD 9 false; exact (h.z6 x hj).lt; exact (h.n9 hj).lt : g7 < w.heap.size)
  · rw [set_other (show 7 ≠ 6 by decide), set_other (show 7 ≠ 8 by decide)]; exact h.d79
  · rw [set_other (show 7 ≠ 8 by decide)]; exact fun _ x => Nat.ne_of_gt (by cases hj : listed.getD 11 false; exact (h.z8 x hj).lt; exact (h.n11 hj).lt : g9 < w.heap.size)
theorem ThreeP.alloc9 (h : ThreeP w1 R1 R2 R3 A B C p q r listed w v7 v8 v9 l1 c1 l2 c2 l3 c3 g7 g8 g9) (h0 : listed.getD 11 false = false) : ThreeP w1 R1 R2 R3 A B C p q r (listed.setIfInBounds 8 true) (w.alloc (.cells #[.int .u32 0, .int .i64 0] 24)) v7 v8 (.pointer (some ⟨w.heap.size, 0, none⟩)) l1 c1 l2 c2 l3 c3 g7 g8 w.heap.size := by
  have hi : (listed.setIfInBounds 8 true).getD 8 false = true := set_same (by rw [h.size]; decide)
  constructor
  · simpa using h.size
  · exact h.below.trans (((Below.refl w.heap.size w).alloc (Nat.le_refl _) (.cells #[.int .u32 0, .int .i64 0] 24)).mono h.below.size)
  · rw [set_other (show 8 ≠ 0 by decide)]; exact h.e0
  · rw [set_other (show 8 ≠ 1 by decide)]; exact h.e1
  · rw [set_other (show 8 ≠ 2 by decide)]; exact h.e2
  · rw [set_other (show 8 ≠ 3 by decide)]; exact h.e3
  · rw [set_other (show 8 ≠ 4 by decide)]; exact h.e4
  · rw [set_other (show 8 ≠ 5 by decide)]; exact h.e5
  · rw [set_other (show 8 ≠ 6 by decide)]; exact h.p6
  · rw [set_other (show 8 ≠ 6 by decide), set_other (show 8 ≠ 9 by decide)]; exact fun x y => (h.z6 x y).below ((Below.refl w.heap.size w).alloc (Nat.le_refl _) (.cells #[.int .u32 0, .int .i64 0] 24))
  · rw [set_other (show 8 ≠ 9 by decide)]; exact fun x => (h.n9 x).below ((Below.refl w.heap.size w).alloc (Nat.le_refl _) (.cells #[.int .u32 0, .int .i64 0] 24))
  · rw [set_other (show 8 ≠ 9 by decide), set_other (show 8 ≠ 6 by decide)]; exact h.i9
  · rw [set_other (show 8 ≠ 7 by decide)]; exact h.p7
  · rw [set_other (show 8 ≠ 7 by decide), set_other (show 8 ≠ 10 by decide)]; exact fun x y => (h.z7 x y).below ((Below.refl w.heap.size w).alloc (Nat.le_refl _) (.cells #[.int .u32 0, .int .i64 0] 24))
  · rw [set_other (show 8 ≠ 10 by decide)]; exact fun x => (h.n10 x).below ((Below.refl w.heap.size w).alloc (Nat.le_refl _) (.cells #[.int .u32 0, .int .i64 0] 24))
  · rw [set_other (show 8 ≠ 10 by decide), set_other (show 8 ≠ 7 by decide)]; exact h.i10
  · exact fun _ => ⟨rfl, h.below.size⟩
  · rw [set_other (show 8 ≠ 11 by decide)]; exact fun _ _ => heap_alloc_last w _
  · rw [set_other (show 8 ≠ 11 by decide)]; exact fun x => by rw [h0] at x; cases x
  · rw [set_other (show 8 ≠ 11 by decide)]; exact fun _ => hi
  · rw [set_other (show 8 ≠ 6 by decide), set_other (show 8 ≠ 7 by decide)]; exact h.d78
  · rw [set_other (show 8 ≠ 6 by decide)]; exact fun x _ => Nat.ne_of_lt (by cases hj : listed.getD 9 false; exact (h.z6 x hj).lt; exact (h.n9 hj).lt : g7 < w.heap.size)
  · rw [set_other (show 8 ≠ 7 by decide)]; exact fun x _ => Nat.ne_of_lt (by cases hj : listed.getD 10 false; exact (h.z7 x hj).lt; exact (h.n10 hj).lt : g8 < w.heap.size)
theorem ThreeP.store7 (h : ThreeP w1 R1 R2 R3 A B C p q r listed w v7 v8 v9 l1 c1 l2 c2 l3 c3 g7 g8 g9) (h0 : listed.getD 9 false = false) (hl : listed.getD 6 false = true) : ThreeP w1 R1 R2 R3 A B C p q r (listed.setIfInBounds 9 true) ((w.setCell ⟨g7, 0, none⟩ (.int .u32 (A : Int))).setCell ⟨g7, 1, none⟩ (.int .i64 p)) v7 v8 v9 l1 c1 l2 c2 l3 c3 g7 g8 g9 := by
  have hi : (listed.setIfInBounds 9 true).getD 9 false = true := set_same (by rw [h.size]; decide)
  constructor
  · simpa using h.size
  · exact (h.below.setCell (h.p6 hl).2 _).setCell (h.p6 hl).2 _
  · rw [set_other (show 9 ≠ 0 by decide)]; exact h.e0
  · rw [set_other (show 9 ≠ 1 by decide)]; exact h.e1
  · rw [set_other (show 9 ≠ 2 by decide)]; exact h.e2
  · rw [set_other (show 9 ≠ 3 by decide)]; exact h.e3
  · rw [set_other (show 9 ≠ 4 by decide)]; exact h.e4
  · rw [set_other (show 9 ≠ 5 by decide)]; exact h.e5
  · rw [set_other (show 9 ≠ 6 by decide)]; exact h.p6
  · rw [set_other (show 9 ≠ 6 by decide)]; exact fun _ x => by rw [hi] at x; cases x
  · exact fun _ => (h.z6 hl h0).set _ _
  · rw [set_other (show 9 ≠ 6 by decide)]; exact fun _ => hl
  · rw [set_other (show 9 ≠ 7 by decide)]; exact h.p7
  · rw [set_other (show 9 ≠ 7 by decide), set_other (show 9 ≠ 10 by decide)]; exact fun x y => (h.z7 x y).other (h.d78 hl x) _ _
  · rw [set_other (show 9 ≠ 10 by decide)]; exact fun x => (h.n10 x).other (h.d78 hl (h.i10 x)) _ _
  · rw [set_other (show 9 ≠ 10 by decide), set_other (show 9 ≠ 7 by decide)]; exact h.i10
  · rw [set_other (show 9 ≠ 8 by decide)]; exact h.p8
  · rw [set_other (show 9 ≠ 8 by decide), set_other (show 9 ≠ 11 by decide)]; exact fun x y => (h.z8 x y).other (h.d79 hl x) _ _
  · rw [set_other (show 9 ≠ 11 by decide)]; exact fun x => (h.n11 x).other (h.d79 hl (h.i11 x)) _ _
  · rw [set_other (show 9 ≠ 11 by decide), set_other (show 9 ≠ 8 by decide)]; exact h.i11
  · rw [set_other (show 9 ≠ 6 by decide), set_other (show 9 ≠ 7 by decide)]; exact h.d78
  · rw [set_other (show 9 ≠ 6 by decide), set_other (show 9 ≠ 8 by decide)]; exact h.d79
  · rw [set_other (show 9 ≠ 7 by decide), set_other (show 9 ≠ 8 by decide)]; exact h.d89
theorem ThreeP.store8 (h : ThreeP w1 R1 R2 R3 A B C p q r listed w v7 v8 v9 l1 c1 l2 c2 l3 c3 g7 g8 g9) (h0 : listed.getD 10 false = false) (hl : listed.getD 7 false = true) : ThreeP w1 R1 R2 R3 A B C p q r (listed.setIfInBounds 10 true) ((w.setCell ⟨g8, 0, none⟩ (.int .u32 (B : Int))).setCell ⟨g8, 1, none⟩ (.int .i64 q)) v7 v8 v9 l1 c1 l2 c2 l3 c3 g7 g8 g9 := by
  have hi : (listed.setIfInBounds 10 true).getD 10 false = true := set_same (by rw [h.size]; decide)
  constructor
  · simpa using h.size
  · exact (h.below.setCell (h.p7 hl).2 _).setCell (h.p7 hl).2 _
  · rw [set_other (show 10 ≠ 0 by decide)]; exact h.e0
  · rw [set_other (show 10 ≠ 1 by decide)]; exact h.e1
  · rw [set_other (show 10 ≠ 2 by decide)]; exact h.e2
  · rw [set_other (show 10 ≠ 3 by decide)]; exact h.e3
  · rw [set_other (show 10 ≠ 4 by decide)]; exact h.e4
  · rw [set_other (show 10 ≠ 5 by decide)]; exact h.e5
  · rw [set_other (show 10 ≠ 6 by decide)]; exact h.p6
  · rw [set_other (show 10 ≠ 6 by decide), set_other (show 10 ≠ 9 by decide)]; exact fun x y => (h.z6 x y).other ((h.d78 x hl).symm) _ _
  · rw [set_other (show 10 ≠ 9 by decide)]; exact fun x => (h.n9 x).other ((h.d78 (h.i9 x) hl).symm) _ _
  · rw [set_other (show 10 ≠ 9 by decide), set_other (show 10 ≠ 6 by decide)]; exact h.i9
  · rw [set_other (show 10 ≠ 7 by decide)]; exact h.p7
  · rw [set_other (show 10 ≠ 7 by decide)]; exact fun _ x => by rw [hi] at x; cases x
  · exact fun _ => (h.z7 hl h0).set _ _
  · rw [set_other (show 10 ≠ 7 by decide)]; exact fun _ => hl
  · rw [set_other (show 10 ≠ 8 by decide)]; exact h.p8
  · rw [set_other (show 10 ≠ 8 by decide), set_other (show 10 ≠ 11 by decide)]; exact fun x y => (h.z8 x y).other (h.d89 hl x) _ _
  · rw [set_other (show 10 ≠ 11 by decide)]; exact fun x => (h.n11 x).other (h.d89 hl (h.i11 x)) _ _
  · rw [set_other (show 10 ≠ 11 by decide), set_other (show 10 ≠ 8 by decide)]; exact h.i11
  · rw [set_other (show 10 ≠ 6 by decide), set_other (show 10 ≠ 7 by decide)]; exact h.d78
  · rw [set_other (show 10 ≠ 6 by decide), set_other (show 10 ≠ 8 by decide)]; exact h.d79
  · rw [set_other (show 10 ≠ 7 by decide), set_other (show 10 ≠ 8 by decide)]; exact h.d89
theorem ThreeP.store9 (h : ThreeP w1 R1 R2 R3 A B C p q r listed w v7 v8 v9 l1 c1 l2 c2 l3 c3 g7 g8 g9) (h0 : listed.getD 11 false = false) (hl : listed.getD 8 false = true) : ThreeP w1 R1 R2 R3 A B C p q r (listed.setIfInBounds 11 true) ((w.setCell ⟨g9, 0, none⟩ (.int .u32 (C : Int))).setCell ⟨g9, 1, none⟩ (.int .i64 r)) v7 v8 v9 l1 c1 l2 c2 l3 c3 g7 g8 g9 := by
  have hi : (listed.setIfInBounds 11 true).getD 11 false = true := set_same (by rw [h.size]; decide)
  constructor
  · simpa using h.size
  · exact (h.below.setCell (h.p8 hl).2 _).setCell (h.p8 hl).2 _
  · rw [set_other (show 11 ≠ 0 by decide)]; exact h.e0
  · rw [set_other (show 11 ≠ 1 by decide)]; exact h.e1
  · rw [set_other (show 11 ≠ 2 by decide)]; exact h.e2
  · rw [set_other (show 11 ≠ 3 by decide)]; exact h.e3
  · rw [set_other (show 11 ≠ 4 by decide)]; exact h.e4
  · rw [set_other (show 11 ≠ 5 by decide)]; exact h.e5
  · rw [set_other (show 11 ≠ 6 by decide)]; exact h.p6
  · rw [set_other (show 11 ≠ 6 by decide), set_other (show 11 ≠ 9 by decide)]; exact fun x y => (h.z6 x y).other ((h.d79 x hl).symm) _ _
  · rw [set_other (show 11 ≠ 9 by decide)]; exact fun x => (h.n9 x).other ((h.d79 (h.i9 x) hl).symm) _ _
  · rw [set_other (show 11 ≠ 9 by decide), set_other (show 11 ≠ 6 by decide)]; exact h.i9
  · rw [set_other (show 11 ≠ 7 by decide)]; exact h.p7
  · rw [set_other (show 11 ≠ 7 by decide), set_other (show 11 ≠ 10 by decide)]; exact fun x y => (h.z7 x y).other ((h.d89 x hl).symm) _ _
  · rw [set_other (show 11 ≠ 10 by decide)]; exact fun x => (h.n10 x).other ((h.d89 (h.i10 x) hl).symm) _ _
  · rw [set_other (show 11 ≠ 10 by decide), set_other (show 11 ≠ 7 by decide)]; exact h.i10
  · rw [set_other (show 11 ≠ 8 by decide)]; exact h.p8
  · rw [set_other (show 11 ≠ 8 by decide)]; exact fun _ x => by rw [hi] at x; cases x
  · exact fun _ => (h.z8 hl h0).set _ _
  · rw [set_other (show 11 ≠ 8 by decide)]; exact fun _ => hl
  · rw [set_other (show 11 ≠ 6 by decide), set_other (show 11 ≠ 7 by decide)]; exact h.d78
  · rw [set_other (show 11 ≠ 6 by decide), set_other (show 11 ≠ 8 by decide)]; exact h.d79
  · rw [set_other (show 11 ≠ 7 by decide), set_other (show 11 ≠ 8 by decide)]; exact h.d89
end
end Go.Proofs.Ythcdebdohlffpaa
