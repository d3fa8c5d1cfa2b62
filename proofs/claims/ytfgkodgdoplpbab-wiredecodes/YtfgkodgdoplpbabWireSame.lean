/- The contract of the laws' sameMessage at two messages that read the same. -/
import Derived.Test.YtfgkodgdoplpbabWireCode5
import Derived.Test.YtfgkodgdoplpbabSame
namespace Go.Proofs.Ytfgkodgdoplpbab
open Go.RowKit

set_option maxHeartbeats 1600000 in
theorem same_message (k s r t : Int) (n m c c' B B' : Nat) (a b : Option Addr) (bs : List UInt8) (w : World) (h : BytesAt w B a n bs) (h' : BytesAt w B' b m bs) (hB : B ≤ w.heap.size) (hB' : B' ≤ w.heap.size) :
    Calls Try.prog 15 #[messV k s r t a n c, messV k s r t b m c'] w fun e w' => e = .returned (.bool true) ∧ Below w.heap.size w w' := by
  have g1 := Blk.new w 24 [.int .i64 k, .int .i64 s, .int .i64 r, .int .i64 t, .slice a n c]
  have b1 : Below w.heap.size w (w.alloc (.cells #[.int .i64 k, .int .i64 s, .int .i64 r, .int .i64 t, .slice a n c] 24)) := (Below.refl _ _).alloc (Nat.le_refl _) _
  have g2 := Blk.new (w.alloc (.cells #[.int .i64 k, .int .i64 s, .int .i64 r, .int .i64 t, .slice a n c] 24)) 24 [.int .i64 k, .int .i64 s, .int .i64 r, .int .i64 t, .slice b m c']
  rw [show (w.alloc (.cells #[.int .i64 k, .int .i64 s, .int .i64 r, .int .i64 t, .slice a n c] 24)).heap.size = w.heap.size + 1 by simp] at g2
  have g1' := g1.kept ((Below.refl _ _).alloc (Nat.le_refl _) (.cells #[.int .i64 k, .int .i64 s, .int .i64 r, .int .i64 t, .slice b m c'] 24))
  have hA := b1.alloc b1.size (.cells #[.int .i64 k, .int .i64 s, .int .i64 r, .int .i64 t, .slice b m c'] 24)
  have Hb1 := Lib.hid ((h.up hB).below hA)
  have Hb2 := Lib.hid ((h'.up hB').below hA)
  obtain ⟨p0, p1, p2, p3, p4⟩ := g1'.facts5.1
  obtain ⟨q0, q1, q2, q3, q4⟩ := g2.facts5.1
  have HA := Lib.hid hA
  clear g1 g2 g1' h h' hA b1
  unfold messV
  go_enter Try.func15, Try.ntmps15
  go_wp2_with (go_at_call 12; refine (same_bytes _ _ _ _ _ _ _ _ _ _ Hb1.out Hb2.out).mono ?_; rintro e w' ⟨rfl, rfl⟩)
  go_ret
  exact ⟨by simp, HA.out⟩
end Go.Proofs.Ytfgkodgdoplpbab
