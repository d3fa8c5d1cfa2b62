/- The walk of LineSplits. -/
import Derived.Test.YtldfamdjdkaloabDoorLineRef3
import Derived.Test.YtldfamdjdkaloabDoorLineEq
import Derived.SizedLaws
namespace Go.Proofs.YtldfamdjdkaloabDoor
open Go.RowKit

theorem split_small (s : ByteArray) : (Ln.sOut s).length ≤ 60 := by
  unfold Ln.sOut
  split
  · rename_i h
    rw [List.length_map]
    obtain ⟨h1, h2⟩ := h
    unfold Ln.sBad at h1
    split at h1
    · cases h1
    · split at h1
      · cases h1
      · omega
  · simp
set_option maxHeartbeats 800000 in
theorem law_sameLines (a b : Option Addr) (n c d : Nat) (l : List Ln.L) (w : World) (hl : LinesAt w w.heap.size a n l) (hk : LinesAt w w.heap.size b n l) (hn : n ≤ 1000) :
    Calls Tryd.prog 10 #[.slice a n c, .slice b n d] w fun e w' => e = .returned (.bool true) ∧ Below w.heap.size w w' := by
  have HE := lines_Equal a b n n c d l l w hl hk (by omega)
  clear hl hk
  go_enter Tryd.func10, Tryd.ntmps10
  go_wp2_with fail
  refine HE.mono ?_
  rintro e w1 ⟨r, rfl, hr, hb⟩
  obtain rfl : r = true := hr.2 (by trivial)
  clear hr
  go_wp2
  go_ret
  exact ⟨rfl, hb⟩

set_option maxRecDepth 20000 in
set_option maxHeartbeats 1600000 in
theorem law_LineSplits (x : Ln.L) (s : ByteArray) (w : World) (_ : s.size ≤ reachBytes) (hM : MaxTab w) :
    Calls Tryd.prog 3 #[lineV x, .string s] w fun e w' => e = .returned (.bool true) ∧ Below w.heap.size w w' := by
  have H1 := Lib.hid (fun W => line_Check x W)
  have H2 := Lib.hid (fun W (hW : Below w.heap.size w W) => line_Split s W (hM.below hW))
  have H3 := Lib.hid (fun W => ref_LineFault x W)
  have H4 := Lib.hid (fun W (hW : Below w.heap.size w W) => ref_LinesOf s W (hM.below hW))
  have hsm := split_small s
  obtain ⟨X, Y⟩ := x
  unfold lineV at H1 H3 ⊢
  unfold SplitPost at H2 H4
  generalize Ln.err ⟨X, Y⟩ = r at *
  generalize Ln.sOut s = L at *
  generalize (Ln.sBad s).1 = bi at *
  generalize (Ln.sBad s).2 = br at *
  obtain ⟨w1, hw1⟩ : ∃ w1, w1 = w.alloc (.cells #[.string X, .string Y] 23) := ⟨_, rfl⟩
  have HA := Lib.hid (show Below w.heap.size w w1 by rw [hw1]; exact (Below.refl _ _).alloc (Nat.le_refl _) _)
  have HG := Lib.hid (show Blk w1 w.heap.size 23 [.string X, .string Y] by rw [hw1]; exact Blk.new _ _ _)
  clear hM
  go_enter Tryd.func3, Tryd.ntmps3
  go_wp2_with fail
  rw [← hw1]
  clear hw1
  refine (H1.out _).mono ?_
  rintro e w2 ⟨rfl, hb2⟩
  have HB2 := Lib.hid (HA.out.trans (hb2.mono HA.out.size))
  have HG2 := Lib.hid (HG.out.kept hb2)
  clear hb2
  go_wp2_with fail
  refine (H2.out w2 HB2.out).mono ?_
  rintro e w3 ⟨⟨a, c, rfl, hat⟩, hb3⟩
  have HB3 := Lib.hid (HB2.out.trans (hb3.mono HB2.out.size))
  have HG3 := Lib.hid (HG2.out.kept hb3)
  have HL3 := Lib.hid hat
  have c0 := HG3.out.cell 0 rfl
  have c1 := HG3.out.cell 1 rfl
  clear hb3 hat
  go_wp2_with fail
  refine (H3.out _).mono ?_
  rintro e w4 ⟨rfl, hb4⟩
  have HB4 := Lib.hid (HB3.out.trans (hb4.mono HB3.out.size))
  have HL4 := Lib.hid (HL3.out.kept hb4)
  clear hb4 c0 c1
  go_wp2_with fail
  refine (H4.out w4 HB4.out).mono ?_
  rintro e w5 ⟨⟨a', c', rfl, hat⟩, hb5⟩
  have HB5 := Lib.hid (HB4.out.trans (hb5.mono HB4.out.size))
  have HL5 := Lib.hid (HL4.out.kept hb5)
  have HS := Lib.hid (law_sameLines a a' L.length c c' L w5 HL5.out hat (by omega))
  clear hb5 hat H1 H2 H3 H4 HL3 HL4 HG HG2 HG3
  go_wp2_with fail
  refine HS.out.mono ?_
  rintro e w6 ⟨rfl, hb6⟩
  have HB6 := Lib.hid (HB5.out.trans (hb6.mono HB5.out.size))
  clear hb6
  go_wp2
  go_ret
  exact ⟨rfl, HB6.out⟩
end Go.Proofs.YtldfamdjdkaloabDoor
