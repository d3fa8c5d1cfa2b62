/- The laws NetTells and NetBack walked. -/
import Derived.Test.YthcdebdohlffpaaDoorNetCode2
import Derived.Test.YthcdebdohlffpaaDoorNetRef6
import Derived.Test.YthcdebdohlffpaaDoorCodeTabs
import Derived.Test.YthcdebdohlffpaaDoorKeepNet
import Derived.Test.YthcdebdohlffpaaDoorKeepNetText
import Derived.Laws.StructEq
namespace Go.Proofs.YthcdebdohlffpaaDoor
open Go.RowKit

set_option maxRecDepth 20000 in
set_option maxHeartbeats 800000 in
theorem law_NetTells (a : Nat) (b : Int) (s : ByteArray) (w : World) (ha : a < 4294967296) (b0 : -9223372036854775808 ≤ b) (b1 : b ≤ 9223372036854775807) (hs : s.size ≤ 1048576) (hT : PowTab w) (hE : ErrTab w) (hM : MaxTab w) :
    Calls Tryd.prog 3 #[netV a b, .string s] w fun e w' => e = .returned (.bool true) ∧ Below w.heap.size w w' := by
  obtain ⟨w1, hw1⟩ : ∃ w1, w1 = w.alloc (.cells #[.int .u32 (a : Int), .int .i64 b] 24) := ⟨_, rfl⟩
  have hg1 : w1.heap[w.heap.size]? = some (.cells #[.int .u32 (a : Int), .int .i64 b] 24 (0, 0)) := by rw [hw1]; exact heap_alloc_last w _
  have hA : Below w.heap.size w w1 := by rw [hw1]; exact (Below.refl _ _).alloc (Nat.le_refl _) _
  have hz1 : w1.heap.size = w.heap.size + 1 := by rw [hw1]; simp
  have Hg1 := Lib.hid hg1
  have HT := Lib.hid (hT.below hA)
  have HE := Lib.hid (hE.below hA)
  have HM := Lib.hid (hM.below hA)
  have H1 : Hid (∀ W, Below w1.heap.size w1 W → _) := Lib.hid (fun W hW => net_Text a b W ha b0 b1 ⟨HT.out.below hW, HM.out.below hW⟩)
  have H2 : Hid (∀ W, Below w1.heap.size w1 W → _) := Lib.hid (fun W hW => net_Parse s W hs ⟨HT.out.below hW, HM.out.below hW⟩)
  have H3 : Hid (∀ W, Below w1.heap.size w1 W → _) := Lib.hid (fun W hW => ref_NetText a b W ha (HT.out.below hW))
  have H4 : Hid (∀ W, Below w1.heap.size w1 W → _) := Lib.hid (fun W hW => ref_NetParsed s W hs (HT.out.below hW) (HE.out.below hW) (HM.out.below hW))
  clear hg1 hT hE hM HT HE HM
  unfold netV at H1 H2 H3 H4 ⊢
  generalize Nt.err a b = r at *
  generalize strOf (Nt.textOut a b) = T at *
  generalize Nt.parAddr s.data.toList = A at *
  generalize Nt.parBits s.data.toList = B at *
  generalize Nt.parErr s.data.toList = q at *
  obtain ⟨c0, c1⟩ := net_cells Hg1.out (Below.refl _ _)
  go_enter Tryd.func3, Tryd.ntmps3
  go_wp2_with fail
  rw [← hw1]
  refine (H1.out _ (Below.refl _ _)).mono ?_
  rintro e w2 ⟨rfl, hb2⟩
  clear c0 c1
  go_wp2_with fail
  refine (H2.out _ hb2).mono ?_
  rintro e w3 ⟨rfl, hb3⟩
  have hB3 := hb2.trans (hb3.mono hb2.size)
  have hz3 : w.heap.size < w3.heap.size := by have := hB3.size; omega
  obtain ⟨c0, c1⟩ := net_cells Hg1.out hB3
  go_wp2_with fail
  refine (H3.out _ (hB3.alloc hB3.size _)).mono ?_
  rintro e w4 ⟨rfl, hb4⟩
  have Hb4 := Lib.hid hb4
  have hB4 := (hB3.alloc hB3.size _).trans (hb4.mono (by simp; omega))
  clear c0 c1 hb4
  go_wp2_with fail
  refine (H4.out _ hB4).mono ?_
  rintro e w5 ⟨rfl, hb5⟩
  have hB5 := hB4.trans (hb5.mono hB4.size)
  obtain ⟨d0, d1⟩ := net_cells (heap_alloc_last w3 _) (Hb4.out.trans (hb5.mono Hb4.out.size))
  have hz5 : w3.heap.size < w5.heap.size := by have h1 := Hb4.out.size; have h2 := hb5.size; simp at h1; omega
  have hB6 := hA.trans (hB5.mono (by omega))
  go_wp2
  go_ret
  exact ⟨by simp, hB6.alloc hB6.size _⟩
end Go.Proofs.YthcdebdohlffpaaDoor
