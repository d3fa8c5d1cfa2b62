/- The walk of ConfRights. -/
import Derived.Test.YtjdflnnpamjjcaaDoorCodeTabs
import Derived.Test.YtjdflnnpamjjcaaDoorConfCode2
import Derived.Test.YtjdflnnpamjjcaaDoorSd02
import Derived.SizedLaws
namespace Go.Proofs.YtjdflnnpamjjcaaDoor
theorem allTabs_code {w : World} (h : AllTabs w) : CodeTabs w := ⟨h.1, h.2.2⟩
end Go.Proofs.YtjdflnnpamjjcaaDoor

namespace Go.Proofs.YtjdflnnpamjjcaaDoor
open Go.RowKit

set_option maxRecDepth 20000 in
set_option maxHeartbeats 4000000 in
theorem law_ConfRights (p : Cf.P) (a : Option Addr) (c : Nat) (w : World) (h : NetsAt w w.heap.size a p.ns.length p.ns) (bd : PeerBounds p) (u : PeerSmall p) (hT : AllTabs w) :
    Calls Tryd.prog 3 #[peerV p a c] w fun e w' => e = .returned (.bool true) ∧ Below w.heap.size w w' := by
  have H1 := Lib.hid (fun W (hW : Below w.heap.size w W) => conf_Right p a c W ((h.below hW).more hW.size) u bd.1 bd.2.2.2 (allTabs_code (hT.below hW)))
  have H2 := Lib.hid (fun W (hW : Below w.heap.size w W) => ref_PeerFault p a c W ((h.below hW).more hW.size) u bd.1 (hT.below hW))
  clear h bd u hT
  generalize Cf.right p = r at *
  obtain ⟨pk, ps, pe, pv, ns⟩ := p
  unfold peerV at H1 H2 ⊢
  simp only at H1 H2 ⊢
  generalize ns.length = n at *
  obtain ⟨w1, hw1⟩ : ∃ w1, w1 = w.alloc (.cells #[.string pk, .string ps, .string pe, .int .i64 pv, .slice a n c] 24) := ⟨_, rfl⟩
  have HA := Lib.hid (show Below w.heap.size w w1 by rw [hw1]; exact (Below.refl _ _).alloc (Nat.le_refl _) _)
  have HG := Lib.hid (show Blk w1 w.heap.size 24 [.string pk, .string ps, .string pe, .int .i64 pv, .slice a n c] by rw [hw1]; exact Blk.new _ _ _)
  obtain ⟨g0, g1, g2, g3, g4⟩ := HG.out.facts5.1
  go_enter Tryd.func3, Tryd.ntmps3
  go_wp2_with fail
  rw [← hw1]
  clear hw1
  refine (H1.out w1 HA.out).mono ?_
  rintro e w2 ⟨rfl, hb2⟩
  have HG2 := Lib.hid (HG.out.kept hb2)
  have HA2 := Lib.hid (HA.out.trans (hb2.mono HA.out.size))
  clear hb2 H1 g0 g1 g2 g3 g4
  obtain ⟨g0, g1, g2, g3, g4⟩ := HG2.out.facts5.1
  go_wp2_with fail
  refine (H2.out w2 HA2.out).mono ?_
  rintro e w3 ⟨rfl, hb3⟩
  have HA3 := Lib.hid (HA2.out.trans (hb3.mono HA2.out.size))
  clear hb3
  go_wp2
  go_ret
  exact ⟨rfl, HA3.out⟩
end Go.Proofs.YtjdflnnpamjjcaaDoor
