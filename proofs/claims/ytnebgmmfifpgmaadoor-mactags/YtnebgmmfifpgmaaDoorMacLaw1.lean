/- The walk of the law MacTags. -/
import Derived.Test.YtnebgmmfifpgmaaDoorMacTag
import Derived.Test.YtnebgmmfifpgmaaDoorMacRef
import Derived.Test.YtnebgmmfifpgmaaDoorSame
import Derived.SizedLaws
namespace Go.Proofs.YtnebgmmfifpgmaaDoor
open Go.RowKit

set_option maxHeartbeats 400000 in
theorem law_MacTags (s : ByteArray) (a : Option Addr) (n c : Nat) (bs : List UInt8) (w : World) (hr : s.size ≤ reachBytes) (h : BytesAt w w.heap.size a n bs) (hnc : n ≤ c) (hnil : a = none → n = 0 ∧ c = 0) (hc : c ≤ reachBytes) (hT : Tabs w) :
    Calls Tryd.prog 3 #[.string s, .slice a n c] w fun e w' => e = .returned (.bool true) ∧ Below w.heap.size w w' := by
  have hs : s.size ≤ maxLen := Nat.le_trans hr (by decide)
  have hn : n ≤ maxLen := Nat.le_trans hnc (Nat.le_trans hc (by decide))
  have Hn := Lib.hid hnil
  have HT := Lib.hid hT
  clear hnil hnc hc hT hr
  go_enter Tryd.func3, Tryd.ntmps3
  go_wp2_with fail
  refine (mac_Tag s a n c bs _ hs h Hn.out hn HT.out).mono ?_
  rintro e w1 ⟨a1, n1, c1, rfl, ho1, hb1⟩
  have z1 := hb1.size
  have h2 := (h.below hb1).up z1
  have o1 := BytesAt.own ho1
  clear h ho1
  go_wp2_with fail
  refine (ref_MacTag s a n c bs _ hs h2 Hn.out hn).mono ?_
  rintro e w2 ⟨a2, n2, c2, rfl, ho2, hb2⟩
  have z2 := hb2.size
  have o2 := BytesAt.own ho2
  have o1' := o1.below hb2
  clear ho2 h2 o1
  go_wp2_with (go_at_call 9; refine (same_bytes _ _ _ _ _ _ _ _ _ _ o1' o2).mono ?_; rintro e w' ⟨rfl, rfl⟩)
  go_ret
  exact ⟨by simp, hb1.trans (hb2.mono z1)⟩
end Go.Proofs.YtnebgmmfifpgmaaDoor
