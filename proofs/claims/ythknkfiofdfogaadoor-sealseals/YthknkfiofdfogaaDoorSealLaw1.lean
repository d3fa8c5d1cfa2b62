/- The walks of the laws SealStreams, SealSeals and SealOpens. -/
import Derived.Test.YthknkfiofdfogaaDoorSealCode
import Derived.Test.YthknkfiofdfogaaDoorSealRef3
import Derived.Test.YthknkfiofdfogaaDoorSame
import Derived.OpenShut
import Derived.SizedLaws
namespace Go.Proofs.YthknkfiofdfogaaDoor
open Go.RowKit

set_option maxHeartbeats 400000 in
theorem law_SealStreams (s : ByteArray) (counter n : Int) (w : World) (hr : s.size ≤ reachBytes) (hw : (Lit.int .i64 counter).wf = true) (hw2 : (Lit.int .i64 n).wf = true) (hT : Tabs w) :
    Calls Tryd.prog 3 #[.string s, .int .i64 counter, .int .i64 n] w fun e w' => e = .returned (.bool true) ∧ Below w.heap.size w w' := by
  have hs : s.size ≤ maxLen := Nat.le_trans hr (by decide)
  obtain ⟨c0, c1⟩ := bounds_i64 hw
  obtain ⟨n0, n1⟩ := bounds_i64 hw2
  have HT := Lib.hid hT
  clear hT hr hw hw2
  go_enter Tryd.func3, Tryd.ntmps3
  go_wp2_with fail
  refine (seal_Stream s counter n _ hs c0 c1 n0 n1 HT.out).mono ?_
  rintro e w1 ⟨a1, n1', c1', rfl, ho1, hb1⟩
  have z1 := hb1.size
  have o1 := BytesAt.own ho1
  clear ho1
  go_wp2_with fail
  refine (ref_SealStream s counter n _ hs c0 c1 n0 n1).mono ?_
  rintro e w2 ⟨a2, n2, c2, rfl, ho2, hb2⟩
  have o2 := BytesAt.own ho2
  have o1' := o1.below hb2
  clear ho2 o1
  go_wp2_with (go_at_call 11; refine (same_bytes _ _ _ _ _ _ _ _ _ _ o1' o2).mono ?_; rintro e w' ⟨rfl, rfl⟩)
  go_ret
  exact ⟨by simp, hb1.trans (hb2.mono z1)⟩

set_option maxHeartbeats 400000 in
theorem law_SealSeals (s : ByteArray) (counter : Int) (a : Option Addr) (n c : Nat) (bs : List UInt8) (w : World) (hr : s.size ≤ reachBytes) (hw : (Lit.int .i64 counter).wf = true)
    (h : BytesAt w w.heap.size a n bs) (hnc : n ≤ c) (hnil : a = none → n = 0 ∧ c = 0) (hc : c ≤ reachBytes) (hT : Tabs w) :
    Calls Tryd.prog 4 #[.string s, .int .i64 counter, .slice a n c] w fun e w' => e = .returned (.bool true) ∧ Below w.heap.size w w' := by
  have hs : s.size ≤ maxLen := Nat.le_trans hr (by decide)
  have hn : n ≤ maxLen := Nat.le_trans hnc (Nat.le_trans hc (by decide))
  obtain ⟨c0, c1⟩ := bounds_i64 hw
  have Hn := Lib.hid hnil
  have HT := Lib.hid hT
  clear hT hr hw hnil hnc hc
  go_enter Tryd.func4, Tryd.ntmps4
  go_wp2_with fail
  refine (seal_Seal s counter a n c bs _ hs c0 c1 h Hn.out hn HT.out).mono ?_
  rintro e w1 ⟨a1, n1', c1', rfl, ho1, hb1⟩
  have z1 := hb1.size
  have o1 := BytesAt.own ho1
  have h2 := (h.below hb1).up z1
  clear ho1 h
  go_wp2_with fail
  refine (ref_Sealed s counter a n c bs _ hs c0 c1 h2 hn).mono ?_
  rintro e w2 ⟨a2, n2, c2, rfl, ho2, hb2⟩
  have o2 := BytesAt.own ho2
  have o1' := o1.below hb2
  clear ho2 o1 h2
  go_wp2_with (go_at_call 11; refine (same_bytes _ _ _ _ _ _ _ _ _ _ o1' o2).mono ?_; rintro e w' ⟨rfl, rfl⟩)
  go_ret
  exact ⟨by simp, hb1.trans (hb2.mono z1)⟩

set_option maxHeartbeats 400000 in
theorem law_SealOpens (s : ByteArray) (counter : Int) (a : Option Addr) (n c : Nat) (bs : List UInt8) (w : World) (hr : s.size ≤ reachBytes) (hw : (Lit.int .i64 counter).wf = true)
    (h : BytesAt w w.heap.size a n bs) (hnc : n ≤ c) (hnil : a = none → n = 0 ∧ c = 0) (hc : c ≤ reachBytes) (hT : Tabs w) :
    Calls Tryd.prog 5 #[.string s, .int .i64 counter, .slice a n c] w fun e w' => e = .returned (.bool true) ∧ Below w.heap.size w w' := by
  have hs : s.size ≤ maxLen := Nat.le_trans hr (by decide)
  have hn : n ≤ maxLen := Nat.le_trans hnc (Nat.le_trans hc (by decide))
  obtain ⟨c0, c1⟩ := bounds_i64 hw
  have Hn := Lib.hid hnil
  have HT := Lib.hid hT
  clear hT hr hw hnil hc
  go_enter Tryd.func5, Tryd.ntmps5
  go_wp2_with fail
  refine (seal_Open s counter a n c bs _ hs c0 c1 h hnc hn HT.out).mono ?_
  rintro e w1 ⟨a1, n1', c1', rfl, ho1, hb1⟩
  have z1 := hb1.size
  have o1 := BytesAt.own ho1
  have h2 := (h.below hb1).up z1
  clear ho1 h
  go_wp2_with fail
  refine (ref_Unsealed s counter a n c bs _ hs c0 c1 h2 hn).mono ?_
  rintro e w2 ⟨a2, n2, c2, rfl, ho2, hb2⟩
  have o2 := BytesAt.own ho2
  have o1' := o1.below hb2
  clear ho2 o1 h2
  go_wp2_with (go_at_call 11; refine (same_bytes _ _ _ _ _ _ _ _ _ _ o1' o2).mono ?_; rintro e w' ⟨rfl, rfl⟩)
  go_ret
  exact ⟨by simp, hb1.trans (hb2.mono z1)⟩
end Go.Proofs.YthknkfiofdfogaaDoor
