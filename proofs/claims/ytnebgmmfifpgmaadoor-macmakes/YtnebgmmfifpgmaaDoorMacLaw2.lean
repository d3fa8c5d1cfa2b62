/- The walk of the law MacMakes. -/
import Derived.Test.YtnebgmmfifpgmaaDoorMacMake
import Derived.Test.YtnebgmmfifpgmaaDoorMacRef2
import Derived.Test.YtnebgmmfifpgmaaDoorSame2
import Derived.SizedLaws
namespace Go.Proofs.YtnebgmmfifpgmaaDoor
open Go.RowKit

set_option maxHeartbeats 1000000 in
theorem law_MacMakes (s l : ByteArray) (a : Option Addr) (n c : Nat) (bs : List UInt8) (a' : Option Addr) (n' c' : Nat) (ts : List UInt8) (w : World) (hr : s.size ≤ reachBytes) (hlr : l.size ≤ reachBytes)
    (h : BytesAt w w.heap.size a n bs) (hnc : n ≤ c) (hnil : a = none → n = 0 ∧ c = 0) (hc : c ≤ reachBytes)
    (h' : BytesAt w w.heap.size a' n' ts) (hnc' : n' ≤ c') (hc' : c' ≤ reachBytes) (hT : Tabs w) :
    Calls Tryd.prog 4 #[.string s, .string l, .slice a n c, .slice a' n' c'] w fun e w' => e = .returned (.bool true) ∧ Below w.heap.size w w' := by
  have hs : s.size ≤ maxLen := Nat.le_trans hr (by decide)
  have hl : l.size ≤ 9000000000000000000 := Nat.le_trans hlr (by decide)
  have hn : n ≤ maxLen := Nat.le_trans hnc (Nat.le_trans hc (by decide))
  have hn' : n' ≤ maxLen := Nat.le_trans hnc' (Nat.le_trans hc' (by decide))
  have Hn := Lib.hid hnil
  have HT := Lib.hid hT
  have Hb := Lib.hid h
  have Hb' := Lib.hid h'
  clear hnil hnc hc hT hr hlr hnc' hc' h h'
  rcases tag_err_three s.data.toList bs with he | ⟨he, ho⟩ | ⟨he, ho⟩
  · have Hr := Lib.hid (right_ok s.data.toList bs ts he)
    have Hl := Lib.hid (tag_out_length _ _ he)
    have He := Lib.hid he
    clear he
    go_enter Tryd.func4, Tryd.ntmps4
    go_wp2_with fail
    refine (mac_Derive s l _ hs hl HT.out).mono ?_
    rintro e w1 ⟨rfl, hb1⟩
    have z1 := hb1.size
    go_wp2_with fail
    refine (mac_Right s a n c bs a' n' c' ts _ hs ((Hb.out.below hb1).up z1) Hn.out hn ((Hb'.out.below hb1).up z1) hn' (HT.out.below hb1)).mono ?_
    rintro e w2 ⟨rfl, hb2⟩
    rw [He.out, Hr.out]
    have hB2 := hb1.trans (hb2.mono z1)
    have z2 := hB2.size
    clear hb1 hb2 z1
    go_wp2_with fail
    refine (ref_MacDerive s l _ hs hl).mono ?_
    rintro e w3 ⟨rfl, hb3⟩
    have hB3 := hB2.trans (hb3.mono z2)
    have z3 := hB3.size
    clear hB2 hb3 z2
    go_wp2_with fail
    refine (ref_MacTag s a n c bs _ hs ((Hb.out.below hB3).up z3) Hn.out hn).mono ?_
    rintro e w4 ⟨a4, n4, c4, rfl, ho4, hb4⟩
    rw [He.out]
    have o4 := BytesAt.own ho4
    obtain rfl : n4 = 32 := by rw [← o4.1, Hl.out]
    rw [Hl.out] at ho4
    have hcap := own_cap ho4
    obtain ⟨g, rfl, -, -⟩ := own_form ho4 (by decide)
    have Ho := Lib.hid (o4.cut (m := 16) (by decide))
    have hB4 := hB3.trans (hb4.mono z3)
    have Ht := Lib.hid ((Hb'.out.below hB4).up hB4.size)
    have hc1 : (16 : Int) ≤ (c4 : Int) := by omega
    have Hd := Lib.hid (show Mc.derived s.data.toList l.data.toList = Mc.derived s.data.toList l.data.toList from rfl)
    clear ho4 o4 hB3 hb4 z3
    rw [show ((0 : Nat) : Int) = (0 : Int) from rfl]
    generalize strOf (Mc.derived s.data.toList l.data.toList) = D at *
    generalize Mc.tagErr s.data.toList (Mc.label l.data.toList) = E at *
    go_wp2_with (go_at_call 9; refine (same_any _ _ 16 _ _ _ _ _ _ _ _ Ho.out Ht.out).mono ?_; rintro e w' ⟨rfl, rfl⟩)
    go_ret
    exact ⟨by simp, hB4⟩
  all_goals
    have Hr := Lib.hid (right_bad s.data.toList bs ts (by rw [he]; decide))
    have He := Lib.hid he
    clear he ho
    go_enter Tryd.func4, Tryd.ntmps4
    go_wp2_with fail
    refine (mac_Derive s l _ hs hl HT.out).mono ?_
    rintro e w1 ⟨rfl, hb1⟩
    have z1 := hb1.size
    go_wp2_with fail
    refine (mac_Right s a n c bs a' n' c' ts _ hs ((Hb.out.below hb1).up z1) Hn.out hn ((Hb'.out.below hb1).up z1) hn' (HT.out.below hb1)).mono ?_
    rintro e w2 ⟨rfl, hb2⟩
    rw [He.out, Hr.out]
    have hB2 := hb1.trans (hb2.mono z1)
    have z2 := hB2.size
    clear hb1 hb2 z1
    go_wp2_with fail
    refine (ref_MacDerive s l _ hs hl).mono ?_
    rintro e w3 ⟨rfl, hb3⟩
    have hB3 := hB2.trans (hb3.mono z2)
    have z3 := hB3.size
    clear hB2 hb3 z2
    go_wp2_with fail
    refine (ref_MacTag s a n c bs _ hs ((Hb.out.below hB3).up z3) Hn.out hn).mono ?_
    rintro e w4 ⟨a4, n4, c4, rfl, ho4, hb4⟩
    rw [He.out]
    have hB4 := hB3.trans (hb4.mono z3)
    clear ho4 hB3 hb4 z3
    generalize strOf (Mc.derived s.data.toList l.data.toList) = D at *
    generalize Mc.tagErr s.data.toList (Mc.label l.data.toList) = E at *
    go_wp2
    go_ret
    exact ⟨by simp, hB4⟩
end Go.Proofs.YtnebgmmfifpgmaaDoor
