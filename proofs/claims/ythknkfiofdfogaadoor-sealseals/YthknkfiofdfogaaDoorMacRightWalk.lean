/- The contract of mac.Right. -/
import Derived.Test.YthknkfiofdfogaaDoorMacTag
import Derived.Test.YthknkfiofdfogaaDoorMacSame
namespace Go.Proofs.YthknkfiofdfogaaDoor
open Go.RowKit

set_option maxHeartbeats 400000 in
theorem mac_Right (s : ByteArray) (a : Option Addr) (n c : Nat) (bs : List UInt8) (a' : Option Addr) (n' c' : Nat) (ts : List UInt8) (w : World) (hs : s.size ≤ maxLen) (h : BytesAt w w.heap.size a n bs) (hnil : a = none → n = 0 ∧ c = 0) (hn : n ≤ maxLen)
    (h' : BytesAt w w.heap.size a' n' ts) (hn' : n' ≤ maxLen) (hT : Tabs w) :
    Calls Tryd.prog 28 #[.string s, .slice a n c, .slice a' n' c'] w fun e w' => e = .returned (.tuple #[.bool (Mc.right s.data.toList bs ts), .int .i64 (Mc.tagErr s.data.toList bs : Int)]) ∧ Below w.heap.size w w' := by
  have Ht := Lib.hid h'
  clear h'
  rcases tag_err_three s.data.toList bs with he | ⟨he, ho⟩ | ⟨he, ho⟩
  · have Hl := Lib.hid (tag_out_length _ _ he)
    have Hr := Lib.hid (right_ok _ _ ts he)
    have He := Lib.hid he
    clear he
    go_enter Tryd.func28, Tryd.ntmps28
    go_wp2_with fail
    refine (mac_Tag s a n c bs _ hs h hnil hn hT).mono ?_
    rintro e w1 ⟨a1, n1, c1, rfl, ho1, hb1⟩
    rw [He.out]
    have o1 := BytesAt.own ho1
    obtain rfl : n1 = 32 := by rw [← o1.1, Hl.out]
    rw [Hl.out] at ho1
    have hcap := own_cap ho1
    obtain ⟨g, rfl, -, -⟩ := own_form ho1 (by decide)
    have Hc := Lib.hid (o1.cut (m := 16) (by decide))
    have Ht1 := Lib.hid ((Ht.out.below hb1).up hb1.size)
    have hc1 : (16 : Int) ≤ (c1 : Int) := by omega
    clear ho1 o1 h hnil hT
    rw [show ((0 : Nat) : Int) = (0 : Int) from rfl]
    go_wp2_with fail
    refine (mac_same _ _ 16 n' _ _ _ ts _ Hc.out Ht1.out (by decide) hn').mono ?_
    rintro e w2 ⟨rfl, hb2⟩
    go_wp2
    go_ret2
    exact ⟨ret_bool_err (by rw [Hr.out]) (by rw [He.out]; rfl), hb1.trans (hb2.mono hb1.size)⟩
  all_goals
    have Hr := Lib.hid (right_bad s.data.toList bs ts (by rw [he]; decide))
    have He := Lib.hid he
    clear he ho
    go_enter Tryd.func28, Tryd.ntmps28
    go_wp2_with fail
    refine (mac_Tag s a n c bs _ hs h hnil hn hT).mono ?_
    rintro e w1 ⟨a1, n1, c1, rfl, ho1, hb1⟩
    rw [He.out]
    clear ho1 h hnil hT
    go_wp2
    go_ret2
    exact ⟨ret_bool_err (by rw [Hr.out]) (by rw [He.out]; rfl), hb1⟩
end Go.Proofs.YthknkfiofdfogaaDoor
