/- The contract of mac.Tag. -/
import Derived.Test.YthknkfiofdfogaaDoorMacKeyed
import Derived.Test.YthknkfiofdfogaaDoorMacFacts
import Derived.Test.YthknkfiofdfogaaDoorHexWalks
import Derived.Test.YthknkfiofdfogaaDoorHexBytes
namespace Go.Proofs.YthknkfiofdfogaaDoor
open Go.RowKit

set_option maxHeartbeats 400000 in
theorem mac_Tag (s : ByteArray) (a : Option Addr) (n c : Nat) (bs : List UInt8) (w : World) (hs : s.size ≤ maxLen) (h : BytesAt w w.heap.size a n bs) (hnil : a = none → n = 0 ∧ c = 0) (hn : n ≤ maxLen) (hT : Tabs w) :
    Calls Tryd.prog 21 #[.string s, .slice a n c] w (SlicePost (Mc.tagErr s.data.toList bs) (Mc.tagOut s.data.toList bs) w) := by
  have hl := h.1
  have hn' := hn
  unfold maxLen at hn'
  rcases Mc.check_three s.data.toList with he | he | he
  rotate_left
  · have He := Lib.hid (Mc.tag_bad s.data.toList bs (by rw [he]; decide))
    have Hc := Lib.hid he
    clear h hnil hT he
    go_enter Tryd.func21, Tryd.ntmps21
    go_wp2_with fail
    refine (hex_Check _ _ hs).mono ?_
    rintro e w1 ⟨rfl, rfl⟩
    rw [Hc.out]
    go_wp2
    go_ret2
    rw [He.out.1, He.out.2, Hc.out]
    exact slicePost_none (err := 1) (Below.refl _ _)
  · have He := Lib.hid (Mc.tag_bad s.data.toList bs (by rw [he]; decide))
    have Hc := Lib.hid he
    clear h hnil hT he
    go_enter Tryd.func21, Tryd.ntmps21
    go_wp2_with fail
    refine (hex_Check _ _ hs).mono ?_
    rintro e w1 ⟨rfl, rfl⟩
    rw [Hc.out]
    go_wp2
    go_ret2
    rw [He.out.1, He.out.2, Hc.out]
    exact slicePost_none (err := 3) (Below.refl _ _)
  · have Hc := Lib.hid he
    by_cases h9 : 936 < n
    · have He := Lib.hid (Mc.tag_long s.data.toList bs he (by omega))
      clear h hnil hT he
      go_enter Tryd.func21, Tryd.ntmps21
      go_wp2_with fail
      refine (hex_Check _ _ hs).mono ?_
      rintro e w1 ⟨rfl, rfl⟩
      rw [Hc.out]
      go_wp2
      go_ret2
      rw [He.out.1, He.out.2]
      exact slicePost_none (err := 1) (Below.refl _ _)
    · have He := Lib.hid (Mc.tag_ok s.data.toList bs he (by omega))
      have Hk := Lib.hid (Mc.check_ok s.data.toList he)
      have Hnil := Lib.hid hnil
      have HT := Lib.hid hT
      have Hb := Lib.hid h
      clear h hnil hT he hl
      go_enter Tryd.func21, Tryd.ntmps21
      go_wp2_with fail
      refine (hex_Check _ _ hs).mono ?_
      rintro e w1 ⟨rfl, rfl⟩
      rw [Hc.out]
      go_wp2_with fail
      refine (hex_Bytes _ _ hs).mono ?_
      rintro e w1 ⟨a1, n1, c1, rfl, ho1, hb1⟩
      rw [Hk.out.2.1]
      rw [Hk.out.2.2.1] at ho1
      have o1 := BytesAt.own ho1
      obtain rfl : n1 = 32 := by rw [← o1.1]; exact Hk.out.2.2.2
      have z1 := hb1.size
      have Ho1 := Lib.hid o1
      have Hb1 := Lib.hid ((Hb.out.below hb1).up z1)
      have HT1 := Lib.hid (HT.out.below hb1)
      clear ho1 o1
      go_wp2_with fail
      refine (mac_keyedSum a1 32 c1 _ 54 a n c bs _ Ho1.out (by decide) Hb1.out Hnil.out (by omega) HT1.out).mono ?_
      rintro e w2 ⟨a2, n2, c2, rfl, ho2, hb2⟩
      have o2 := BytesAt.own ho2
      have hn2 := o2.1
      rw [Sh.sum_length] at hn2
      subst hn2
      have z2 := hb2.size
      have Hnil2 := Lib.hid (own_nil (show w2.ownsRow w1.heap.size 5 1 (.slice a2 32 c2) 32 _ by rw [Sh.sum_length] at ho2; exact ho2))
      have Ho2 := Lib.hid o2
      have Ho12 := Lib.hid ((Ho1.out.below hb2).up z2)
      have HT2 := Lib.hid (HT1.out.below hb2)
      have hB2 := hb1.trans (hb2.mono z1)
      clear ho2 o2 hb1 hb2
      rw [show ((0 : Nat) : Int) = (0 : Int) from rfl]
      go_wp2_with fail
      refine (mac_keyedSum a1 32 c1 _ 92 a2 32 c2 _ _ Ho12.out (by decide) Ho2.out Hnil2.out (by decide) HT2.out).mono ?_
      rintro e w3 ⟨a3, n3, c3, rfl, ho3, hb3⟩
      have hB3 := hB2.trans (hb3.mono (by omega))
      have ho3' := ownsRow_base ho3 (Nat.le_trans z1 z2)
      clear ho3 hb3 hB2
      go_wp2
      go_ret2
      rw [He.out.1, He.out.2]
      exact ⟨_, _, _, rfl, ho3', hB3⟩
end Go.Proofs.YthknkfiofdfogaaDoor
