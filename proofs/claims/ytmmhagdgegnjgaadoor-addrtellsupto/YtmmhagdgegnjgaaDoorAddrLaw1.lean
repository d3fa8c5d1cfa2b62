/- The laws AddrTells and AddrEnds walked. -/
import Derived.Test.YtmmhagdgegnjgaaDoorAddrCode
namespace Go.Proofs.YtmmhagdgegnjgaaDoor
open Go.RowKit

set_option maxHeartbeats 400000 in
theorem law_AddrTells (a : Nat) (s : ByteArray) (w : World) (ha : a < 4294967296) (hs : s.size ≤ 1048576) (hT : PowTab w) (hE : ErrTab w) (hM : MaxTab w) (hC : CodeTabs w) :
    Calls Tryd.prog 3 #[.int .u32 (a : Int), .string s] w fun e w' => e = .returned (.bool true) ∧ Below w.heap.size w w' := by
  have HT := Lib.hid hT
  have HE := Lib.hid hE
  have HM := Lib.hid hM
  have HC := Lib.hid hC
  clear hT hE hM hC
  go_enter Tryd.func3, Tryd.ntmps3
  go_wp2_with fail
  refine (addr_Text a ha w HC.out).mono ?_
  rintro e w1 ⟨rfl, b1⟩
  go_wp2_with fail
  refine (addr_Parse s w1 (by omega)).mono ?_
  rintro e w2 ⟨rfl, b2⟩
  have B2 := Lib.hid (b1.trans (b2.mono b1.size))
  clear b1 b2
  go_wp2_with fail
  refine (ref_AddrText a ha w2 (HT.out.below B2.out)).mono ?_
  rintro e w3 ⟨rfl, b3⟩
  have B3 := Lib.hid (B2.out.trans (b3.mono B2.out.size))
  clear b3
  go_wp2_with fail
  refine (ref_AddrOf s w3 hs (HT.out.below B3.out) (HE.out.below B3.out) (HM.out.below B3.out)).mono ?_
  rintro e w4 ⟨rfl, b4⟩
  have B4 := Lib.hid (B3.out.trans (b4.mono B3.out.size))
  clear b4
  go_wp2
  go_ret
  exact ⟨by simp, B4.out⟩

set_option maxHeartbeats 400000 in
theorem law_AddrEnds (s : ByteArray) (most : Int) (w : World) (hs : s.size ≤ 1048576) (hT : PowTab w) (hE : ErrTab w) (hM : MaxTab w) (hC : CodeTabs w) :
    Calls Tryd.prog 4 #[.string s, .int .i64 most] w fun e w' => e = .returned (.bool true) ∧ Below w.heap.size w w' := by
  have HT := Lib.hid hT
  have HE := Lib.hid hE
  have HM := Lib.hid hM
  have HC := Lib.hid hC
  clear hT hE hM hC
  go_enter Tryd.func4, Tryd.ntmps4
  go_wp2_with fail
  refine (addr_Number s most w (by omega)).mono ?_
  rintro e w1 ⟨rfl, b1⟩
  go_wp2_with fail
  refine (addr_End s w1 hs (HC.out.below b1)).mono ?_
  rintro e w2 ⟨rfl, b2⟩
  have B2 := Lib.hid (b1.trans (b2.mono b1.size))
  clear b1 b2
  go_wp2_with fail
  refine (ref_NumberOf s most w2 (by omega) (HT.out.below B2.out) (HE.out.below B2.out)).mono ?_
  rintro e w3 ⟨rfl, b3⟩
  have B3 := Lib.hid (B2.out.trans (b3.mono B2.out.size))
  clear b3
  go_wp2_with fail
  refine (ref_EndOf s w3 hs (HT.out.below B3.out) (HE.out.below B3.out) (HM.out.below B3.out)).mono ?_
  rintro e w4 ⟨rfl, b4⟩
  have B4 := Lib.hid (B3.out.trans (b4.mono B3.out.size))
  clear b4
  go_wp2
  go_ret
  exact ⟨by simp, B4.out⟩
end Go.Proofs.YtmmhagdgegnjgaaDoor
