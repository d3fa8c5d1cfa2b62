/- The law AddrTurns walked. -/
import Derived.Test.YtmmhagdgegnjgaaDoorAddrCode
namespace Go.Proofs.YtmmhagdgegnjgaaDoor
open Go.RowKit

theorem end_known : Ad.endPort [49, 46, 50, 46, 51, 46, 52, 58, 53] = 5 ∧ Ad.endErr [49, 46, 50, 46, 51, 46, 52, 58, 53] = 0 := by decide
set_option maxHeartbeats 400000 in
theorem law_AddrTurns (s : ByteArray) (w : World) (hs : s.size ≤ 281474976710656) (hC : CodeTabs w) :
    Calls Tryd.prog 6 #[.string s] w fun e w' => e = .returned (.bool true) ∧ Below w.heap.size w w' := by
  have HC := Lib.hid hC
  clear hC
  have HE : Hid (∀ W, CodeTabs W → Calls Tryd.prog 12 #[.string ⟨#[49, 46, 50, 46, 51, 46, 52, 58, 53]⟩] W fun e W' => ∃ A : Int, e = .returned (.tuple #[.int .u32 A, .int .i64 5, .int .i64 0]) ∧ Below W.heap.size W W') :=
    Lib.hid fun W hW => (addr_End ⟨#[49, 46, 50, 46, 51, 46, 52, 58, 53]⟩ W (by decide) hW).mono fun e W' ⟨he, hb⟩ => ⟨(Ad.endAddr [49, 46, 50, 46, 51, 46, 52, 58, 53] : Int), he.trans (show Ending.returned (.tuple #[.int .u32 (Ad.endAddr [49, 46, 50, 46, 51, 46, 52, 58, 53] : Int), .int .i64 (Ad.endPort [49, 46, 50, 46, 51, 46, 52, 58, 53] : Int), .int .i64 (Ad.endErr [49, 46, 50, 46, 51, 46, 52, 58, 53] : Int)]) = _ by rw [end_known.1, end_known.2]; rfl), hb⟩
  by_cases hg : Ad.good s.data.toList = true
  · obtain ⟨h1, h2⟩ := Ad.text_good _ hg
    have ho : Ad.addrOut s.data.toList = Ad.fold (Ad.parts 46 s.data.toList) 0 := by unfold Ad.addrOut; rw [if_pos hg]
    have he : Ad.addrErr s.data.toList = 0 := by unfold Ad.addrErr; rw [if_pos hg]
    rw [← ho] at h1 h2
    have HP := addr_Parse s w hs
    rw [he] at HP
    have Hst := Lib.hid (show (⟨(Ad.text (Ad.addrOut s.data.toList)).toArray⟩ : ByteArray) = s by rw [h2])
    clear hg ho he h2
    generalize Ad.addrOut s.data.toList = A at *
    go_enter Tryd.func6, Tryd.ntmps6
    go_wp2_with fail
    refine HP.mono ?_
    rintro e w1 ⟨rfl, b1⟩
    go_wp2_with fail
    refine (HE.out w1 (HC.out.below b1)).mono ?_
    rintro e w2 ⟨Y, rfl, b2⟩
    have B2 := Lib.hid (b1.trans (b2.mono b1.size))
    clear b1 b2
    go_wp2_with fail
    refine (addr_Text A h1 w2 (HC.out.below B2.out)).mono ?_
    rintro e w3 ⟨rfl, b3⟩
    have B3 := Lib.hid (B2.out.trans (b3.mono B2.out.size))
    rw [Hst.out]
    clear b3
    go_wp2
    go_ret
    exact ⟨by simp, B3.out⟩
  · have hb := addr_bad s.data.toList (by simpa using hg)
    have HP := addr_Parse s w hs
    rw [hb.1, hb.2] at HP
    clear hg hb
    go_enter Tryd.func6, Tryd.ntmps6
    go_wp2_with fail
    refine HP.mono ?_
    rintro e w1 ⟨rfl, b1⟩
    go_wp2_with fail
    refine (HE.out w1 (HC.out.below b1)).mono ?_
    rintro e w2 ⟨Y, rfl, b2⟩
    have B2 := Lib.hid (b1.trans (b2.mono b1.size))
    clear b1 b2
    go_wp2
    go_ret
    exact ⟨by simp, B2.out⟩
end Go.Proofs.YtmmhagdgegnjgaaDoor
