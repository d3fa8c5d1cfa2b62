/- The contracts of addr.Parse, addr.Number and addr.End in the shape that the laws' walks use. -/
import Derived.Test.YtjdflnnpamjjcaaDoorAddrRef4
import Derived.Test.YtjdflnnpamjjcaaDoorCodeTabs
import Derived.Test.YtjdflnnpamjjcaaDoorAddrCode3
namespace Go.Proofs.YtjdflnnpamjjcaaDoor
open Go.RowKit

theorem addr_Parse (s : ByteArray) (w : World) (hs : s.size ≤ 281474976710656) :
    Calls Tryd.prog 46 #[.string s] w fun e w' => e = .returned (.tuple #[.int .u32 (Ad.addrOut s.data.toList : Int), .int .i64 (Ad.addrErr s.data.toList : Int)]) ∧ Below w.heap.size w w' := addr_Parse0 s w hs
theorem addr_Number (s : ByteArray) (most : Int) (w : World) (hs : s.size ≤ 281474976710656) :
    Calls Tryd.prog 47 #[.string s, .int .i64 most] w fun e w' => e = .returned (.tuple #[.int .i64 (Ad.numOut s.data.toList most : Int), .int .i64 (Ad.numErr s.data.toList most : Int)]) ∧ Below w.heap.size w w' := addr_Number0 s most w hs

theorem cut_miss (l : List UInt8) (h : Ad.colon l < 0) : Lib.cut l [58] = (l, [], false) := by
  unfold Lib.cut
  rw [Lib.index_one, if_neg (by unfold Ad.colon at h; omega)]
theorem cut_hit (l : List UInt8) (h : 0 ≤ Ad.colon l) : Lib.cut l [58] = (Ad.front l, Ad.back l, true) := by
  unfold Lib.cut
  rw [Lib.index_one, if_pos (show 0 ≤ Lib.indexByte l 58 from h)]
  rfl
/-- strings.Cut at the colon. -/
theorem lib_Cut (s : ByteArray) (w : World) (hs : s.size ≤ 1048576) (hM : MaxTab w) :
    Calls Tryd.prog 45 #[.string s, .string ⟨#[58]⟩] w fun e w' => e = .returned (.tuple #[.string ⟨(Lib.cut s.data.toList [58]).1.toArray⟩, .string ⟨(Lib.cut s.data.toList [58]).2.1.toArray⟩, .bool (Lib.cut s.data.toList [58]).2.2]) ∧ Below w.heap.size w w' := by
  obtain ⟨m, hm⟩ := hM
  refine (Tryd.strings_Cut s ⟨#[58]⟩ m w (by omega) hm).mono ?_
  rintro e w' ⟨rfl, n, rfl⟩
  exact ⟨rfl, below_drewN (Below.refl _ _) n⟩

set_option maxHeartbeats 800000 in
theorem addr_End0 (s : ByteArray) (w : World) (hs : s.size ≤ 1048576) (hC : MaxTab w) :
    Calls Tryd.prog 30 #[.string s] w fun e w' => e = .returned (.tuple #[.int .u32 (Ad.endAddr s.data.toList : Int), .int .i64 (Ad.endPort s.data.toList : Int), .int .i64 (Ad.endErr s.data.toList : Int)]) ∧ Below w.heap.size w w' := by
  have HI := lib_Cut s w hs hC
  have hsl : s.data.toList.length = s.size := by simp
  by_cases h0 : Ad.colon s.data.toList < 0
  · have Hb := Lib.hid (end_bad (l := s.data.toList) (by unfold Ad.endGood; rw [decide_eq_false (by omega)]; rfl))
    rw [cut_miss _ h0] at HI
    clear h0 hC hsl
    generalize (⟨s.data.toList.toArray⟩ : ByteArray) = q at *
    go_enter Tryd.func30, Tryd.ntmps30
    go_wp2_with fail
    refine HI.mono ?_
    rintro e w1 ⟨rfl, hb1⟩
    go_wp2
    go_ret3
    rw [Hb.out.1, Hb.out.2.1, Hb.out.2.2]
    exact ⟨rfl, hb1⟩
  · have hge : decide (0 ≤ Ad.colon s.data.toList) = true := decide_eq_true (by omega)
    rw [cut_hit _ (by omega)] at HI
    have hf1 : (⟨(Ad.front s.data.toList).toArray⟩ : ByteArray).size ≤ 281474976710656 := by
      show (Ad.front s.data.toList).toArray.size ≤ _
      rw [List.size_toArray]
      unfold Ad.front
      rw [List.length_take]
      omega
    have hf2 : (⟨(Ad.back s.data.toList).toArray⟩ : ByteArray).size ≤ 281474976710656 := by
      show (Ad.back s.data.toList).toArray.size ≤ _
      rw [List.size_toArray]
      unfold Ad.back
      rw [List.length_drop]
      omega
    have H1 : Hid (∀ W, Below w.heap.size w W → Calls Tryd.prog 46 #[.string ⟨(Ad.front s.data.toList).toArray⟩] W fun e W' => e = .returned (.tuple #[.int .u32 (Ad.addrOut (Ad.front s.data.toList) : Int), .int .i64 (Ad.addrErr (Ad.front s.data.toList) : Int)]) ∧ Below w.heap.size w W') :=
      Lib.hid fun W hW => (addr_Parse0 ⟨(Ad.front s.data.toList).toArray⟩ W hf1).mono fun e W' ⟨he, hb⟩ => ⟨he, hW.trans (hb.mono hW.size)⟩
    have H2 : Hid (∀ W, Below w.heap.size w W → Calls Tryd.prog 47 #[.string ⟨(Ad.back s.data.toList).toArray⟩, .int .i64 65535] W fun e W' => e = .returned (.tuple #[.int .i64 (Ad.numOut (Ad.back s.data.toList) 65535 : Int), .int .i64 (Ad.numErr (Ad.back s.data.toList) 65535 : Int)]) ∧ Below w.heap.size w W') :=
      Lib.hid fun W hW => (addr_Number0 ⟨(Ad.back s.data.toList).toArray⟩ 65535 W hf2).mono fun e W' ⟨he, hb⟩ => ⟨he, hW.trans (hb.mono hW.size)⟩
    clear hC hsl hf1 hf2 h0
    by_cases g1 : ¬ Ad.good (Ad.front s.data.toList) = true
    · have Hr := Lib.hid (end_bad (l := s.data.toList) (by unfold Ad.endGood; rw [show Ad.good (Ad.front s.data.toList) = false by simpa using g1, Bool.and_false]; rfl))
      have hb := addr_bad _ (show Ad.good (Ad.front s.data.toList) = false by simpa using g1)
      rw [hb.1, hb.2] at H1
      clear g1 hge hb
      generalize (⟨(Ad.front s.data.toList).toArray⟩ : ByteArray) = F at *
      generalize (⟨(Ad.back s.data.toList).toArray⟩ : ByteArray) = B at *
      go_enter Tryd.func30, Tryd.ntmps30
      go_wp2_with fail
      refine HI.mono ?_
      rintro e w1 ⟨rfl, hb1⟩
      go_wp2_with fail
      refine (H1.out w1 hb1).mono ?_
      rintro e w2 ⟨rfl, hb2⟩
      go_wp2
      go_ret3
      rw [Hr.out.1, Hr.out.2.1, Hr.out.2.2]
      exact ⟨rfl, hb2⟩
    replace g1 : Ad.good (Ad.front s.data.toList) = true := Classical.not_not.1 g1
    have he : Ad.addrErr (Ad.front s.data.toList) = 0 := by unfold Ad.addrErr; rw [if_pos g1]
    rw [he] at H1
    clear he
    by_cases g2 : ¬ Ad.numErr (Ad.back s.data.toList) 65535 = 0
    · have Hr := Lib.hid (end_bad (l := s.data.toList) (by unfold Ad.endGood; rw [hge, g1, decide_eq_false g2]; rfl))
      rw [(numOut_bad _ _ g2).1, (numOut_bad _ _ g2).2] at H2
      clear g1 g2 hge
      generalize Ad.addrOut (Ad.front s.data.toList) = a2 at *
      generalize (⟨(Ad.front s.data.toList).toArray⟩ : ByteArray) = F at *
      generalize (⟨(Ad.back s.data.toList).toArray⟩ : ByteArray) = B at *
      go_enter Tryd.func30, Tryd.ntmps30
      go_wp2_with fail
      refine HI.mono ?_
      rintro e w1 ⟨rfl, hb1⟩
      go_wp2_with fail
      refine (H1.out w1 hb1).mono ?_
      rintro e w2 ⟨rfl, hb2⟩
      go_wp2_with fail
      refine (H2.out w2 hb2).mono ?_
      rintro e w3 ⟨rfl, hb3⟩
      go_wp2
      go_ret3
      rw [Hr.out.1, Hr.out.2.1, Hr.out.2.2]
      exact ⟨rfl, hb3⟩
    replace g2 : Ad.numErr (Ad.back s.data.toList) 65535 = 0 := Classical.not_not.1 g2
    rw [g2] at H2
    by_cases g3 : 1 ≤ Ad.numOut (Ad.back s.data.toList) 65535
    · have Hr := Lib.hid (end_ok (l := s.data.toList) (by unfold Ad.endGood; rw [hge, g1, decide_eq_true g2, decide_eq_true g3]; rfl))
      clear g1 g2 hge
      generalize Ad.addrOut (Ad.front s.data.toList) = a2 at *
      generalize Ad.numOut (Ad.back s.data.toList) 65535 = n2 at *
      generalize (⟨(Ad.front s.data.toList).toArray⟩ : ByteArray) = F at *
      generalize (⟨(Ad.back s.data.toList).toArray⟩ : ByteArray) = B at *
      have d1 : ((n2 : Int) == 0) = false := by simp; omega
      go_enter Tryd.func30, Tryd.ntmps30
      go_wp2_with fail
      refine HI.mono ?_
      rintro e w1 ⟨rfl, hb1⟩
      go_wp2_with fail
      refine (H1.out w1 hb1).mono ?_
      rintro e w2 ⟨rfl, hb2⟩
      go_wp2_with fail
      refine (H2.out w2 hb2).mono ?_
      rintro e w3 ⟨rfl, hb3⟩
      go_wp2
      go_ret3
      rw [Hr.out.1, Hr.out.2.1, Hr.out.2.2]
      exact ⟨rfl, hb3⟩
    · have Hr := Lib.hid (end_bad (l := s.data.toList) (by unfold Ad.endGood; rw [hge, g1, decide_eq_false g3, Bool.and_false]))
      have hz : Ad.numOut (Ad.back s.data.toList) 65535 = 0 := by omega
      rw [hz] at H2
      clear g1 g2 g3 hge hz
      generalize Ad.addrOut (Ad.front s.data.toList) = a2 at *
      generalize (⟨(Ad.front s.data.toList).toArray⟩ : ByteArray) = F at *
      generalize (⟨(Ad.back s.data.toList).toArray⟩ : ByteArray) = B at *
      go_enter Tryd.func30, Tryd.ntmps30
      go_wp2_with fail
      refine HI.mono ?_
      rintro e w1 ⟨rfl, hb1⟩
      go_wp2_with fail
      refine (H1.out w1 hb1).mono ?_
      rintro e w2 ⟨rfl, hb2⟩
      go_wp2_with fail
      refine (H2.out w2 hb2).mono ?_
      rintro e w3 ⟨rfl, hb3⟩
      go_wp2
      go_ret3
      rw [Hr.out.1, Hr.out.2.1, Hr.out.2.2]
      exact ⟨rfl, hb3⟩
theorem addr_End (s : ByteArray) (w : World) (hs : s.size ≤ 1048576) (hC : CodeTabs w) :
    Calls Tryd.prog 30 #[.string s] w fun e w' => e = .returned (.tuple #[.int .u32 (Ad.endAddr s.data.toList : Int), .int .i64 (Ad.endPort s.data.toList : Int), .int .i64 (Ad.endErr s.data.toList : Int)]) ∧ Below w.heap.size w w' := addr_End0 s w hs hC.2
end Go.Proofs.YtjdflnnpamjjcaaDoor
