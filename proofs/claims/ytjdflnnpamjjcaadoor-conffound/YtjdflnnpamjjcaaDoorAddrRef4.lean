/- The contract of the reference's EndOf. -/
import Derived.Test.YtjdflnnpamjjcaaDoorAddrRef3
import Derived.Test.YtjdflnnpamjjcaaDoorAddrPlain4
import Derived.IntWalk
namespace Go.Proofs.YtjdflnnpamjjcaaDoor
open Go.RowKit

set_option maxHeartbeats 800000 in
theorem ref_EndOf (s : ByteArray) (w : World) (hs : s.size ≤ 1048576) (hT : PowTab w) (hE : ErrTab w) (hM : MaxTab w) :
    Calls Tryd.prog 16 #[.string s] w fun e w' => e = .returned (.tuple #[.int .u32 (Ad.endAddr s.data.toList : Int), .int .i64 (Ad.endPort s.data.toList : Int), .int .i64 (Ad.endErr s.data.toList : Int)]) ∧ Below w.heap.size w w' := by
  have HI := lib_Index s 58 w
  change Calls _ _ _ _ (fun e w' => e = .returned (.int .i64 (Ad.colon s.data.toList)) ∧ w' = w) at HI
  by_cases h0 : Ad.colon s.data.toList < 0
  · have Hb := Lib.hid (end_bad (l := s.data.toList) (by unfold Ad.endGood; rw [decide_eq_false (by omega)]; rfl))
    generalize Ad.colon s.data.toList = q at *
    go_enter Tryd.func16, Tryd.ntmps16
    go_wp2_with fail
    refine HI.mono ?_
    rintro e w1 ⟨rfl, hw1⟩
    subst hw1
    go_wp2
    go_ret3
    rw [Hb.out.1, Hb.out.2.1, Hb.out.2.2]
    exact ⟨rfl, Below.refl _ _⟩
  · obtain ⟨k, hk⟩ : ∃ k : Nat, Ad.colon s.data.toList = (k : Int) := ⟨(Ad.colon s.data.toList).toNat, by omega⟩
    have hkl := colon_lt _ k hk
    have hsl : s.data.toList.length = s.size := by simp
    rw [hsl] at hkl
    have Hf : Hid ((s.extract 0 k).data.toList = Ad.front s.data.toList) := Lib.hid (by unfold Ad.front; rw [hk, Int.toNat_natCast]; exact Lib.extract_from_zero s k)
    have Hb : Hid ((s.extract (k + 1) s.size).data.toList = Ad.back s.data.toList) := Lib.hid (by unfold Ad.back; rw [hk, Int.toNat_natCast]; exact Lib.extract_to_end s (k + 1))
    have hx1 : (s.extract 0 k).size ≤ 1048576 := by rw [ByteArray.size_extract]; omega
    have hx2 : (s.extract (k + 1) s.size).size ≤ 281474976710656 := by rw [ByteArray.size_extract]; omega
    have H1 : Hid (∀ W, Below w.heap.size w W → Calls Tryd.prog 36 #[.string (s.extract 0 k)] W fun e W' => e = .returned (.tuple #[.int .u32 (Ad.addrOut (Ad.front s.data.toList) : Int), .int .i64 (Ad.addrErr (Ad.front s.data.toList) : Int)]) ∧ Below w.heap.size w W') :=
      Lib.hid fun W hW => (ref_AddrOf (s.extract 0 k) W hx1 (hT.below hW) (hE.below hW) (hM.below hW)).mono fun e W' ⟨he, hb⟩ => ⟨by rw [he, Hf.out], hW.trans (hb.mono hW.size)⟩
    have H2 : Hid (∀ W, Below w.heap.size w W → Calls Tryd.prog 37 #[.string (s.extract (k + 1) s.size), .int .i64 65535] W fun e W' => e = .returned (.tuple #[.int .i64 (Ad.numOut (Ad.back s.data.toList) 65535 : Int), .int .i64 (Ad.numErr (Ad.back s.data.toList) 65535 : Int)]) ∧ Below w.heap.size w W') :=
      Lib.hid fun W hW => (ref_NumberOf (s.extract (k + 1) s.size) 65535 W hx2 (hT.below hW) (hE.below hW)).mono fun e W' ⟨he, hb⟩ => ⟨by rw [he, Hb.out], hW.trans (hb.mono hW.size)⟩
    have Hk := Lib.hid hk
    have HW := Lib.hid (Below.refl w.heap.size w)
    rw [hk] at HI
    have hge : decide (0 ≤ Ad.colon s.data.toList) = true := decide_eq_true (by omega)
    have hs1 : IntKind.i64.wrap ((k : Int) + 1) = (k : Int) + 1 := IntWalk.i64_in _ (by omega)
    clear hT hE hM Hf Hb hx1 hx2 h0 hk
    by_cases g1 : Ad.good (Ad.front s.data.toList) = true
    rotate_left
    · have g1' : Ad.good (Ad.front s.data.toList) = false := by simpa using g1
      have Hr := Lib.hid (end_bad (l := s.data.toList) (by unfold Ad.endGood; rw [hge, g1']; rfl))
      rw [(addr_bad _ g1').1, (addr_bad _ g1').2] at H1
      clear g1 g1' hge
      generalize Ad.numOut (Ad.back s.data.toList) 65535 = n2 at *
      generalize Ad.numErr (Ad.back s.data.toList) 65535 = e2 at *
      go_enter Tryd.func16, Tryd.ntmps16
      go_wp2_with fail
      refine HI.mono ?_
      rintro e w1 ⟨rfl, hw1⟩
      subst hw1
      go_wp2_with fail
      refine (H1.out w1 HW.out).mono ?_
      rintro e w2 ⟨rfl, hb2⟩
      go_wp2_with fail
      refine (H2.out w2 hb2).mono ?_
      rintro e w3 ⟨rfl, hb3⟩
      go_wp2
      go_ret3
      rw [Hr.out.1, Hr.out.2.1, Hr.out.2.2]
      exact ⟨rfl, hb3⟩
    have ge : Ad.addrErr (Ad.front s.data.toList) = 0 := by unfold Ad.addrErr; rw [if_pos g1]
    rw [ge] at H1
    clear ge
    by_cases g2 : Ad.numErr (Ad.back s.data.toList) 65535 = 0
    rotate_left
    · have Hr := Lib.hid (end_bad (l := s.data.toList) (by unfold Ad.endGood; rw [hge, g1, decide_eq_false g2]; rfl))
      rw [(numOut_bad _ _ g2).1, (numOut_bad _ _ g2).2] at H2
      clear g1 g2 hge
      generalize Ad.addrOut (Ad.front s.data.toList) = a2 at *
      go_enter Tryd.func16, Tryd.ntmps16
      go_wp2_with fail
      refine HI.mono ?_
      rintro e w1 ⟨rfl, hw1⟩
      subst hw1
      go_wp2_with fail
      refine (H1.out w1 HW.out).mono ?_
      rintro e w2 ⟨rfl, hb2⟩
      go_wp2_with fail
      refine (H2.out w2 hb2).mono ?_
      rintro e w3 ⟨rfl, hb3⟩
      go_wp2
      go_ret3
      rw [Hr.out.1, Hr.out.2.1, Hr.out.2.2]
      exact ⟨rfl, hb3⟩
    rw [g2] at H2
    by_cases g3 : 1 ≤ Ad.numOut (Ad.back s.data.toList) 65535
    · have Hr := Lib.hid (end_ok (l := s.data.toList) (by unfold Ad.endGood; rw [hge, g1, decide_eq_true g2, decide_eq_true g3]; rfl))
      clear g1 g2 hge
      generalize Ad.addrOut (Ad.front s.data.toList) = a2 at *
      generalize Ad.numOut (Ad.back s.data.toList) 65535 = n2 at *
      have d1 : decide ((n2 : Int) < 1) = false := decide_eq_false (by omega)
      go_enter Tryd.func16, Tryd.ntmps16
      go_wp2_with fail
      refine HI.mono ?_
      rintro e w1 ⟨rfl, hw1⟩
      subst hw1
      go_wp2_with fail
      refine (H1.out w1 HW.out).mono ?_
      rintro e w2 ⟨rfl, hb2⟩
      go_wp2_with fail
      refine (H2.out w2 hb2).mono ?_
      rintro e w3 ⟨rfl, hb3⟩
      go_wp2
      go_ret3
      rw [Hr.out.1, Hr.out.2.1, Hr.out.2.2]
      exact ⟨rfl, hb3⟩
    · have Hr := Lib.hid (end_bad (l := s.data.toList) (by unfold Ad.endGood; rw [hge, g1, decide_eq_false g3, Bool.and_false]))
      clear g1 g2 hge
      generalize Ad.addrOut (Ad.front s.data.toList) = a2 at *
      generalize Ad.numOut (Ad.back s.data.toList) 65535 = n2 at *
      have d1 : decide ((n2 : Int) < 1) = true := decide_eq_true (by omega)
      go_enter Tryd.func16, Tryd.ntmps16
      go_wp2_with fail
      refine HI.mono ?_
      rintro e w1 ⟨rfl, hw1⟩
      subst hw1
      go_wp2_with fail
      refine (H1.out w1 HW.out).mono ?_
      rintro e w2 ⟨rfl, hb2⟩
      go_wp2_with fail
      refine (H2.out w2 hb2).mono ?_
      rintro e w3 ⟨rfl, hb3⟩
      go_wp2
      go_ret3
      rw [Hr.out.1, Hr.out.2.1, Hr.out.2.2]
      exact ⟨rfl, hb3⟩
end Go.Proofs.YtjdflnnpamjjcaaDoor
