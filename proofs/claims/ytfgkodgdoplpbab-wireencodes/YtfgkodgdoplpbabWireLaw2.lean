/- The walk of the law WireEncodes. -/
import Derived.Test.YtfgkodgdoplpbabWireCode3
import Derived.Test.YtfgkodgdoplpbabWireRef3
import Derived.Test.YtfgkodgdoplpbabSame
import Derived.SizedLaws
namespace Go.Proofs.Ytfgkodgdoplpbab
open Go.RowKit

set_option maxHeartbeats 1600000 in
theorem law_WireEncodes (k s r c : Int) (a : Option Addr) (n cap : Nat) (bs : List UInt8) (w : World) (h : BytesAt w w.heap.size a n bs) (hnil : a = none → n = 0 ∧ cap = 0) :
    Calls Try.prog 3 #[messV k s r c a n cap] w fun e w' => e = .returned (.bool true) ∧ Below w.heap.size w w' := by
  have HC := Lib.hid (fun W => wire_Check k s r c a n cap W)
  have HF := Lib.hid (fun W => ref_WireFault k s r c a n cap W)
  have HE := Lib.hid (fun W hb => wire_Encode k s r c a n cap bs W hb hnil)
  have HR := Lib.hid (fun W hb => ref_WireBytes k s r c a n cap bs W hb)
  have hg := Blk.new w 24 [.int .i64 k, .int .i64 s, .int .i64 r, .int .i64 c, .slice a n cap]
  have hA : Below w.heap.size w (w.alloc (.cells #[.int .i64 k, .int .i64 s, .int .i64 r, .int .i64 c, .slice a n cap] 24)) := (Below.refl _ _).alloc (Nat.le_refl _) _
  obtain ⟨m0, m1, m2, m3, m4⟩ := hg.facts5.1
  have Hb := Lib.hid h
  have HG := Lib.hid hg
  have HA := Lib.hid hA
  clear h hnil hg hA
  obtain ⟨E, hE⟩ : ∃ E, Wr.err k s r c n = E := ⟨_, rfl⟩
  obtain ⟨X, hX⟩ : ∃ X, Wr.encOut k s r c bs = X := ⟨_, rfl⟩
  rw [hE] at HC HF HE HR
  rw [hX] at HE HR
  clear hE hX
  unfold messV at *
  go_enter Try.func3, Try.ntmps3
  go_wp2_with fail
  refine (HC.out _).mono ?_
  rintro e w1 ⟨rfl, hb1⟩
  have hg1 := HG.out.kept hb1
  have hB1 := HA.out.trans (hb1.mono HA.out.size)
  have HE1 := Lib.hid (HE.out w1 ((Hb.out.below hB1).up hB1.size))
  clear m0 m1 m2 m3 m4 hb1
  obtain ⟨m0, m1, m2, m3, m4⟩ := hg1.facts5.1
  have HG1 := Lib.hid hg1
  have HB1 := Lib.hid hB1
  clear hg1 hB1
  go_wp2_with fail
  refine HE1.out.mono ?_
  rintro e w2 ⟨a2, n2, c2, rfl, ho2, hb2⟩
  have hg2 := HG1.out.kept hb2
  have hB2 := HB1.out.trans (hb2.mono HB1.out.size)
  clear m0 m1 m2 m3 m4 hb2
  obtain ⟨m0, m1, m2, m3, m4⟩ := hg2.facts5.1
  have HG2 := Lib.hid hg2
  have HB2 := Lib.hid hB2
  have Hy2 := Lib.hid (BytesAt.own ho2)
  clear hg2 hB2 ho2
  go_wp2_with fail
  refine (HF.out _).mono ?_
  rintro e w3 ⟨rfl, hb3⟩
  have hg3 := HG2.out.kept hb3
  have hB3 := HB2.out.trans (hb3.mono HB2.out.size)
  have HR3 := Lib.hid (HR.out w3 ((Hb.out.below hB3).up hB3.size))
  have Hy3 := Lib.hid ((Hy2.out.below hb3).up hb3.size)
  clear m0 m1 m2 m3 m4 hb3
  obtain ⟨m0, m1, m2, m3, m4⟩ := hg3.facts5.1
  have HB3 := Lib.hid hB3
  clear hg3 hB3
  go_wp2_with fail
  refine HR3.out.mono ?_
  rintro e w4 ⟨a4, n4, c4, rfl, hy4, _, hb4⟩
  have Hy3' := Lib.hid (Hy3.out.below hb4)
  have Hy4 := Lib.hid hy4
  have HB4 := Lib.hid (HB3.out.trans (hb4.mono HB3.out.size))
  clear m0 m1 m2 m3 m4 hb4 hy4
  go_wp2_with (go_at_call 12; refine (same_bytes _ _ _ _ _ _ _ _ _ _ Hy3'.out Hy4.out).mono ?_; rintro e w' ⟨rfl, rfl⟩)
  go_ret
  exact ⟨by simp, HB4.out⟩
end Go.Proofs.Ytfgkodgdoplpbab
