/- The walk of LineTurns. -/
import Derived.Test.YtldfamdjdkaloabDoorLineCode2
import Derived.Test.YtldfamdjdkaloabDoorLineRef3
import Derived.SizedLaws
namespace Go.Proofs.YtldfamdjdkaloabDoor
open Go.RowKit

abbrev text2 : ByteArray := ⟨#[97, 61, 98, 10, 99]⟩
theorem text2_bad : Ln.sBad text2 = (2, 3) := by decide +kernel
theorem split_two (w : World) (hM : MaxTab w) : Calls Tryd.prog 7 #[.string ⟨#[97, 61, 98, 10, 99]⟩] w fun e w' => (∃ a n c, e = .returned (.tuple #[.slice a n c, .int .i64 2, .int .i64 3])) ∧ Below w.heap.size w w' :=
  (line_Split text2 w hM).mono fun e w' ⟨⟨a, c, he, _⟩, hb⟩ => ⟨⟨a, (Ln.sOut text2).length, c, by rw [he, text2_bad]; rfl⟩, hb⟩

set_option maxRecDepth 20000 in
set_option maxHeartbeats 1600000 in
theorem law_LineTurns (s : ByteArray) (w : World) (_ : s.size ≤ reachBytes) (hM : MaxTab w) :
    Calls Tryd.prog 5 #[.string s] w fun e w' => e = .returned (.bool true) ∧ Below w.heap.size w w' := by
  have H1 := Lib.hid (line_Split s w hM)
  have H2 := Lib.hid (fun W (hW : Below w.heap.size w W) => split_two W (hM.below hW))
  clear hM
  unfold SplitPost at H1
  by_cases he : (Ln.sBad s).2 = 0
  · obtain ⟨g1, g2, g3⟩ := Ln.join_split he
    have HJ := Lib.hid (fun a n c W (hW : LinesAt W W.heap.size a n (Ln.sOut s)) => line_Join a n c (Ln.sOut s) W hW)
    rw [g2, g3] at HJ
    rw [he, g1] at H1
    clear he g1 g2 g3
    generalize Ln.sOut s = L at *
    go_enter Tryd.func5, Tryd.ntmps5
    go_wp2_with fail
    refine H1.out.mono ?_
    rintro e w1 ⟨⟨a, c, rfl, hat⟩, hb1⟩
    have HL := Lib.hid hat
    have HB1 := Lib.hid hb1
    clear hat hb1 H1
    go_wp2_with fail
    refine (H2.out w1 HB1.out).mono ?_
    rintro e w2 ⟨⟨a', n', c', rfl⟩, hb2⟩
    have HL2 := Lib.hid (HL.out.kept hb2)
    have HB2 := Lib.hid (HB1.out.trans (hb2.mono HB1.out.size))
    clear hb2 HL H2
    go_wp2_with fail
    refine (HJ.out _ _ _ w2 HL2.out).mono ?_
    rintro e w3 ⟨rfl, hb3⟩
    have HB3 := Lib.hid (HB2.out.trans (hb3.mono HB2.out.size))
    clear hb3 HL2 HJ
    go_wp2
    go_ret
    exact ⟨rfl, HB3.out⟩
  · obtain ⟨g1, g2⟩ := Ln.split_err he
    have HK := Lib.hid (fun W => lib_CountAt s 10 W)
    have hn : (((Ln.sBad s).2 : Int) != 0) = true := by simpa using he
    have hcl := count_le s
    rw [g1] at H1
    clear he g1
    generalize (Ln.sBad s).1 = bi at *
    generalize (Ln.sBad s).2 = br at *
    generalize s.data.toList.count 10 = q at *
    have d1 : decide (0 ≤ (bi : Int)) = true := decide_eq_true (by omega)
    have d2 : decide ((bi : Int) ≤ 1 + (q : Int)) = true := decide_eq_true (by omega)
    have hq : q ≤ 281474976710656 := by have : s.size ≤ reachBytes := by assumption
                                        unfold reachBytes at this; omega
    go_enter Tryd.func5, Tryd.ntmps5
    go_wp2_with fail
    refine H1.out.mono ?_
    rintro e w1 ⟨⟨a, c, rfl, hat⟩, hb1⟩
    have HB1 := Lib.hid hb1
    clear hat hb1 H1
    go_wp2_with fail
    refine (H2.out w1 HB1.out).mono ?_
    rintro e w2 ⟨⟨a', n', c', rfl⟩, hb2⟩
    have HB2 := Lib.hid (HB1.out.trans (hb2.mono HB1.out.size))
    clear hb2 H2
    go_wp2_with fail
    refine (HK.out w2).mono ?_
    rintro e w3 ⟨rfl, rfl⟩
    go_wp2
    go_ret
    exact ⟨rfl, HB2.out⟩
end Go.Proofs.YtldfamdjdkaloabDoor
