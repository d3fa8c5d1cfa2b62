/- The walk of LineBack. -/
import Derived.Test.YtldfamdjdkaloabDoorLineKeep2
import Derived.Test.YtldfamdjdkaloabDoorLineCode2
import Derived.Test.YtldfamdjdkaloabDoorLineCode4
import Derived.Test.YtldfamdjdkaloabDoorLineEq
namespace Go.Proofs.YtldfamdjdkaloabDoor
open Go.RowKit

abbrev text3 : ByteArray := ⟨#[97, 61, 98, 61, 99]⟩
theorem text3_good : Ln.sBad text3 = (0, 0) ∧ Ln.sOut text3 = [⟨⟨#[97]⟩, ⟨#[98, 61, 99]⟩⟩] := by
  refine ⟨by decide +kernel, ?_⟩
  have h : (Ln.sOut text3).map (fun x => (x.k.data.toList, x.v.data.toList)) = [([97], [98, 61, 99])] := by decide +kernel
  match hs : Ln.sOut text3, h with
  | [⟨⟨⟨k⟩⟩, ⟨⟨v⟩⟩⟩], h =>
    simp only [List.map_cons, List.map_nil, List.cons.injEq, Prod.mk.injEq, and_true] at h
    obtain ⟨h1, h2⟩ := h
    subst h1 h2
    rfl
theorem split_three (w : World) (hM : MaxTab w) : Calls Tryd.prog 7 #[.string ⟨#[97, 61, 98, 61, 99]⟩] w fun e w' => (∃ b off c, e = .returned (.tuple #[.slice (some ⟨b, off, none⟩) 1 c, .int .i64 0, .int .i64 0]) ∧ b < w'.heap.size ∧ w'.cell? ⟨b, off + 1, none⟩ = some (.string ⟨#[98, 61, 99]⟩)) ∧ Below w.heap.size w w' :=
  (line_Split text3 w hM).mono fun e w' ⟨⟨a, c, he, hat⟩, hb⟩ => by
    rw [text3_good.1, text3_good.2] at he
    rw [text3_good.2] at hat
    obtain ⟨b, off, rfl, hlt, hc⟩ := hat.2 (by decide)
    have := (hc 0 (by decide)).2
    rw [Nat.zero_mul, Nat.add_zero] at this
    exact ⟨⟨b, off, c, he, hlt, this⟩, hb⟩

set_option maxRecDepth 20000 in
set_option maxHeartbeats 1600000 in
theorem law_LineBack (a : Option Addr) (n c : Nat) (l : List RawD) (w : World) (h : RawsAt w w.heap.size a n l) (_ : n ≤ c) (hm : c ≤ maxLen) (hok : ∀ r ∈ l, r.ok) (hM : MaxTab w) :
    Calls Tryd.prog 4 #[.slice a n c] w fun e w' => e = .returned (.bool true) ∧ Below w.heap.size w w' := by
  have H1 := Lib.hid (keep_lines a n c l w h (by omega) hok)
  have hg := Ln.rawsL_good l
  obtain ⟨g1, g2⟩ := Ln.split_join hg
  have H2 := Lib.hid (fun a n c W (hW : LinesAt W W.heap.size a n (Ln.rawsL l)) => line_Join a n c (Ln.rawsL l) W hW)
  have H3 := Lib.hid (fun W (hW : Below w.heap.size w W) => line_Split (Ln.ofT (Ln.jOut (Ln.rawsL l))) W (hM.below hW))
  have H4 := Lib.hid (fun W (hW : Below w.heap.size w W) => split_three W (hM.below hW))
  have hXl : (Ln.rawsL l).length ≤ 20 := by unfold Ln.rawsL; rw [List.length_map, List.length_take]; omega
  unfold SplitPost at H3
  rw [g1, g2] at H3
  rw [hg] at H2
  clear h hok hM hg g1 g2 hm
  generalize Ln.ofT (Ln.jOut (Ln.rawsL l)) = T at *
  generalize Ln.rawsL l = X at *
  go_enter Tryd.func4, Tryd.ntmps4
  go_wp2_with fail
  refine H1.out.mono ?_
  rintro e w1 ⟨⟨v, rfl, ho⟩, hb1⟩
  obtain ⟨ax, cx, rfl, hx⟩ := ho.at
  have HX1 := Lib.hid hx
  have HB1 := Lib.hid hb1
  clear hx ho hb1 H1
  go_wp2_with fail
  refine (H2.out ax X.length cx w1 HX1.out).mono ?_
  rintro e w2 ⟨rfl, hb2⟩
  have HX2 := Lib.hid (HX1.out.kept hb2)
  have HB2 := Lib.hid (HB1.out.trans (hb2.mono HB1.out.size))
  clear hb2 HX1 H2
  go_wp2_with fail
  refine (H3.out w2 HB2.out).mono ?_
  rintro e w3 ⟨⟨ay, cy, rfl, hy⟩, hb3⟩
  have HX3 := Lib.hid (HX2.out.kept hb3)
  have HY3 := Lib.hid hy
  have HB3 := Lib.hid (HB2.out.trans (hb3.mono HB2.out.size))
  clear hb3 HX2 H3 hy
  go_wp2_with fail
  refine (H4.out w3 HB3.out).mono ?_
  rintro e w4 ⟨⟨b, off, co, rfl, hbl, hc⟩, hb4⟩
  have HX4 := Lib.hid (HX3.out.kept hb4)
  have HY4 := Lib.hid (HY3.out.kept hb4)
  have HB4 := Lib.hid (HB3.out.trans (hb4.mono HB3.out.size))
  have HE := Lib.hid (lines_Equal ax ay X.length X.length cx cy X X w4 HX4.out HY4.out (by omega))
  clear hb4 HX3 HY3 H4
  go_wp2_with fail
  refine HE.out.mono ?_
  rintro e w5 ⟨r, rfl, hr, hb5⟩
  obtain rfl : r = true := hr.2 (by trivial)
  have HB5 := Lib.hid (HB4.out.trans (hb5.mono HB4.out.size))
  clear hb5 hr hc
  go_wp2
  go_ret
  exact ⟨rfl, HB5.out⟩
end Go.Proofs.YtldfamdjdkaloabDoor
