/- The contract of seal.Open. -/
import Derived.Test.YthknkfiofdfogaaDoorSealCode3
import Derived.Test.YthknkfiofdfogaaDoorMacRightWalk
namespace Go.Proofs.YthknkfiofdfogaaDoor
open Go.RowKit

theorem Sl.open_short (s : List UInt8) (counter : Int) (b : List UInt8) (h : b.length < 16) :
    Sl.openErr s counter b = (if Sl.streamErr s counter 0 ≠ 0 then Sl.streamErr s counter 0 else 8) ∧ Sl.openOut s counter b = [] := by
  have e : Sl.openErr s counter b = (if Sl.streamErr s counter 0 ≠ 0 then Sl.streamErr s counter 0 else 8) := by
    unfold Sl.openErr
    rw [if_neg (by omega), show b.length - 16 = 0 by omega, if_pos h]
    rfl
  refine ⟨e, ?_⟩
  unfold Sl.openOut
  rw [e, if_neg]
  split <;> omega
theorem Sl.open_bad (s : List UInt8) (counter : Int) (b : List UInt8) (m : Nat) (h : b.length = m + 16) (hm : m ≤ 220) (he : Sl.streamErr s counter (m : Int) ≠ 0) :
    Sl.openErr s counter b = Sl.streamErr s counter (m : Int) ∧ Sl.openOut s counter b = [] := by
  have e : Sl.openErr s counter b = Sl.streamErr s counter (m : Int) := by
    unfold Sl.openErr
    rw [if_neg (by omega), show b.length - 16 = m by omega, if_pos he]
  exact ⟨e, by unfold Sl.openOut; rw [e, if_neg he]⟩
theorem Sl.open_good (s : List UInt8) (ctr : Nat) (b : List UInt8) (m : Nat) (h : b.length = m + 16) (hm : m ≤ 220) (he : Sl.streamErr s ctr (m : Int) = 0) (hc : Hx.checkErr s = 0) :
    (Mc.right s (Sl.seal4 ctr (b.take m)) (b.drop m) = true → Sl.openErr s ctr b = 0 ∧ Sl.openOut s ctr b = Sl.xorL (b.take m) (Sl.stream (Hx.pairs s) ctr m)) ∧
    (Mc.right s (Sl.seal4 ctr (b.take m)) (b.drop m) = false → Sl.openErr s ctr b = 9 ∧ Sl.openOut s ctr b = []) := by
  have hl : (Sl.seal4 ctr (b.take m)).length ≤ 936 := by rw [Sl.seal4_length, List.length_take]; omega
  have e : Sl.openErr s ctr b = if (Mc.tag (Hx.pairs s) (Sl.seal4 ctr (b.take m))).take 16 = b.drop m then 0 else 9 := by
    unfold Sl.openErr Sl.body Sl.tail Sl.tag16
    rw [if_neg (by omega), show b.length - 16 = m by omega, if_neg (by omega), if_neg (by omega)]
    simp
  have r : Mc.right s (Sl.seal4 ctr (b.take m)) (b.drop m) = decide ((Mc.tag (Hx.pairs s) (Sl.seal4 ctr (b.take m))).take 16 = b.drop m) := by
    rw [right_ok _ _ _ (Mc.tag_ok s _ hc hl).1, (Mc.tag_ok s _ hc hl).2]
  rw [r]
  constructor
  · intro h1
    rw [if_pos (of_decide_eq_true h1)] at e
    refine ⟨e, ?_⟩
    unfold Sl.openOut Sl.body
    rw [if_pos e, show b.length - 16 = m by omega, Sl.xorL_comm]
    simp
  · intro h1
    rw [if_neg (of_decide_eq_false h1)] at e
    exact ⟨e, by unfold Sl.openOut; rw [e, if_neg (by decide)]⟩
theorem BytesAt.rest2 {w : World} {B n m g off : Nat} {bs : List UInt8} (h : BytesAt w B (some ⟨g, off, none⟩) n bs) (hm : m ≤ n) : BytesAt w B (some ⟨g, off + m, none⟩) (n - m) (bs.drop m) := by
  refine ⟨by rw [List.length_drop, h.1], fun hn => ?_⟩
  obtain ⟨b, o, e, hlt, hc⟩ := h.2 (by omega)
  injection e with e; injection e with e1 e2
  subst e1; subst e2
  refine ⟨g, off + m, rfl, hlt, fun i hi => ?_⟩
  rw [List.length_drop] at hi
  rw [List.getElem_drop, ← hc (m + i) (by omega), Nat.add_assoc]

set_option maxRecDepth 100000 in
set_option maxHeartbeats 1000000 in
theorem seal_Open_good (s : ByteArray) (ctr m gb off c : Nat) (bs : List UInt8) (w : World) (hs : s.size ≤ maxLen)
    (h : BytesAt w w.heap.size (some ⟨gb, off, none⟩) (m + 16) bs) (hnc : m + 16 ≤ c) (hm2 : m ≤ 220) (hT : Tabs w) (he : Sl.streamErr s.data.toList (ctr : Int) (m : Int) = 0) (hc : Hx.checkErr s.data.toList = 0) (k1 : ctr ≤ 1099511627776) :
    Calls Tryd.prog 14 #[.string s, .int .i64 (ctr : Int), .slice (some ⟨gb, off, none⟩) (m + 16) c] w (SlicePost (Sl.openErr s.data.toList (ctr : Int) bs) (Sl.openOut s.data.toList (ctr : Int) bs) w) := by
  have hop := h.1
  have HT := Lib.hid hT
  have d1 : ¬ ((236 : Int) < (m : Int) + 16) := by omega
  have d2 : (m : Int) + 16 - 16 = (m : Int) := by omega
  have d3 : ¬ (m : Int) + 16 < 16 := by omega
  obtain ⟨ks, hks⟩ : ∃ ks, ks = Hx.pairs s.data.toList := ⟨_, rfl⟩
  have Hs := Lib.hid he
  have Hgood := Lib.hid (Sl.open_good s.data.toList ctr bs m hop hm2 he hc)
  rw [← hks] at Hgood
  have Hso := Lib.hid (show Sl.streamOut s.data.toList (ctr : Int) (m : Int) = Sl.stream ks ctr m by unfold Sl.streamOut; rw [if_pos he, hks]; simp)
  have Hte := Lib.hid ((Mc.tag_ok s.data.toList (Sl.seal4 ctr (bs.take m)) hc (by rw [Sl.seal4_length, List.length_take]; omega)).1)
  have Hx1 := Lib.hid (h.cut (m := m) (by omega))
  have Hx2 := Lib.hid (h.rest2 (m := m) (by omega))
  have hls : (Sl.seal4 ctr (bs.take m)).length = 12 + m := by rw [Sl.seal4_length, List.length_take]; omega
  have Hls := Lib.hid hls
  have hlx : (bs.take m).length = m := by rw [List.length_take]; omega
  have Hlx := Lib.hid hlx
  rw [show m + 16 - m = 16 by omega] at Hx2
  have hne : ¬ c = m := by omega
  have q1 : (m : Int) ≤ (c : Int) := by omega
  have q2 : (m : Int) ≤ (m : Int) + 16 := by omega
  have q5 : (m : Int) + 16 ≤ (c : Int) := by omega
  clear he hc hks hop hls hlx h hT
  generalize bs.take m = ct at *
  generalize bs.drop m = tg at *
  go_enter Tryd.func14, Tryd.ntmps14
  go_wp2_with fail
  refine (seal_Stream s ctr m _ hs (by omega) (by omega) (by omega) (by omega) HT.out).mono ?_
  rintro e w1 ⟨a1, n1, c1', rfl, ho1, hb1⟩
  rw [Hs.out]
  rw [Hso.out] at ho1
  have o1 := BytesAt.own ho1
  obtain rfl : n1 = m := by rw [← o1.1, Sl.stream_length]
  have Ho1 := Lib.hid o1
  have HX1 := Lib.hid ((Hx1.out.below hb1).up hb1.size)
  have HX2 := Lib.hid ((Hx2.out.below hb1).up hb1.size)
  have HT1 := Lib.hid (HT.out.below hb1)
  have HB1 := Lib.hid hb1
  clear o1 ho1 hb1 Hso Hx1 Hx2
  rw [show ((0 : Nat) : Int) = (0 : Int) from rfl]
  go_wp2_with fail
  go_quiet (fail)
  obtain ⟨W, hW⟩ : ∃ W, W = w1.drewN nq := ⟨_, rfl⟩
  have hbW : Below w1.heap.size w1 W := by rw [hW]; exact below_drewN (Below.refl _ _) nq
  rw [← hW]
  clear hW
  have Ho2 := Lib.hid ((Ho1.out.below hbW).up hbW.size)
  have HY1 := Lib.hid ((HX1.out.below hbW).up hbW.size)
  have HY2 := Lib.hid ((HX2.out.below hbW).up hbW.size)
  have HT2 := Lib.hid (HT1.out.below hbW)
  have HB2 := Lib.hid (HB1.out.trans (hbW.mono HB1.out.size))
  clear hbW Ho1 HX1 HX2 HT1 HB1
  go_wp2_with fail
  refine (seal_labelled _ ctr _ (by decide)).mono ?_
  rintro e w3 ⟨v3, rfl, ho3, hb3⟩
  have HO3 := Lib.hid ho3
  have Hz3 := Lib.hid hb3.size
  have HY13 := Lib.hid (HY1.out.below hb3)
  have Hb3 := Lib.hid hb3
  clear ho3 hb3
  go_wp2_with (at_builtin; refine wpL_append_M _ rfl _ _ rfl W.heap.size _ _ rfl HO3.out ⟨gb, off, none⟩ n1 c ct rfl Hlx.out (HY13.out.news _ rfl) ?p1 Hz3.out ?_)
  case p1 => rw [List.length_append, Sl.beL_length]; exact Nat.le_trans (Nat.add_le_add_left (by omega : n1 ≤ 220) _) (by decide)
  intro v4 w4 ho4 hb4
  replace ho4 : OwnM w4 W.heap.size v4 (Sl.seal4 ctr ct) := ho4
  obtain ⟨g4, c4, rfl, -, -, -⟩ := ho4.form
  rw [Hls.out] at ho4 ⊢
  have hb24 := Hb3.out.trans hb4
  have Hb4 := Lib.hid ho4.bytes
  have HT4 := Lib.hid (HT2.out.below hb24)
  have HB4 := Lib.hid (HB2.out.trans (hb24.mono HB2.out.size))
  have Ho4 := Lib.hid ((Ho2.out.below hb24).up hb24.size)
  have HZ1 := Lib.hid ((HY1.out.below hb24).up hb24.size)
  have HZ2 := Lib.hid ((HY2.out.below hb24).up hb24.size)
  clear ho4 hb4 hb24 Hb3 HO3 Hz3 HT2 HB2 Ho2 HY1 HY2 HY13
  go_wp2_with fail
  refine (mac_Right s _ (12 + n1) _ _ _ 16 _ tg _ hs Hb4.out (fun h => by cases h) (by unfold maxLen; omega) HZ2.out (by decide) HT4.out).mono ?_
  rintro e w5 ⟨rfl, hb5⟩
  rw [Hte.out]
  have HB5 := Lib.hid (HB4.out.trans (hb5.mono HB4.out.size))
  have Ho5 := Lib.hid ((Ho4.out.below hb5).up hb5.size)
  have HZ15 := Lib.hid ((HZ1.out.below hb5).up hb5.size)
  clear hb5 HB4 Ho4 HZ1 HZ2 Hb4 HT4
  rw [show ((0 : Nat) : Int) = (0 : Int) from rfl]
  cases hr : Mc.right s.data.toList (Sl.seal4 ctr ct) tg
  · have He := Lib.hid (Hgood.out.2 hr)
    clear hr
    go_wp2
    go_ret2
    rw [He.out.1, He.out.2]
    exact slicePost_none (err := 9) HB5.out
  · have He := Lib.hid (Hgood.out.1 hr)
    clear hr
    go_wp2_with fail
    refine (seal_combined _ a1 n1 c c1' ct _ _ HZ15.out Ho5.out (by omega)).mono ?_
    rintro e w6 ⟨c6, rfl, ho6, hb6⟩
    have hB6 := HB5.out.trans (hb6.mono HB5.out.size)
    have ho6' := ownsRow_base ho6 HB5.out.size
    clear ho6 hb6
    go_wp2
    go_ret2
    rw [He.out.1, He.out.2]
    exact slicePost_own (err := 0) ho6' hB6

set_option maxRecDepth 100000 in
set_option maxHeartbeats 2000000 in
theorem seal_Open (s : ByteArray) (counter : Int) (a : Option Addr) (n c : Nat) (bs : List UInt8) (w : World) (hs : s.size ≤ maxLen) (c0 : -9223372036854775808 ≤ counter) (c1 : counter ≤ 9223372036854775807)
    (h : BytesAt w w.heap.size a n bs) (hnc : n ≤ c) (hn : n ≤ maxLen) (hT : Tabs w) :
    Calls Tryd.prog 14 #[.string s, .int .i64 counter, .slice a n c] w (SlicePost (Sl.openErr s.data.toList counter bs) (Sl.openOut s.data.toList counter bs) w) := by
  have hl := h.1
  have HT := Lib.hid hT
  have Hb := Lib.hid h
  clear hT h
  unfold maxLen at hn
  by_cases hbig : 236 < n
  · have He := Lib.hid (show Sl.openErr s.data.toList counter bs = 1 by unfold Sl.openErr; rw [if_pos (by omega)])
    have Ho := Lib.hid (show Sl.openOut s.data.toList counter bs = [] by unfold Sl.openOut; rw [He.out, if_neg (by decide)])
    have d1 : (236 : Int) < (n : Int) := by omega
    go_enter Tryd.func14, Tryd.ntmps14
    go_wp2
    go_ret2
    rw [He.out, Ho.out]
    exact slicePost_none (err := 1) (Below.refl _ _)
  have d1 : ¬ ((236 : Int) < (n : Int)) := by omega
  by_cases hsm : n < 16
  · have d2 : (n : Int) - 16 < 0 := by omega
    have d3 : (n : Int) < 16 := by omega
    have hop := Sl.open_short s.data.toList counter bs (by omega)
    have Ho := Lib.hid hop.2
    have e1 := hop.1
    rcases Sl.stream_cases s.data.toList counter 0 with ⟨he, -⟩ | he | he | he
    all_goals
      have Hs := Lib.hid he
      rw [he] at e1
      have He := Lib.hid e1
      clear he e1 hl hop
      go_enter Tryd.func14, Tryd.ntmps14
      go_wp2_with fail
      refine (seal_Stream s counter 0 _ hs c0 c1 (by omega) (by omega) HT.out).mono ?_
      rintro e w1 ⟨a1, n1, c1', rfl, ho1, hb1⟩
      rw [Hs.out]
      clear ho1
      go_wp2
      go_ret2
      rw [He.out, Ho.out]
      first | exact slicePost_none (err := 8) hb1 | exact slicePost_none (err := 1) hb1 | exact slicePost_none (err := 3) hb1 | exact slicePost_none (err := 4) hb1
  obtain ⟨m, hm⟩ : ∃ m : Nat, n = m + 16 := ⟨n - 16, by omega⟩
  have d2 : (n : Int) - 16 = (m : Int) := by omega
  have d3 : ¬ (n : Int) < 16 := by omega
  have hm2 : m ≤ 220 := by omega
  have hop : bs.length = m + 16 := by omega
  rcases Sl.stream_cases s.data.toList counter (m : Int) with ⟨he, hc, k0, k1⟩ | he | he | he
  rotate_left
  all_goals try
    have Hs := Lib.hid he
    have hob := Sl.open_bad s.data.toList counter bs m hop hm2 (by rw [he]; decide)
    rw [he] at hob
    have He := Lib.hid hob.1
    have Ho := Lib.hid hob.2
    clear he hob hl hm hop
    go_enter Tryd.func14, Tryd.ntmps14
    go_wp2_with fail
    refine (seal_Stream s counter m _ hs c0 c1 (by omega) (by omega) HT.out).mono ?_
    rintro e w1 ⟨a1, n1, c1', rfl, ho1, hb1⟩
    rw [Hs.out]
    clear ho1
    go_wp2
    go_ret2
    rw [He.out, Ho.out]
    first | exact slicePost_none (err := 1) hb1 | exact slicePost_none (err := 3) hb1 | exact slicePost_none (err := 4) hb1
  subst hm
  obtain ⟨ctr, rfl⟩ : ∃ c : Nat, counter = (c : Int) := ⟨counter.toNat, by omega⟩
  obtain ⟨gb, off, rfl, -, -⟩ := Hb.out.2 (by omega)
  exact seal_Open_good s ctr m gb off c bs w hs Hb.out hnc hm2 HT.out he hc (by omega)
end Go.Proofs.YthknkfiofdfogaaDoor
