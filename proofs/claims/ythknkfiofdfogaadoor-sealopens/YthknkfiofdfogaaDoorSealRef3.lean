/- The contract of the reference's Unsealed. -/
import Derived.Test.YthknkfiofdfogaaDoorSealRef2
import Derived.Test.YthknkfiofdfogaaDoorSame2
import Derived.BigRegion
namespace Go.Proofs.YthknkfiofdfogaaDoor
open Go.RowKit

theorem strOf_bne (a b : List UInt8) : ((strOf a).toList != (strOf b).toList) = !decide (a = b) := by
  show (!((strOf a).toList == (strOf b).toList)) = _
  rw [strOf_beq]
theorem body_tail (b : List UInt8) : Sl.body b ++ Sl.tail b = b := List.take_append_drop _ _
theorem body_length (b : List UInt8) : (Sl.body b).length = b.length - 16 := by unfold Sl.body; rw [List.length_take]; omega
theorem open_cases (s : List UInt8) (counter : Int) (b : List UInt8) (m : Nat) (hm : m = b.length - 16) : (236 < b.length ∧ Sl.openErr s counter b = 1 ∧ Sl.openOut s counter b = []) ∨
    (b.length ≤ 236 ∧ Sl.streamErr s counter (m : Int) ≠ 0 ∧ Sl.openErr s counter b = Sl.streamErr s counter (m : Int) ∧ Sl.openOut s counter b = []) ∨
    (b.length < 16 ∧ Sl.streamErr s counter (m : Int) = 0 ∧ Sl.openErr s counter b = 8 ∧ Sl.openOut s counter b = []) ∨
    (16 ≤ b.length ∧ b.length ≤ 236 ∧ Sl.streamErr s counter (m : Int) = 0 ∧ ∃ ok : Bool, decide (Sl.tag16 (Hx.pairs s) counter.toNat (Sl.body b) = Sl.tail b) = ok ∧ Sl.openErr s counter b = (if ok then 0 else 9) ∧
      Sl.openOut s counter b = (if ok then Sl.xorL (Sl.stream (Hx.pairs s) counter.toNat m) (Sl.body b) else [])) := by
  subst hm
  unfold Sl.openOut Sl.openErr
  by_cases h : 236 < b.length
  · rw [if_pos h]; exact .inl ⟨h, rfl, if_neg (by decide)⟩
  · rw [if_neg h]
    by_cases h2 : Sl.streamErr s counter ((b.length - 16 : Nat) : Int) = 0
    · rw [if_neg (by rw [h2]; decide)]
      by_cases h3 : b.length < 16
      · rw [if_pos h3]; exact .inr (.inr (.inl ⟨h3, h2, rfl, if_neg (by decide)⟩))
      · rw [if_neg h3]
        by_cases h4 : Sl.tag16 (Hx.pairs s) counter.toNat (Sl.body b) = Sl.tail b
        · rw [if_pos h4]; exact .inr (.inr (.inr ⟨by omega, by omega, h2, true, decide_eq_true h4, rfl, rfl⟩))
        · rw [if_neg h4]; exact .inr (.inr (.inr ⟨by omega, by omega, h2, false, decide_eq_false h4, rfl, rfl⟩))
    · rw [if_pos h2]; exact .inr (.inl ⟨by omega, h2, rfl, if_neg h2⟩)
/-- Sealing anew what was opened: the same bytes, and the tag of them. -/
theorem again_raw (ks : List UInt8) (ctr : Nat) (b : List UInt8) (m : Nat) (hm : m = b.length - 16) : Sl.sealRaw ks ctr (Sl.xorL (Sl.stream ks ctr m) (Sl.body b)) = Sl.body b ++ Sl.tag16 ks ctr (Sl.body b) := by
  have hl : (Sl.stream ks ctr m).length = (Sl.body b).length := by rw [Sl.stream_length, body_length, hm]
  unfold Sl.sealRaw
  rw [Sl.xorL_length _ _ hl, Sl.stream_length, Sl.xorL_back _ _ hl]
theorem again_eq (ks : List UInt8) (ctr : Nat) (b : List UInt8) (m : Nat) (hm : m = b.length - 16) : decide (Sl.sealRaw ks ctr (Sl.xorL (Sl.stream ks ctr m) (Sl.body b)) = b) = decide (Sl.tag16 ks ctr (Sl.body b) = Sl.tail b) := by
  rw [again_raw ks ctr b m hm]
  by_cases h : Sl.tag16 ks ctr (Sl.body b) = Sl.tail b
  · rw [decide_eq_true h, h, body_tail, decide_eq_true rfl]
  · rw [decide_eq_false h, decide_eq_false]
    intro e
    rw [← body_tail b] at e
    refine h ?_
    have e2 := List.append_cancel_left (show Sl.body b ++ Sl.tag16 ks ctr (Sl.body b) = Sl.body b ++ Sl.tail b by
      have := e
      rw [body_tail] at this
      rw [body_tail]; exact this)
    exact e2

set_option maxRecDepth 100000 in
set_option maxHeartbeats 2000000 in
theorem ref_Unsealed (s : ByteArray) (counter : Int) (a : Option Addr) (n c : Nat) (bs : List UInt8) (w : World) (hs : s.size ≤ maxLen) (c0 : -9223372036854775808 ≤ counter) (c1 : counter ≤ 9223372036854775807)
    (h : BytesAt w w.heap.size a n bs) (hn : n ≤ maxLen) :
    Calls Tryd.prog 15 #[.string s, .int .i64 counter, .slice a n c] w (SlicePost (Sl.openErr s.data.toList counter bs) (Sl.openOut s.data.toList counter bs) w) := by
  have hl := h.1
  unfold maxLen at hn
  have Hb := Lib.hid h
  clear h
  obtain ⟨m, hm⟩ : ∃ m : Nat, m = n - 16 := ⟨_, rfl⟩
  have hm' : m = bs.length - 16 := by rw [hl]; exact hm
  rcases open_cases s.data.toList counter bs m hm' with ⟨h1, he, ho⟩ | ⟨h1, h2, he, ho⟩ | ⟨h1, h2, he, ho⟩ | ⟨h1, h1', h2, ok, h4, he, ho⟩
  · rw [hl] at h1
    have He := Lib.hid he
    have Ho := Lib.hid ho
    clear he ho hl hm hm'
    go_enter Tryd.func15, Tryd.ntmps15
    go_wp2
    go_ret2
    rw [He.out, Ho.out]
    exact slicePost_none (err := 1) (Below.refl _ _)
  · rw [hl] at h1
    have hse := (stream_errs _ _ _ h2).1
    have Ho := Lib.hid ho
    have Hm := Lib.hid hm
    rcases hse with h3 | h3 | h3
    all_goals
      have H3 := Lib.hid h3
      have He := Lib.hid (he.trans h3)
      clear he h2 h3 hl ho hm'
      by_cases h16 : n < 16
      · have hm0 : m = 0 := by omega
        subst hm0
        clear hm
        go_enter Tryd.func15, Tryd.ntmps15
        go_wp2_with fail
        refine (ref_SealStream s counter ((0 : Nat) : Int) _ hs c0 c1 (by omega) (by omega)).mono ?_
        rintro e w1 ⟨a1, n1, cc1, rfl, ho1, hb1⟩
        rw [H3.out]
        clear ho1
        go_wp2
        go_ret2
        rw [He.out, Ho.out]
        first | exact slicePost_none (err := 1) hb1 | exact slicePost_none (err := 3) hb1 | exact slicePost_none (err := 4) hb1
      · have hmi : (n : Int) - 16 = (m : Int) := by omega
        clear hm
        go_enter Tryd.func15, Tryd.ntmps15
        go_wp2_with fail
        refine (ref_SealStream s counter (m : Int) _ hs c0 c1 (by omega) (by omega)).mono ?_
        rintro e w1 ⟨a1, n1, cc1, rfl, ho1, hb1⟩
        rw [H3.out]
        clear ho1
        go_wp2
        go_ret2
        rw [He.out, Ho.out]
        first | exact slicePost_none (err := 1) hb1 | exact slicePost_none (err := 3) hb1 | exact slicePost_none (err := 4) hb1
  · rw [hl] at h1
    have Ho := Lib.hid ho
    have He := Lib.hid he
    have hm0 : m = 0 := by omega
    subst hm0
    have H2 := Lib.hid h2
    clear he ho h2 hl hm hm'
    go_enter Tryd.func15, Tryd.ntmps15
    go_wp2_with fail
    refine (ref_SealStream s counter ((0 : Nat) : Int) _ hs c0 c1 (by omega) (by omega)).mono ?_
    rintro e w1 ⟨a1, n1, cc1, rfl, ho1, hb1⟩
    rw [H2.out]
    clear ho1
    go_wp2
    go_ret2
    rw [He.out, Ho.out]
    exact slicePost_none (err := 8) hb1
  · rw [hl] at h1 h1'
    have hpos := stream_pos _ _ _ h2
    obtain ⟨ctr, rfl⟩ : ∃ ctr : Nat, counter = (ctr : Int) := ⟨counter.toNat, by omega⟩
    have hk := stream_ok _ _ _ h2
    have He := Lib.hid he
    have Ho := Lib.hid ho
    have H2 := Lib.hid h2
    have Hc := Lib.hid hk.1
    have Hs := Lib.hid hk.2.2.2
    have hctr := hk.2.1
    have Hl := Lib.hid hl
    have H4 := Lib.hid h4
    have Hm := Lib.hid hm'
    have hmi : (n : Int) - 16 = (m : Int) := by omega
    obtain ⟨hmn, hm2⟩ : m ≤ n ∧ m ≤ 220 := by omega
    clear he ho hl h2 hk h4 hm hm'
    go_enter Tryd.func15, Tryd.ntmps15
    go_wp2_with fail
    refine (ref_SealStream s (ctr : Int) (m : Int) _ hs c0 c1 (by omega) (by omega)).mono ?_
    rintro e w1 ⟨a1, n1, cc1, rfl, ho1, hb1⟩
    rw [H2.out]
    rw [Hs.out] at ho1
    have hn1 := (BytesAt.own ho1).1
    rw [Sl.stream_length] at hn1 ho1
    subst hn1
    obtain ⟨ks, hks⟩ : ∃ ks, ks = Hx.pairs s.data.toList := ⟨_, rfl⟩
    rw [← hks] at ho1
    have Hks := Lib.hid hks
    have z1 := hb1.size
    obtain ⟨st, hst⟩ : ∃ st, st = Sl.stream ks ctr m := ⟨_, rfl⟩
    rw [← hst] at ho1
    have Hst := Lib.hid hst
    obtain ⟨bd, hbd⟩ : ∃ bd, bd = Sl.body bs := ⟨_, rfl⟩
    have Hbd := Lib.hid hbd
    have Hsl := Lib.hid (show st.length = m by rw [hst, Sl.stream_length])
    have Hsb := Lib.hid (show st.length = bd.length by rw [hst, Sl.stream_length, hbd, body_length, ← Hm.out])
    have Hbb : Hid (BytesAt w w.heap.size a m bd) := Lib.hid (by
      have := Hb.out.cut hmn
      rw [hbd]; unfold Sl.body; rw [← Hm.out]; exact this)
    rw [← Sl.xorTo_zero st bd] at ho1
    clear hks hst hbd hmi
    rw [show ((0 : Nat) : Int) = (0 : Int) from rfl]
    go_wp2
    go_loopw [37] (fun i wr => ∃ k : Nat, k ≤ m ∧ i = .int .i64 k ∧ wr.ownsRow w.heap.size 5 1 (.slice a1 m cc1) m (bcells (Sl.xorTo st bd k)) ∧ Below w.heap.size w wr) (fun i _ => m - (intOf i).toNat)
    case atStart => exact ⟨0, Nat.zero_le _, rfl, ho1, hb1⟩
    case round =>
      clear ho1 hb1
      obtain ⟨k, hk, rfl, ho1, hB⟩ := hrel
      have hz := hB.size
      by_cases hlt : k < m
      · obtain ⟨g, rfl, hgB, hgH⟩ := own_form ho1 (by omega)
        have hcell := xor_cell ho1 Hsb.out Hsl.out hlt
        have hf := ho1.frozenAt k
        obtain ⟨gb, off, rfl, hcb⟩ := bytes_lt (Hbb.out.below hB) hlt
        have hx := xor_u8 (st.getD k 0) (bd.getD k 0)
        have HM := Lib.hid (xor_step ho1 Hsb.out Hsl.out hlt)
        clear ho1
        generalize st.getD k 0 ^^^ bd.getD k 0 = Z at *
        generalize st.getD k 0 = X at *
        generalize bd.getD k 0 = Y at *
        go_wp2_with fail
        go_region
        go_wp2
        go_roundw
        case rel => exact ⟨k + 1, by omega, by go_num, HM.out, (hB.setCell hgB _).drew⟩
        case measure => simp [intOf]; omega
      · obtain rfl : k = m := by omega
        rw [Sl.xorTo_end st bd Hsb.out k (by rw [Hsl.out]; exact Nat.le_refl _)] at ho1
        have hol : (Sl.xorL st bd).length = k := by rw [Sl.xorL_length _ _ Hsb.out, Hsl.out]
        obtain ⟨ot, hot⟩ : ∃ ot, ot = Sl.xorL st bd := ⟨_, rfl⟩
        rw [← hot] at ho1 hol
        have Hot := Lib.hid hot
        have oo : BytesAt wr wr.heap.size a1 k ot := BytesAt.own (by rw [hol]; exact ho1)
        have hse : Sl.sealErr s.data.toList (ctr : Int) ot = 0 := by unfold Sl.sealErr; rw [hol, if_neg (by omega), H2.out]
        have hso : Sl.sealOut s.data.toList (ctr : Int) ot = Sl.sealRaw ks ctr ot := by unfold Sl.sealOut; rw [if_pos hse, ← Hks.out]; simp
        have Hse := Lib.hid hse
        have Hso := Lib.hid hso
        have HO := Lib.hid ho1
        have Hdec : Hid (decide (Sl.sealRaw ks ctr ot = bs) = decide (Sl.tag16 ks ctr (Sl.body bs) = Sl.tail bs)) := Lib.hid (by
          rw [hot, Hst.out, Hbd.out]; exact again_eq ks ctr bs k Hm.out)
        clear hot hse hso ho1 hol
        go_wp2_with fail
        refine (ref_Sealed s (ctr : Int) a1 k cc1 ot _ hs c0 c1 oo (by unfold maxLen; omega)).mono ?_
        rintro e w2 ⟨a2, n2, cc2, rfl, ho2, hb2⟩
        rw [Hse.out]
        rw [Hso.out] at ho2
        have o2 := BytesAt.own ho2
        have hB2 := hB.trans (hb2.mono hz)
        have HO2 := Lib.hid (own_below HO.out hb2)
        have g1 := conv_bytes (P := Tryd.prog) o2 22 5 9 cc2 Tryd.underlying22 Tryd.underlying5 Tryd.underlying9
        have g2 := conv_bytes (P := Tryd.prog) (Hb.out.below hB2) 22 5 9 c Tryd.underlying22 Tryd.underlying5 Tryd.underlying9
        have hq := strOf_bne (Sl.sealRaw ks ctr ot) bs
        rw [Hdec.out] at hq
        clear oo ho2 o2 hb2 hB
        rw [show ((0 : Nat) : Int) = (0 : Int) from rfl]
        rw [← Hks.out, Int.toNat_natCast] at H4
        rw [H4.out] at hq
        generalize strOf (Sl.sealRaw ks ctr ot) = S1 at *
        generalize strOf bs = S2 at *
        cases ok
        · have hq2 : (S1.toList == S2.toList) = false := by simpa using hq
          rw [Bool.not_false] at hq
          go_wp2
          go_ret2
          rw [He.out, Ho.out]
          exact slicePost_none (err := 9) hB2
        · have hq2 : (S1.toList == S2.toList) = true := by simpa using hq
          rw [Bool.not_true] at hq
          go_wp2
          go_ret2
          rw [He.out, Ho.out]
          have e6 : Sl.xorL (Sl.stream (Hx.pairs s.data.toList) ((ctr : Int)).toNat k) (Sl.body bs) = ot := by rw [Hot.out, Hst.out, Hbd.out, ← Hks.out, Int.toNat_natCast]
          rw [e6]
          exact slicePost_own (err := 0) HO2.out hB2
end Go.Proofs.YthknkfiofdfogaaDoor
