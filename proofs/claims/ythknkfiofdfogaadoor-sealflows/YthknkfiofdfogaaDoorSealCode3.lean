/- The contract of seal.Seal. -/
import Derived.Test.YthknkfiofdfogaaDoorSealCode2
namespace Go.Proofs.YthknkfiofdfogaaDoor
open Go.RowKit

theorem Sl.xorL_comm (a b : List UInt8) : Sl.xorL a b = Sl.xorL b a := by
  unfold Sl.xorL
  rw [List.zipWith_comm]
  congr 1
  funext x y
  exact UInt8.xor_comm _ _
theorem Sl.stream_cases (s : List UInt8) (counter n : Int) : (Sl.streamErr s counter n = 0 ∧ Hx.checkErr s = 0 ∧ 0 ≤ counter ∧ counter ≤ 1099511627776) ∨ Sl.streamErr s counter n = 1 ∨ Sl.streamErr s counter n = 3 ∨ Sl.streamErr s counter n = 4 := by
  rcases Sl.stream_three s counter n with ⟨h, h1, h2, h3, _⟩ | ⟨_, _, ⟨h1, h2⟩ | ⟨_, h2, _⟩⟩
  · exact .inl ⟨h, h1, h2, h3⟩
  · rcases Mc.check_three s with h | h | h
    · exact absurd h h1
    · exact .inr (.inl (by rw [h2, h]))
    · exact .inr (.inr (.inl (by rw [h2, h])))
  · exact .inr (.inr (.inr h2))

set_option maxRecDepth 100000 in
set_option maxHeartbeats 2000000 in
theorem seal_Seal (s : ByteArray) (counter : Int) (a : Option Addr) (n c : Nat) (bs : List UInt8) (w : World) (hs : s.size ≤ maxLen) (c0 : -9223372036854775808 ≤ counter) (c1 : counter ≤ 9223372036854775807)
    (h : BytesAt w w.heap.size a n bs) (_hnil : a = none → n = 0 ∧ c = 0) (hn : n ≤ maxLen) (hT : Tabs w) :
    Calls Tryd.prog 12 #[.string s, .int .i64 counter, .slice a n c] w (SlicePost (Sl.sealErr s.data.toList counter bs) (Sl.sealOut s.data.toList counter bs) w) := by
  have hl := h.1
  have HT := Lib.hid hT
  have Hb := Lib.hid h
  clear hT h
  unfold maxLen at hn
  by_cases hbig : 220 < n
  · have He := Lib.hid (show Sl.sealErr s.data.toList counter bs = 1 by unfold Sl.sealErr; rw [if_pos (by omega)])
    have Ho := Lib.hid (show Sl.sealOut s.data.toList counter bs = [] by unfold Sl.sealOut; rw [He.out, if_neg (by decide)])
    have d1 : (220 : Int) < (n : Int) := by omega
    go_enter Tryd.func12, Tryd.ntmps12
    go_wp2
    go_ret2
    rw [He.out, Ho.out]
    exact slicePost_none (err := 1) (Below.refl _ _)
  · have d1 : ¬ ((220 : Int) < (n : Int)) := by omega
    have e1 : Sl.sealErr s.data.toList counter bs = Sl.streamErr s.data.toList counter (n : Int) := by unfold Sl.sealErr; rw [if_neg (by omega), hl]
    rcases Sl.stream_cases s.data.toList counter (n : Int) with ⟨he, hc, k0, k1⟩ | he | he | he
    rotate_left
    all_goals try
      have Hs := Lib.hid he
      have He := Lib.hid (e1.trans he)
      have Ho := Lib.hid (show Sl.sealOut s.data.toList counter bs = [] by unfold Sl.sealOut; rw [e1, he, if_neg (by decide)])
      clear he e1 hl
      go_enter Tryd.func12, Tryd.ntmps12
      go_wp2_with fail
      refine (seal_Stream s counter n _ hs c0 c1 (by omega) (by omega) HT.out).mono ?_
      rintro e w1 ⟨a1, n1, c1', rfl, ho1, hb1⟩
      rw [Hs.out]
      clear ho1
      go_wp2
      go_ret2
      rw [He.out, Ho.out]
      first | exact slicePost_none (err := 1) hb1 | exact slicePost_none (err := 3) hb1 | exact slicePost_none (err := 4) hb1
    obtain ⟨ctr, rfl⟩ : ∃ c : Nat, counter = (c : Int) := ⟨counter.toNat, by omega⟩
    obtain ⟨ks, hks⟩ : ∃ ks, ks = Hx.pairs s.data.toList := ⟨_, rfl⟩
    have Hs := Lib.hid he
    have Hc := Lib.hid hc
    have He := Lib.hid (e1.trans he)
    have Hso := Lib.hid (show Sl.streamOut s.data.toList (ctr : Int) (n : Int) = Sl.stream ks ctr n by unfold Sl.streamOut; rw [if_pos he, hks]; simp)
    have Hct := Lib.hid (show (Sl.xorL bs (Sl.stream ks ctr n)).length = n by rw [Sl.xorL_length _ _ (by rw [Sl.stream_length]; exact hl), hl])
    have Ho := Lib.hid (show Sl.sealOut s.data.toList (ctr : Int) bs = Sl.xorL bs (Sl.stream ks ctr n) ++ (Mc.tag ks (Sl.seal4 ctr (Sl.xorL bs (Sl.stream ks ctr n)))).take 16 by
      unfold Sl.sealOut; rw [if_pos (e1.trans he), ← hks, Sl.xorL_comm bs, ← hl]; simp [Sl.sealRaw, Sl.tag16])
    have Hks := Lib.hid hks
    have Hl := Lib.hid hl
    clear he hc e1 hks hl c0 c1
    go_enter Tryd.func12, Tryd.ntmps12
    go_wp2_with fail
    refine (seal_Stream s ctr n _ hs (by omega) (by omega) (by omega) (by omega) HT.out).mono ?_
    rintro e w1 ⟨a1, n1, c1', rfl, ho1, hb1⟩
    rw [Hs.out]
    rw [Hso.out] at ho1
    have o1 := BytesAt.own ho1
    obtain rfl : n1 = n := by rw [← o1.1, Sl.stream_length]
    have Ho1 := Lib.hid o1
    have Hb1 := Lib.hid ((Hb.out.below hb1).up hb1.size)
    have HT1 := Lib.hid (HT.out.below hb1)
    have HB1 := Lib.hid hb1
    have HZ1 := Lib.hid hb1.size
    clear o1 ho1 hb1 Hso
    rw [show ((0 : Nat) : Int) = (0 : Int) from rfl]
    generalize Sl.stream ks ctr n1 = st at *
    obtain ⟨ct, hct⟩ : ∃ ct, ct = Sl.xorL bs st := ⟨_, rfl⟩
    rw [← hct] at Ho Hct
    go_wp2_with fail
    refine (seal_combined a a1 n1 c c1' bs st _ Hb1.out Ho1.out (by omega)).mono ?_
    rintro e w2 ⟨c2, rfl, ho2, hb2⟩
    rw [← hct] at ho2
    clear hct
    have HT2 := Lib.hid (HT1.out.below hb2)
    have HB2 := Lib.hid (HB1.out.trans (hb2.mono HB1.out.size))
    have Ho2 := Lib.hid ho2
    clear ho2 hb2 HT1 HB1 Ho1 Hb1
    have hz1 := HZ1.out
    generalize w1.heap.size = g2 at *
    go_wp2_with fail
    refine (seal_labelled _ ctr _ (by decide)).mono ?_
    rintro e w3 ⟨v3, rfl, ho3, hb3⟩
    have HO3 := Lib.hid ho3
    have Hz3 := Lib.hid hb3.size
    have Hnews := Lib.hid (BytesAt.own (show w3.ownsRow g2 5 1 (.slice (some ⟨g2, 0, none⟩) n1 c2) ct.length (bcells ct) by rw [Hct.out]; exact own_below Ho2.out hb3))
    have Hb3 := Lib.hid hb3
    clear ho3 hb3
    go_wp2_with (at_builtin; refine wpL_append_M _ rfl _ _ rfl w2.heap.size _ _ rfl HO3.out ⟨g2, 0, none⟩ n1 c2 ct rfl Hct.out (Hnews.out.news _ rfl) ?p1 Hz3.out ?_)
    case p1 => rw [List.length_append, Sl.beL_length]; exact Nat.le_trans (Nat.add_le_add_left (by omega : n1 ≤ 220) _) (by decide)
    intro v4 w4 ho4 hb4
    replace ho4 : OwnM w4 w2.heap.size v4 (Sl.seal4 ctr ct) := ho4
    obtain ⟨g4, c4, rfl, -, -, -⟩ := ho4.form
    have hlen : (Sl.seal4 ctr ct).length = 12 + n1 := by rw [Sl.seal4_length, Hct.out]
    rw [hlen] at ho4 ⊢
    have hb24 := Hb3.out.trans hb4
    have Hb4 := Lib.hid ho4.bytes
    have HT4 := Lib.hid (HT2.out.below hb24)
    have HB4 := Lib.hid (HB2.out.trans (hb24.mono HB2.out.size))
    have HO4 := Lib.hid (ownsRow_base (own_below Ho2.out hb24) hz1)
    have Hlen := Lib.hid hlen
    clear ho4 hb4 hb24 Hb3 Hnews HO3 Hz3 HT2 HB2 Ho2 hlen
    go_wp2_with fail
    refine (mac_Tag s _ (12 + n1) _ _ _ hs Hb4.out (fun h => by cases h) (by unfold maxLen; omega) HT4.out).mono ?_
    rintro e w5 ⟨a5, n5, c5, rfl, ho5, hb5⟩
    have htag := Mc.tag_ok s.data.toList (Sl.seal4 ctr ct) Hc.out (by rw [Hlen.out]; omega)
    rw [htag.1]
    rw [htag.2, ← Hks.out] at ho5
    have hn5 := (BytesAt.own ho5).1
    have hb5' := BytesAt.own ho5
    rw [Mc.tag_length] at hn5 ho5
    subst hn5
    obtain ⟨g5, rfl, -, -⟩ := own_form ho5 (by decide)
    have hcap := own_cap ho5
    have HC5 := Lib.hid (hb5'.cut (m := 16) (by decide))
    have HO5 := Lib.hid (own_below HO4.out hb5)
    have HB5 := Lib.hid (HB4.out.trans (hb5.mono HB4.out.size))
    have hqc : (16 : Int) ≤ (c5 : Int) := by omega
    clear ho5 hb5 hb5' HO4 HB4 Hb4 HT4 htag
    rw [show ((0 : Nat) : Int) = (0 : Int) from rfl]
    go_wp2_with (at_builtin; refine wpL_append8 _ rfl _ _ rfl w.heap.size _ n1 _ _ rfl HO5.out _ 16 _ (bcells ((Mc.tag ks (Sl.seal4 ctr ct)).take 16)) rfl ?p1 (by intro h; cases h) HC5.out.news (bcells_one _) (by omega) HB5.out.size ?_)
    case p1 => rw [bcells_length, List.length_take, Mc.tag_length]; rfl
    intro a6 c6 w6 ho6 hg6
    have hB6 : Below w.heap.size w w6 := below_own HB5.out HO5.out hg6 (Nat.le_refl _) HB5.out.size
    rw [← bcells_append] at ho6
    clear hg6 HO5 HB5 HC5
    go_wp2
    go_ret2
    rw [He.out, Ho.out]
    exact slicePost_own (err := 0) ho6 hB6
end Go.Proofs.YthknkfiofdfogaaDoor
