/- The contract of seal.Stream. -/
import Derived.Test.YthknkfiofdfogaaDoorSealCode1
import Derived.Test.YthknkfiofdfogaaDoorMacTag
namespace Go.Proofs.YthknkfiofdfogaaDoor
open Go.RowKit

theorem stream_block (key : List UInt8) (ctr i : Nat) : ∀ m, m ≤ 32 → Sl.stream key ctr (32 * i) ++ (Mc.tag key (Sl.flow ctr i)).take m = Sl.stream key ctr (32 * i + m)
  | 0, _ => by simp
  | m + 1, h => by
    have hl : m < (Mc.tag key (Sl.flow ctr i)).length := by rw [Mc.tag_length]; omega
    have e : Sl.at_ key ctr (32 * i + m) = (Mc.tag key (Sl.flow ctr i))[m] := by
      unfold Sl.at_
      rw [show (32 * i + m) / 32 = i by omega, show (32 * i + m) % 32 = m by omega, List.getD_eq_getElem?_getD, List.getElem?_eq_getElem hl]; rfl
    rw [List.take_succ_eq_append_getElem hl, ← List.append_assoc, stream_block key ctr i m (by omega), ← e, Sl.stream_snoc]
    rfl
theorem flow_split (c i : Nat) : ((⟨#[102, 108, 111, 119]⟩ : ByteArray).data.toList ++ Sl.beL c 8) ++ Sl.beL i 8 = Sl.flow c i := by rw [List.append_assoc]; rfl

set_option maxRecDepth 100000 in
set_option maxHeartbeats 2000000 in
theorem seal_Stream (s : ByteArray) (counter n : Int) (w : World) (hs : s.size ≤ maxLen) (c0 : -9223372036854775808 ≤ counter) (c1 : counter ≤ 9223372036854775807) (n0 : -9223372036854775808 ≤ n) (n1 : n ≤ 9223372036854775807) (hT : Tabs w) :
    Calls Tryd.prog 9 #[.string s, .int .i64 counter, .int .i64 n] w (SlicePost (Sl.streamErr s.data.toList counter n) (Sl.streamOut s.data.toList counter n) w) := by
  have HT := Lib.hid hT
  clear hT
  rcases Sl.stream_three s.data.toList counter n with ⟨he, hc, k0, k1, m0, m1⟩ | ⟨he, ho, ⟨hc, e1⟩ | ⟨hc, e1, hx⟩⟩
  · obtain ⟨ctr, rfl⟩ : ∃ c : Nat, counter = (c : Int) := ⟨counter.toNat, by omega⟩
    obtain ⟨m, rfl⟩ : ∃ m : Nat, n = (m : Int) := ⟨n.toNat, by omega⟩
    have He := Lib.hid he
    have Hc := Lib.hid hc
    have Ho := Lib.hid (show Sl.streamOut s.data.toList (ctr : Int) (m : Int) = Sl.stream (Hx.pairs s.data.toList) ctr m by unfold Sl.streamOut; rw [if_pos he]; simp)
    have d1 : decide ((ctr : Int) < 0) = false := by simp
    have d2 : decide ((1099511627776 : Int) < (ctr : Int)) = false := by simp; omega
    have d3 : decide ((m : Int) < 0) = false := by simp
    have d4 : decide ((232 : Int) < (m : Int)) = false := by simp; omega
    obtain ⟨nb, hnb⟩ : ∃ nb : Nat, nb = (m + 31) / 32 := ⟨_, rfl⟩
    have hq : ((m : Int) + 32 - 1).tdiv 32 = (nb : Int) := by
      rw [show (m : Int) + 32 - 1 = ((m + 31 : Nat) : Int) by omega, hnb]; rfl
    have Hnb := Lib.hid hnb
    have hnb2 : nb ≤ 8 := by omega
    clear he hc c0 c1 n0 n1 hnb
    go_enter Tryd.func9, Tryd.ntmps9
    go_wp2_with fail
    refine (hex_Check _ _ hs).mono ?_
    rintro e w1 ⟨rfl, rfl⟩
    rw [Hc.out]
    rw [show ((0 : Nat) : Int) = (0 : Int) from rfl]
    go_wp2_with (at_make; refine wpL_make8 _ rfl _ _ rfl _ _ _ _ 0 m rfl rfl ?m1 ?m2 (Nat.zero_le _) (by omega) ?_)
    case m1 => first | rfl | omega
    case m2 => first | rfl | omega
    intro w2 hh hg
    have hbel : Below w.heap.size w w2 := (Below.refl _ _).grown hg (Nat.le_refl _) (fun k h => by cases h)
    have hown := own_part (base := w.heap.size) (n := 0) hh (Nat.le_refl _) (by rw [bcells_length, List.length_replicate]) (Nat.zero_le _) (by unfold maxLen; omega)
    rw [List.take_zero] at hown
    obtain ⟨ks, hks⟩ : ∃ ks, ks = Hx.pairs s.data.toList := ⟨_, rfl⟩
    have Hks := Lib.hid hks
    have HO := Lib.hid hown
    clear hks d1 d2 d3 d4 hh hg hown
    go_wp2
    go_loopw [9, 38] (fun vo i wr => ∃ j k : Nat, ∃ ao co, j ≤ nb ∧ k = min (32 * j) m ∧ i = .int .i64 j ∧ vo = .slice ao k co ∧ wr.ownsRow w.heap.size 5 1 (.slice ao k co) k (bcells (Sl.stream ks ctr k)) ∧ Below w.heap.size w wr) (fun _ i _ => nb - (intOf i).toNat)
    case atStart => exact ⟨0, 0, _, _, Nat.zero_le _, by simp, rfl, rfl, HO.out, hbel⟩
    case round =>
      clear HO hbel
      obtain ⟨j, k, ao, co, hj, hk, rfl, rfl, ho, hB⟩ := hrel
      have hz := hB.size
      by_cases hlt : j < nb
      · have hk2 : k = 32 * j := by have := Hnb.out; omega
        have hk3 : k < m := by have := Hnb.out; omega
        clear hk
        obtain ⟨q, hq0⟩ : ∃ q : Nat, q = min 32 (m - k) := ⟨_, rfl⟩
        have hq1 : q ≤ 32 := by omega
        have Hqq := Lib.hid (show (m - k < 32 ∧ q = m - k) ∨ (¬ m - k < 32 ∧ q = 32) by omega)
        have Hk2 := Lib.hid hk2
        have Hq := Lib.hid (show k + q = min (32 * (j + 1)) m by omega)
        have HO := Lib.hid ho
        have HB := Lib.hid hB
        clear ho hB hq0 hk2
        go_wp2_with fail
        refine (seal_labelled _ ctr _ (by decide)).mono ?_
        rintro e w3 ⟨v3, rfl, ho3, hb3⟩
        go_wp2_with fail
        refine (seal_appendNumber v3 _ j wr.heap.size _ hb3.size ho3 (by rw [List.length_append, Sl.beL_length]; decide)).mono ?_
        rintro e w4 ⟨v4, rfl, ho4, hb4⟩
        rw [flow_split] at ho4
        obtain ⟨g4, c4, rfl, hg4, hg4', hc4⟩ := ho4.form
        rw [Sl.flow_length] at ho4 hc4 ⊢
        have Hb4 := Lib.hid ho4.bytes
        have hb34 := hb3.trans hb4
        have HT4 := Lib.hid ((HT.out.below HB.out).below hb34)
        have HO4 := Lib.hid (own_below HO.out hb34)
        have HB4 := Lib.hid (HB.out.trans (hb34.mono hz))
        clear ho3 hb3 ho4 hb4 hb34 HO HB
        go_wp2_with fail
        refine (mac_Tag s _ 20 _ _ _ hs Hb4.out (fun h => by cases h) (by decide) HT4.out).mono ?_
        rintro e w5 ⟨a5, n5, c5, rfl, ho5, hb5⟩
        have htag := Mc.tag_ok s.data.toList (Sl.flow ctr j) Hc.out (by rw [Sl.flow_length]; decide)
        rw [htag.1]
        rw [htag.2, ← Hks.out] at ho5
        have hn5 := (BytesAt.own ho5).1
        have hb5' := BytesAt.own ho5
        rw [Mc.tag_length] at hn5 ho5
        subst hn5
        obtain ⟨g5, rfl, -, -⟩ := own_form ho5 (by decide)
        have hcap := own_cap ho5
        have HC5 := Lib.hid (hb5'.cut (m := q) hq1)
        have HO5 := Lib.hid (own_below HO4.out hb5)
        have HB5 := Lib.hid (HB4.out.trans (hb5.mono HB4.out.size))
        have hqc : (q : Int) ≤ (c5 : Int) := by omega
        clear ho5 hb5 hb5' HO4 HB4 Hb4 HT4 htag
        rw [show ((0 : Nat) : Int) = (0 : Int) from rfl]
        rcases Hqq.out with ⟨hq3, hq4⟩ | ⟨hq3, rfl⟩
        · have hq5 : (m : Int) - (k : Int) = (q : Int) := by omega
          have hq6 : (q : Int) < 32 := by omega
          clear hq4
          go_wp2_with (at_builtin; refine wpL_append8 _ rfl _ _ rfl w.heap.size _ k _ _ rfl HO5.out _ q _ (bcells ((Mc.tag ks (Sl.flow ctr j)).take q)) rfl ?p1 (by intro h; cases h) HC5.out.news (bcells_one _) (by omega) HB5.out.size ?_)
          case p1 => rw [bcells_length, List.length_take, Mc.tag_length]; omega
          intro a6 c6 w6 ho6 hg6
          have hB6 : Below w.heap.size w w6 := below_own HB5.out HO5.out hg6 (Nat.le_refl _) HB5.out.size
          rw [← bcells_append, Hk2.out, stream_block _ _ _ _ hq1, ← Hk2.out] at ho6
          clear hg6 HO5 HB5 HC5
          go_wp2
          go_roundw
          case rel => exact ⟨j + 1, k + q, _, _, by omega, Hq.out, by go_num, rfl, ho6, hB6⟩
          case measure => simp [intOf]; omega
        · have hq5 : ¬ ((m : Int) - (k : Int) < 32) := by omega
          go_wp2_with (at_builtin; refine wpL_append8 _ rfl _ _ rfl w.heap.size _ k _ _ rfl HO5.out _ 32 _ (bcells ((Mc.tag ks (Sl.flow ctr j)).take 32)) rfl ?p1 (by intro h; cases h) HC5.out.news (bcells_one _) (by omega) HB5.out.size ?_)
          case p1 => rw [bcells_length, List.length_take, Mc.tag_length]; omega
          intro a6 c6 w6 ho6 hg6
          have hB6 : Below w.heap.size w w6 := below_own HB5.out HO5.out hg6 (Nat.le_refl _) HB5.out.size
          rw [← bcells_append, Hk2.out, stream_block _ _ _ _ (by decide), ← Hk2.out] at ho6
          clear hg6 HO5 HB5 HC5
          go_wp2
          go_roundw
          case rel => exact ⟨j + 1, k + 32, _, _, by omega, Hq.out, by go_num, rfl, ho6, hB6⟩
          case measure => simp [intOf]; omega
      · obtain rfl : j = nb := by omega
        obtain rfl : k = m := by have := Hnb.out; omega
        rw [Hks.out] at ho
        go_wp2
        go_ret2
        rw [He.out, Ho.out]
        exact slicePost_own (err := 0) ho hB
  · have He := Lib.hid e1
    have Ho := Lib.hid ho
    rcases Mc.check_three s.data.toList with h | h | h
    · exact absurd h hc
    all_goals
      have Hc := Lib.hid h
      clear h hc he ho e1
      go_enter Tryd.func9, Tryd.ntmps9
      go_wp2_with fail
      refine (hex_Check _ _ hs).mono ?_
      rintro e w1 ⟨rfl, rfl⟩
      rw [Hc.out]
      go_wp2
      go_ret2
      rw [He.out, Ho.out, Hc.out]
      first | exact slicePost_none (err := 1) (Below.refl _ _) | exact slicePost_none (err := 3) (Below.refl _ _)
  · have He := Lib.hid e1
    have Ho := Lib.hid ho
    have Hc := Lib.hid hc
    have hd : (((decide (counter < 0) || decide ((1099511627776 : Int) < counter)) || decide (n < 0)) || decide ((232 : Int) < n)) = true := by
      rcases hx with h | h | h | h <;> simp [h]
    clear he ho e1 hc
    go_enter Tryd.func9, Tryd.ntmps9
    go_wp2_with fail
    refine (hex_Check _ _ hs).mono ?_
    rintro e w1 ⟨rfl, rfl⟩
    rw [Hc.out]
    rw [show ((0 : Nat) : Int) = (0 : Int) from rfl]
    go_wp2
    all_goals
      go_ret2
      rw [He.out, Ho.out]
      exact slicePost_none (err := 4) (Below.refl _ _)
end Go.Proofs.YthknkfiofdfogaaDoor
