/- The contract of the reference's Sealed. -/
import Derived.Test.YthknkfiofdfogaaDoorSealRef1
import Derived.Test.YthknkfiofdfogaaDoorMacFacts
namespace Go.Proofs.YthknkfiofdfogaaDoor
open Go.RowKit

theorem seal_text (c : Nat) (ct : List UInt8) : ((⟨#[115, 101, 97, 108]⟩ : ByteArray) ++ strOf (Sl.beL c 8) ++ strOf ct).data.toList = Sl.seal4 c ct := by
  rw [ByteArray.data_append, ByteArray.data_append, Array.toList_append, Array.toList_append, strOf_list, strOf_list, List.append_assoc]; rfl
theorem tag_seal (s : List UInt8) (c : Nat) (ct : List UInt8) (h : Hx.checkErr s = 0) (hl : ct.length ≤ 900) : Mc.tagOut s (Sl.seal4 c ct) = Mc.tag (Hx.pairs s) (Sl.seal4 c ct) := (Mc.tag_ok s _ h (by rw [Sl.seal4_length]; omega)).2
theorem xor_cell {w : World} {B n c g k : Nat} {xs ys : List UInt8} (ho : w.ownsRow B 5 1 (.slice (some ⟨g, 0, none⟩) n c) n (bcells (Sl.xorTo xs ys k))) (hl : xs.length = ys.length) (hn : xs.length = n) (hk : k < n) :
    w.cell? ⟨g, k, none⟩ = some (.int .u8 ((xs.getD k 0).toNat : Int)) := by
  refine own_cell ho ?_
  simp only [bcells, List.getElem?_map, Sl.xorTo_get xs ys k hl (by omega), Option.map_some]
theorem xor_step {w : World} {B n c g k : Nat} {xs ys : List UInt8} (ho : w.ownsRow B 5 1 (.slice (some ⟨g, 0, none⟩) n c) n (bcells (Sl.xorTo xs ys k))) (hl : xs.length = ys.length) (hn : xs.length = n) (hk : k < n) :
    (w.setCell ⟨g, k, none⟩ (.int .u8 ((xs.getD k 0 ^^^ ys.getD k 0).toNat : Int))).ownsRow B 5 1 (.slice (some ⟨g, 0, none⟩) n c) n (bcells (Sl.xorTo xs ys (k + 1))) := by
  have := (ho.stored k (.int .u8 ((xs.getD k 0 ^^^ ys.getD k 0).toNat : Int))).1
  rw [bcells_set, Sl.xorTo_step xs ys k hl (by omega)] at this
  exact this
theorem seal_cases (s : List UInt8) (counter : Int) (b : List UInt8) : (220 < b.length ∧ Sl.sealErr s counter b = 1 ∧ Sl.sealOut s counter b = []) ∨
    (b.length ≤ 220 ∧ Sl.streamErr s counter b.length ≠ 0 ∧ Sl.sealErr s counter b = Sl.streamErr s counter b.length ∧ Sl.sealOut s counter b = []) ∨
    (b.length ≤ 220 ∧ Sl.streamErr s counter b.length = 0 ∧ Sl.sealErr s counter b = 0 ∧ Sl.sealOut s counter b = Sl.sealRaw (Hx.pairs s) counter.toNat b) := by
  unfold Sl.sealOut Sl.sealErr
  by_cases h : 220 < b.length
  · rw [if_pos h]; exact .inl ⟨h, rfl, if_neg (by decide)⟩
  · rw [if_neg h]
    by_cases h2 : Sl.streamErr s counter b.length = 0
    · exact .inr (.inr ⟨by omega, h2, h2, if_pos h2⟩)
    · exact .inr (.inl ⟨by omega, h2, rfl, if_neg h2⟩)
theorem stream_errs (s : List UInt8) (counter n : Int) (h : Sl.streamErr s counter n ≠ 0) : (Sl.streamErr s counter n = 1 ∨ Sl.streamErr s counter n = 3 ∨ Sl.streamErr s counter n = 4) ∧ Sl.streamOut s counter n = [] := by
  rcases Sl.stream_three s counter n with ⟨he, _⟩ | ⟨_, ho, ⟨hc, e1⟩ | ⟨_, e1, _⟩⟩
  · exact absurd he h
  · rcases Mc.check_three s with h1 | h1 | h1
    · exact absurd h1 hc
    · exact ⟨.inl (e1.trans h1), ho⟩
    · exact ⟨.inr (.inl (e1.trans h1)), ho⟩
  · exact ⟨.inr (.inr e1), ho⟩
theorem stream_ok (s : List UInt8) (c : Nat) (n : Nat) (h : Sl.streamErr s (c : Int) (n : Int) = 0) : Hx.checkErr s = 0 ∧ c ≤ 1099511627776 ∧ n ≤ 232 ∧ Sl.streamOut s (c : Int) (n : Int) = Sl.stream (Hx.pairs s) c n := by
  rcases Sl.stream_three s (c : Int) (n : Int) with ⟨_, hc, _, h1, _, h2⟩ | ⟨h1, _⟩
  · exact ⟨hc, by omega, by omega, by unfold Sl.streamOut; rw [if_pos h]; simp⟩
  · exact absurd h h1
theorem stream_pos (s : List UInt8) (counter n : Int) (h : Sl.streamErr s counter n = 0) : 0 ≤ counter := by
  rcases Sl.stream_three s counter n with ⟨_, _, h1, _⟩ | ⟨h1, _⟩
  · exact h1
  · exact absurd h h1

set_option maxRecDepth 100000 in
set_option maxHeartbeats 2000000 in
theorem ref_Sealed (s : ByteArray) (counter : Int) (a : Option Addr) (n c : Nat) (bs : List UInt8) (w : World) (hs : s.size ≤ maxLen) (c0 : -9223372036854775808 ≤ counter) (c1 : counter ≤ 9223372036854775807)
    (h : BytesAt w w.heap.size a n bs) (hn : n ≤ maxLen) :
    Calls Tryd.prog 13 #[.string s, .int .i64 counter, .slice a n c] w (SlicePost (Sl.sealErr s.data.toList counter bs) (Sl.sealOut s.data.toList counter bs) w) := by
  have hl := h.1
  unfold maxLen at hn
  have Hb := Lib.hid h
  clear h
  rcases seal_cases s.data.toList counter bs with ⟨h1, he, ho⟩ | ⟨h1, h2, he, ho⟩ | ⟨h1, h2, he, ho⟩
  · rw [hl] at h1
    have He := Lib.hid he
    have Ho := Lib.hid ho
    clear he ho hl
    go_enter Tryd.func13, Tryd.ntmps13
    go_wp2
    go_ret2
    rw [He.out, Ho.out]
    exact slicePost_none (err := 1) (Below.refl _ _)
  · rw [hl] at h1 h2 he
    have hse := (stream_errs _ _ _ h2).1
    have Ho := Lib.hid ho
    rcases hse with h3 | h3 | h3
    all_goals
      have H3 := Lib.hid h3
      have He := Lib.hid (he.trans h3)
      clear he h2 h3 hl ho
      go_enter Tryd.func13, Tryd.ntmps13
      go_wp2_with fail
      refine (ref_SealStream s counter (n : Int) _ hs c0 c1 (by omega) (by omega)).mono ?_
      rintro e w1 ⟨a1, n1, cc1, rfl, ho1, hb1⟩
      rw [H3.out]
      clear ho1
      go_wp2
      go_ret2
      rw [He.out, Ho.out]
      first | exact slicePost_none (err := 1) hb1 | exact slicePost_none (err := 3) hb1 | exact slicePost_none (err := 4) hb1
  · rw [hl] at h1 h2
    have hpos := stream_pos _ _ _ h2
    obtain ⟨ctr, rfl⟩ : ∃ ctr : Nat, counter = (ctr : Int) := ⟨counter.toNat, by omega⟩
    have hk := stream_ok _ _ _ h2
    have He := Lib.hid he
    have Ho := Lib.hid ho
    have H2 := Lib.hid h2
    have Hc := Lib.hid hk.1
    have Hs := Lib.hid hk.2.2.2
    have hctr := hk.2.1
    have Hl := Lib.hid hl
    clear he ho hl h2 hk
    go_enter Tryd.func13, Tryd.ntmps13
    go_wp2_with fail
    refine (ref_SealStream s (ctr : Int) (n : Int) _ hs c0 c1 (by omega) (by omega)).mono ?_
    rintro e w1 ⟨a1, n1, cc1, rfl, ho1, hb1⟩
    rw [H2.out]
    rw [Hs.out] at ho1
    have hn1 := (BytesAt.own ho1).1
    rw [Sl.stream_length] at hn1 ho1
    subst hn1
    obtain ⟨ks, hks⟩ : ∃ ks, ks = Hx.pairs s.data.toList := ⟨_, rfl⟩
    rw [← hks] at ho1
    have Hks := Lib.hid hks
    have z1 := hb1.size
    obtain ⟨st, hst⟩ : ∃ st, st = Sl.stream ks ctr n := ⟨_, rfl⟩
    rw [← hst] at ho1
    have Hst := Lib.hid hst
    have Hsl := Lib.hid (show st.length = n by rw [hst, Sl.stream_length])
    have Hsb := Lib.hid (show st.length = bs.length by rw [hst, Sl.stream_length, Hl.out])
    rw [← Sl.xorTo_zero st bs] at ho1
    clear hks hst
    rw [show ((0 : Nat) : Int) = (0 : Int) from rfl]
    go_wp2
    go_loopw [30] (fun i wr => ∃ k : Nat, k ≤ n ∧ i = .int .i64 k ∧ wr.ownsRow w.heap.size 5 1 (.slice a1 n cc1) n (bcells (Sl.xorTo st bs k)) ∧ Below w.heap.size w wr) (fun i _ => n - (intOf i).toNat)
    case atStart => exact ⟨0, Nat.zero_le _, rfl, ho1, hb1⟩
    case round =>
      clear ho1 hb1
      obtain ⟨k, hk, rfl, ho1, hB⟩ := hrel
      have hz := hB.size
      by_cases hlt : k < n
      · obtain ⟨g, rfl, hgB, hgH⟩ := own_form ho1 (by omega)
        have hcell := xor_cell ho1 Hsb.out Hsl.out hlt
        have hf := ho1.frozenAt k
        obtain ⟨gb, off, rfl, hcb⟩ := bytes_lt (Hb.out.below hB) hlt
        have hx := xor_u8 (st.getD k 0) (bs.getD k 0)
        have HM := Lib.hid (xor_step ho1 Hsb.out Hsl.out hlt)
        clear ho1
        generalize st.getD k 0 ^^^ bs.getD k 0 = Z at *
        generalize st.getD k 0 = X at *
        generalize bs.getD k 0 = Y at *
        go_wp2
        go_roundw
        case rel => exact ⟨k + 1, by omega, by go_num, HM.out, hB.setCell hgB _⟩
        case measure => simp [intOf]; omega
      · obtain rfl : k = n := by omega
        rw [Sl.xorTo_end st bs Hsb.out k (by rw [Hsl.out]; exact Nat.le_refl _)] at ho1
        have hctl : (Sl.xorL st bs).length = k := by rw [Sl.xorL_length _ _ Hsb.out, Hsl.out]
        obtain ⟨ct, hct⟩ : ∃ ct, ct = Sl.xorL st bs := ⟨_, rfl⟩
        rw [← hct] at ho1 hctl
        have Hct := Lib.hid hct
        clear hct
        have oo : BytesAt wr wr.heap.size a1 k ct := BytesAt.own (by rw [hctl]; exact ho1)
        have G1 := Lib.hid (fun W => ref_big ctr 8 W (by omega) (by decide) (by decide))
        have f1 := big_text wr ctr 8
        have g1 := conv_bytes (P := Tryd.prog) (w := wr.drew) (B := wr.heap.size) oo 22 5 9 cc1 Tryd.underlying22 Tryd.underlying5 Tryd.underlying9
        have g2 := conv_bytes (P := Tryd.prog) (w := (wr.alloc (bigObj ctr 8)).drew) (B := wr.heap.size) (oo.below (Below.drew ((Below.refl _ wr).alloc (Nat.le_refl _) (bigObj ctr 8)))) 22 5 9 cc1 Tryd.underlying22 Tryd.underlying5 Tryd.underlying9
        have Hfl := Lib.hid (seal_text ctr ct)
        have hs1 : (strOf (Sl.beL ctr 8)).size = 8 := by rw [strOf_size, Sl.beL_length]
        have hs2 : (strOf ct).size = k := by rw [strOf_size, hctl]
        generalize strOf (Sl.beL ctr 8) = S1 at *
        generalize strOf ct = S2 at *
        have hs3 : ((⟨#[115, 101, 97, 108]⟩ : ByteArray) ++ S1).size = 12 := by rw [ByteArray.size_append, hs1]; rfl
        have hs4 : ((⟨#[115, 101, 97, 108]⟩ : ByteArray) ++ S1 ++ S2).size = 12 + k := by rw [ByteArray.size_append, hs3, hs2]
        obtain ⟨w3, cap, hrun, hsz3, hbel3, hcs⟩ := conv_string (⟨#[115, 101, 97, 108]⟩ ++ S1 ++ S2) (wr.alloc (bigObj ctr 8)).drew
        have hb3 := conv_bytesAt hsz3 hcs
        rw [Hfl.out, hs4] at hb3
        rw [hs4] at hrun
        have hB3 : Below w.heap.size w w3 := (hB.alloc hz _).drew.trans (hbel3.mono (hB.alloc hz (bigObj ctr 8)).drew.size)
        have Hb3 := Lib.hid hb3
        have HO := Lib.hid (own_below (w := (wr.alloc (bigObj ctr 8)).drew) ((ho1.alloc (bigObj ctr 8)).drew) hbel3)
        have HB3 := Lib.hid hB3
        clear hsz3 hcs
        generalize (wr.alloc (bigObj ctr 8)).drew.heap.size = B3 at hrun Hb3
        clear hb3 hbel3 ho1 hB hB3 oo
        go_wp2_with fail
        go_region_with (first
            | (go_at_call 26; refine (G1.out _).mono ?_; rintro e w' ⟨rfl, rfl⟩)
            | (go_at_call 25; refine (ref_MacTag s _ _ cap _ _ hs Hb3.out (fun h => by cases h) (by unfold maxLen; omega)).mono ?_; rintro e w5 ⟨a5, n5, c5, rfl, ho5, hb5⟩))
        all_goals
          rw [tag_seal _ _ _ Hc.out (by omega), ← Hks.out] at ho5
          have hn5 := (BytesAt.own ho5).1
          rw [Mc.tag_length] at hn5 ho5
          subst hn5
          obtain ⟨g, rfl, hg3, hgH⟩ := own_form ho5 (by decide)
          have hcap := own_cap ho5
          have hB5 := HB3.out.trans (hb5.mono HB3.out.size)
          have hz5 := hB5.size
          have hoo5 := own_below HO.out hb5
          have H16 := Lib.hid ((BytesAt.own (show w5.ownsRow w3.heap.size 5 1 (.slice (some ⟨g, 0, none⟩) 32 c5) (Mc.tag ks (Sl.seal4 ctr ct)).length _ by rw [Mc.tag_length]; exact ho5)).cut (m := 16) (by decide))
          have hc1 : (16 : Int) ≤ (c5 : Int) := by omega
          clear f1 g1 g2 hrun hs3 hs4 hb5 ho5 HO Hb3
          go_wp2_with (at_builtin; refine wpL_append8_at _ rfl _ _ rfl w.heap.size _ k _ _ rfl hoo5 _ 16 _ (bcells (Sl.tag16 ks ctr ct)) rfl (by rw [bcells_length, Sl.tag16_length]) (by intro h; cases h) H16.out.news (bcells_one _) (by omega) hz5 ?_)
          intro a6 c6 w6 ho6 hg6 hat6
          have hB6 : Below w.heap.size w w6 := below_own hB5 hoo5 hg6 (Nat.le_refl _) hz5
          rw [← bcells_append] at ho6
          clear hg6 hat6 hoo5 hB5
          go_wp2
          go_ret2
          rw [He.out, Ho.out]
          have e6 : Sl.sealRaw (Hx.pairs s.data.toList) ((ctr : Int)).toNat bs = ct ++ Sl.tag16 ks ctr ct := by
            unfold Sl.sealRaw
            rw [← Hks.out, Int.toNat_natCast, Hl.out, ← Hst.out, ← Hct.out]
          rw [e6]
          exact slicePost_own (err := 0) ho6 hB6
end Go.Proofs.YthknkfiofdfogaaDoor
