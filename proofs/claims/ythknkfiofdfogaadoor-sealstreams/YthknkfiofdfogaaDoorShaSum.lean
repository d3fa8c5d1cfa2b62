/- The contract of sha.Sum. -/
import Derived.Test.YthknkfiofdfogaaDoorShaPad
import Derived.Test.YthknkfiofdfogaaDoorShaNext
import Derived.Test.YthknkfiofdfogaaDoorShaDigest
namespace Go.Proofs.YthknkfiofdfogaaDoor
open Go.RowKit

theorem H0_length : Sh.H0.length = 8 := rfl
theorem sumOut_err (bs : List UInt8) (h : 1000 < bs.length) : Sh.padErr bs = 1 ∧ Sh.padOut bs = [] ∧ Sh.sumOut bs = [] := by
  unfold Sh.padErr Sh.padOut Sh.sumOut; rw [if_pos h, if_pos h, if_pos h]; exact ⟨rfl, rfl, rfl⟩
theorem sumOut_ok (bs : List UInt8) (h : ¬ 1000 < bs.length) : Sh.padErr bs = 0 ∧ Sh.padOut bs = Sh.pad bs ∧ Sh.sumOut bs = Sh.sum bs := by
  unfold Sh.padErr Sh.padOut Sh.sumOut; rw [if_neg h, if_neg h, if_neg h]; exact ⟨rfl, rfl, rfl⟩

set_option maxRecDepth 100000 in
set_option maxHeartbeats 1000000 in
theorem sha_Sum (a : Option Addr) (n c : Nat) (bs : List UInt8) (w : World) (h : BytesAt w w.heap.size a n bs) (hn : n ≤ maxLen) (hT : Tabs w) :
    Calls Tryd.prog 45 #[.slice a n c] w (SlicePost (Sh.padErr bs) (Sh.sumOut bs) w) := by
  have hl := h.1
  by_cases h1 : 1000 < n
  · have He := Lib.hid (sumOut_err bs (by omega))
    clear hT hl
    go_enter Tryd.func45, Tryd.ntmps45
    go_wp2_with fail
    refine (sha_Pad a n c bs _ h hn).mono ?_
    rintro e w1 ⟨a1, n1, c1, rfl, ho1, hb1⟩
    rw [He.out.1]
    clear ho1 h
    go_wp2
    go_ret2
    rw [He.out.1, He.out.2.2]
    exact slicePost_none hb1
  · have He := Lib.hid (sumOut_ok bs (by omega))
    have hpl := Sh.pad_length bs
    have hpm := Sh.pad_blocks bs
    have hz64 : Sh.zeros n < 64 := by unfold Sh.zeros; omega
    rw [hl] at hpl
    clear hl
    go_enter Tryd.func45, Tryd.ntmps45
    go_wp2_with fail
    refine (sha_Pad a n c bs _ h hn).mono ?_
    rintro e w1 ⟨a1, n1, c1, rfl, ho1, hb1⟩
    rw [He.out.1]
    rw [He.out.2.1] at ho1
    have o1 := BytesAt.own ho1
    have hn1 := o1.1
    rw [hn1] at ho1
    obtain ⟨g, rfl, hgB, hgH⟩ := own_form ho1 (by omega)
    have hcap : n1 ≤ c1 ∧ c1 ≤ maxLen := by
      rcases ho1.2 with ⟨hv, _⟩ | ⟨g', cap, cur, hv, _, _, hk, hk2, _⟩
      · cases hv
      · injection hv with _ _ h3; omega
    have Hp := Lib.hid (fun i (hi : i < (Sh.pad bs).length) => (show w1.cell? ⟨g, i, none⟩ = some (.int .u8 ((Sh.pad bs)[i].toNat : Int)) from own_cell ho1 (bcells_get (Sh.pad bs) i hi)))
    obtain ⟨m, hm⟩ : ∃ m, n1 = 64 * m := ⟨n1 / 64, by omega⟩
    have Hsum := Lib.hid (show Sh.sum bs = Sh.digest (Sh.absorb Sh.H0 (Sh.pad bs) m) by unfold Sh.sum; rw [hn1, hm, Nat.mul_div_cancel_left _ (by decide)])
    have Hm := Lib.hid hm
    have Hn1 := Lib.hid hn1
    have hTb := hT.below hb1
    have hn1u : n1 ≤ 2000 := by omega
    have HT := Lib.hid hTb
    clear hn1 ho1 hpl hpm o1 hT h hTb hm
    have hc1 := hcap.1
    have hc2 := hcap.2
    unfold maxLen at hc2
    clear hcap
    have hload := load_cells (t := 80) HT.out.2.2.1 Tryd.underlying80 size_words H0_length
    have Hload := Lib.hid hload
    clear hload
    go_wp2_with (first
      | (with_reducible refine wpL_load_run (o := ⟨some 16, _, _, _, _, _⟩) rfl 80 _ rfl _ _ rfl Hload.out ?_)
      | (with_reducible refine wpL_store_arr (o := ⟨none, _, _, _, _, _⟩) rfl 80 (.tmp 6) (.tmp 16) rfl w1.heap.size 8 _ rfl rfl (List.replicate 8 0) Sh.H0 ?b1 size_words rfl rfl H0_length ?_))
    case b1 => exact ArrAt.new w1 80 _ zero8 zero8_words
    intro w2 hA6 hg2 hs2
    have hs2' : w2.heap.size = w1.heap.size + 1 := by simpa using hs2
    have hB2 : Below w1.heap.size w1 w2 := ((Below.refl _ _).alloc (Nat.le_refl _) _).grown hg2 (by simp) (fun k h => by injection h with h; omega)
    clear hg2 hs2 hs2'
    go_wp2
    go_loopw [7] (fun i wr => ∃ k t : Nat, k ≤ m ∧ t = 64 * k ∧ i = .int .i64 t ∧ ArrAt wr w1.heap.size 80 (Sh.absorb Sh.H0 (Sh.pad bs) k) ∧ Below w1.heap.size w1 wr) (fun i _ => n1 - (intOf i).toNat)
    case atStart => exact ⟨0, 0, Nat.zero_le _, rfl, rfl, hA6, hB2⟩
    case round =>
      clear hA6 hB2
      obtain ⟨k, t, hk, ht, rfl, hA6, hB⟩ := hrel
      have Ht := Lib.hid ht
      by_cases hlt : t < n1
      · have htn : t + 64 ≤ n1 := by have := Hm.out; omega
        obtain ⟨xa, xb, xc, xd, xe, xf, xg, xh, hx⟩ := eight (Sh.absorb_length Sh.H0 (Sh.pad bs) H0_length k)
        have c0 := hA6.cell 0 (by rw [hx]; simp)
        have c1' := hA6.cell 1 (by rw [hx]; simp)
        have c2 := hA6.cell 2 (by rw [hx]; simp)
        have c3 := hA6.cell 3 (by rw [hx]; simp)
        have c4 := hA6.cell 4 (by rw [hx]; simp)
        have c5 := hA6.cell 5 (by rw [hx]; simp)
        have c6 := hA6.cell 6 (by rw [hx]; simp)
        have c7 := hA6.cell 7 (by rw [hx]; simp)
        rw [hx] at c0 c1' c2 c3 c4 c5 c6 c7
        have Hx := Lib.hid hx
        have q : ∀ ad : Addr, ({ heap := wr.heap, tape := wr.tape, drawn := wr.drawn + 1, os := wr.os, output := wr.output } : World).cell? ad = wr.cell? ad := fun _ => rfl
        have y1 : IntKind.i64.wrap ((t : Int) + 64) = (t : Int) + 64 := IntWalk.i64_in _ (by omega)
        have hne : ¬ c1 = t := by omega
        have b1 : (t : Int) + 64 ≤ (c1 : Int) := by omega
        have b2 : (t : Int) ≤ (t : Int) + 64 := by omega
        have b3 : ((t : Int) + 64).toNat = t + 64 := by omega
        have b4 : (0 : Int) ≤ (t : Int) + 64 := by omega
        clear hx ht
        go_wp2_with fail
        go_still_tail 6, (by kernel_rfl)
        change wpList _ _ _ _ _ wr.drew
        have hA6d := hA6.drew
        have hBd := hB.drew
        have hTd := HT.out.below hBd
        generalize wr.drew = w4 at *
        clear q c0 c1' c2 c3 c4 c5 c6 c7 hA6 hB
        have hbl : (((Sh.pad bs).drop (64 * k)).take 64).length = 64 := by rw [List.length_take, List.length_drop, Hn1.out]; have := Ht.out; omega
        have Hbc := Lib.hid (show ∀ i (hi : i < (((Sh.pad bs).drop (64 * k)).take 64).length), w4.cell? ⟨g, t + i, none⟩ = some (.int .u8 ((((Sh.pad bs).drop (64 * k)).take 64)[i].toNat : Int)) by
          intro i hi
          have hi' : i < 64 := by rw [hbl] at hi; exact hi
          rw [hBd.cell (p := ⟨g, t + i, none⟩) hgH, Hp.out (t + i) (by rw [Hn1.out]; omega), List.getElem_take, List.getElem_drop]
          have e := Ht.out
          subst e
          rfl)
        have Hbl := Lib.hid hbl
        have HTd := Lib.hid hTd
        have Hstep := Lib.hid (show Sh.absorb Sh.H0 (Sh.pad bs) (k + 1) = Sh.compress [xa, xb, xc, xd, xe, xf, xg, xh] (Sh.wordsOf (((Sh.pad bs).drop (64 * k)).take 64)) by rw [← Hx.out]; rfl)
        have hgw : g < w4.heap.size := Nat.lt_of_lt_of_le hgH hBd.size
        clear hbl hTd
        generalize ((Sh.pad bs).drop (64 * k)).take 64 = blk at *
        go_wp2_with fail
        refine (sha_next [xa, xb, xc, xd, xe, xf, xg, xh] g t (c1 - t) blk _ rfl HTd.out hgw Hbl.out Hbc.out).mono ?_
        rintro e w5 ⟨rfl, hb5⟩
        have hA6e := hA6d.below hb5 hA6d.lt
        have hBe : Below w1.heap.size w1 w5 := hBd.trans (hb5.mono hBd.size)
        have hBz := hBe.size
        clear hA6d hBd hb5 Hbc HTd
        go_wp2_with (with_reducible refine wpL_store_arr (o := ⟨none, _, _, _, _, _⟩) rfl 80 (.tmp 6) (.tmp 29) rfl w1.heap.size 8 _ rfl rfl _ (Sh.compress [xa, xb, xc, xd, xe, xf, xg, xh] (Sh.wordsOf blk)) hA6e size_words ?d1 rfl ?d2 ?_)
        case d1 => exact Sh.absorb_length Sh.H0 (Sh.pad bs) H0_length k
        case d2 => exact Sh.compress_length _ _ rfl
        intro w6 hA6f hg6 hs6
        rw [← Hstep.out] at hA6f
        have hBf : Below w1.heap.size w1 w6 := hBe.grown hg6 hBz (fun k h => by injection h with h; omega)
        clear hA6e hg6 hs6 hBe hBz y1
        go_wp2
        go_roundw
        case rel => exact ⟨k + 1, t + 64, by have := Ht.out; have := Hm.out; omega, by have := Ht.out; omega, by go_num, hA6f, hBf⟩
        case measure => simp [intOf]; omega
      · have hkm : k = m := by have := Hm.out; omega
        obtain ⟨hF, hF2⟩ : n1 ≤ t ∧ t ≤ n1 := by have := Hm.out; omega
        obtain rfl : t = n1 := by omega
        rw [hkm] at hA6
        have Hlen := Lib.hid (Sh.absorb_length Sh.H0 (Sh.pad bs) H0_length m)
        have HA := Lib.hid hA6
        clear hA6 ht hkm
        go_wp2_with (with_reducible refine wpL_load_arr (o := ⟨some 30, _, _, _, _, _⟩) rfl 80 69 (.tmp 6) rfl w1.heap.size 8 rfl _ HA.out Tryd.underlying80 size_words Hlen.out ?_)
        refine (sha_digest _ _ Hlen.out).mono ?_
        rintro e w7 ⟨a7, n7, c7, rfl, hn7, ho7, hb7⟩
        have Hn7 := Lib.hid hn7
        have hB1 := hb1.trans ((hB.trans (hb7.mono hB.size)).mono hb1.size)
        have ho7' := ownsRow_base ho7 (Nat.le_trans hb1.size hB.size)
        clear hn7 ho7
        go_wp2
        go_ret2
        rw [He.out.1, He.out.2.2, Hsum.out]
        exact slicePost_own (err := 0) (n := n7) (c := c7) (a := a7) ho7' hB1
end Go.Proofs.YthknkfiofdfogaaDoor
