/- The contract of sha.next. -/
import Derived.Test.YthknkfiofdfogaaDoorShaRound
import Derived.Test.YthknkfiofdfogaaDoorShaSched2
import Derived.StillTailTactics
import Derived.BigRegion
namespace Go.Proofs.YthknkfiofdfogaaDoor
open Go.RowKit

/-- The package's two tables hold the words that the document describes. -/
def Tabs (w : World) : Prop :=
  0 < w.heap.size ∧ 1 < w.heap.size ∧ (∀ i, i < 8 → w.cell? ⟨0, i, none⟩ = some (U (Sh.H0.getD i 0))) ∧ (∀ i, i < 64 → w.cell? ⟨1, i, none⟩ = some (U (Sh.K0.getD i 0)))
theorem Tabs.below {w w' : World} (h : Tabs w) (hb : Below w.heap.size w w') : Tabs w' := by
  have := hb.size
  refine ⟨by have := h.1; omega, by have := h.2.1; omega, fun i hi => ?_, fun i hi => ?_⟩
  · rw [hb.cell (p := ⟨0, i, none⟩) h.1]; exact h.2.2.1 i hi
  · rw [hb.cell (p := ⟨1, i, none⟩) h.2.1]; exact h.2.2.2 i hi
theorem eight {ws : List (BitVec 32)} (h : ws.length = 8) : ∃ a b c d e f g h, ws = [a, b, c, d, e, f, g, h] := by
  match ws, h with
  | [a, b, c, d, e, f, g, h], _ => exact ⟨a, b, c, d, e, f, g, h, rfl⟩

/-- Where next is behind k rounds. -/
def NextAt (w : World) (st : List (BitVec 32)) (bs : List UInt8) (G5 G6 k : Nat) (wr : World) : Prop :=
  ArrAt wr G6 80 (Sh.runTo st Sh.K0 (Sh.ext (Sh.wordsOf bs) 48) k) ∧ ArrAt wr G5 87 (Sh.ext (Sh.wordsOf bs) 48) ∧ ArrAt wr w.heap.size 80 st ∧ ArrAt wr (w.heap.size + 1) 80 (List.replicate 8 0) ∧ Below w.heap.size w wr

/-- Where next is behind the sums of k words. -/
def SumAt (w : World) (st R : List (BitVec 32)) (G6 k : Nat) (wr : World) : Prop :=
  ArrAt wr G6 80 (Sh.addTo R st k) ∧ ArrAt wr w.heap.size 80 st ∧ ArrAt wr (w.heap.size + 1) 80 (List.replicate 8 0) ∧ Below w.heap.size w wr

set_option maxRecDepth 100000 in
set_option maxHeartbeats 1000000 in
theorem sha_next (st : List (BitVec 32)) (b off c : Nat) (bs : List UInt8) (w : World) (h8 : st.length = 8) (hT : Tabs w) (hbB : b < w.heap.size) (hl : bs.length = 64) (hc : ∀ i (h : i < bs.length), w.cell? ⟨b, off + i, none⟩ = some (.int .u8 (bs[i].toNat : Int))) :
    Calls Tryd.prog 56 #[.agg (wcells st).toArray, .slice (some ⟨b, off, none⟩) 64 c] w fun e w' => e = .returned (.agg (wcells (Sh.compress st (Sh.wordsOf bs))).toArray) ∧ Below w.heap.size w w' := by
  have H8 := Lib.hid h8
  have Hl := Lib.hid hl
  have Hc := Lib.hid hc
  have HT := Lib.hid hT
  have hSl : (Sh.ext (Sh.wordsOf bs) 48).length = 64 := by rw [Sh.ext_length, Sh.wordsOf_length bs 16 (by omega)]
  have HS := Lib.hid hSl
  clear h8 hl hc hT hSl
  go_enter Tryd.func56, Tryd.ntmps56
  go_upto_region 1 with (fail)
  obtain ⟨W, hW⟩ : ∃ W, W = (w.alloc (.cells (wcells st).toArray 80)).alloc (.cells zero8 80) := ⟨_, rfl⟩
  have hz : (w.alloc (.cells (wcells st).toArray 80)).heap.size = w.heap.size + 1 := by simp
  have hb : Below w.heap.size w W := by
    rw [hW]; exact ((Below.refl _ _).alloc (Nat.le_refl _) _).alloc (by simp) _
  have hWz : W.heap.size = w.heap.size + 2 := by rw [hW]; simp
  have hA2 : ArrAt W w.heap.size 80 st := by
    rw [hW]; exact (ArrAt.new w 80 _ _ rfl).alloc _
  have hA4 : ArrAt W (w.heap.size + 1) 80 (List.replicate 8 0) := by
    have := ArrAt.new (w.alloc (.cells (wcells st).toArray 80)) 80 _ zero8 zero8_words
    rw [← hW, hz] at this
    exact this
  unfold zero8 at hW
  rw [← hW]
  have HWz := Lib.hid hWz
  clear hW hz hWz
  go_wp2_with fail
  refine (sha_schedule b off c bs W (by have := HWz.out; omega) Hl.out (fun i hi => (hb.cell (p := ⟨b, off + i, none⟩) hbB).trans (Hc.out i hi))).mono ?_
  rintro e w1 ⟨rfl, hb1⟩
  have hz1 := hb1.size
  have hB1 : Below w.heap.size w w1 := hb.trans (hb1.mono hb.size)
  have hA2' := hA2.below hb1 hA2.lt
  have hA4' := hA4.below hb1 hA4.lt
  have hsz1 : w.heap.size + 2 ≤ w1.heap.size := by have := HWz.out; omega
  clear hA2 hA4 hb1 hz1 hb
  go_wp2_with (with_reducible refine wpL_store_arr (o := ⟨none, _, _, _, _, _⟩) rfl 87 (.tmp 5) (.tmp 10) rfl w1.heap.size 64 _ rfl rfl (List.replicate 64 0) (Sh.ext (Sh.wordsOf bs) 48) ?a1 size_sched rfl rfl HS.out ?_)
  case a1 => exact ArrAt.new w1 87 _ zero64 zero64_words
  intro w2 hA5 hg2 hs2
  have hs2' : w2.heap.size = w1.heap.size + 1 := by simpa using hs2
  have hB2 : Below w.heap.size w w2 := (hB1.alloc hB1.size _).grown hg2 (by simp; omega) (fun k h => by injection h with h; omega)
  have hA2 := (hA2'.alloc (.cells zero64 87)).grown hg2 (by simp; omega)
  have hA4 := (hA4'.alloc (.cells zero64 87)).grown hg2 (by simp; omega)
  have Hs2 := Lib.hid hs2'
  generalize w1.heap.size = G5 at *
  clear hA2' hA4' hg2 hs2 hs2' hB1 w1
  go_wp2_with (first
    | (with_reducible refine wpL_load_arr (o := ⟨some 11, _, _, _, _, _⟩) rfl 80 69 (.tmp 2) rfl w.heap.size 8 rfl _ hA2 Tryd.underlying80 size_words H8.out ?_)
    | (with_reducible refine wpL_store_arr (o := ⟨none, _, _, _, _, _⟩) rfl 80 (.tmp 6) (.tmp 11) rfl w2.heap.size 8 _ rfl rfl (List.replicate 8 0) st ?b1 size_words rfl rfl H8.out ?_))
  case b1 => exact ArrAt.new w2 80 _ zero8 zero8_words
  intro w3 hA6 hg3 hs3
  have hs3' : w3.heap.size = w2.heap.size + 1 := by simpa using hs3
  have hB3 : Below w.heap.size w w3 := (hB2.alloc hB2.size _).grown hg3 (by have := hB2.size; simp; omega) (fun k h => by injection h with h; have := hB2.size; omega)
  have hg5 := Hs2.out
  have hA2' := (hA2.alloc (.cells zero8 80)).grown hg3 (by have := hA2.lt; simp; omega)
  have hA4' := (hA4.alloc (.cells zero8 80)).grown hg3 (by have := hA4.lt; simp; omega)
  have hA5' := (hA5.alloc (.cells zero8 80)).grown hg3 (by have := hA5.lt; simp; omega)
  have hd56 : G5 < w2.heap.size := by omega
  generalize w2.heap.size = G6 at *
  have hI : NextAt w st bs G5 G6 0 w3 := ⟨hA6, hA5', hA2', hA4', hB3⟩
  clear hA2 hA4 hA5 hA2' hA4' hA5' hA6 hg3 hs3 hs3' hg5 Hs2 hB2 hB3 w2
  go_wp2
  go_loopw [12] (fun i wr => ∃ k : Nat, k ≤ 64 ∧ i = .int .i64 k ∧ NextAt w st bs G5 G6 k wr) (fun i _ => 64 - (intOf i).toNat)
  case atStart => exact ⟨0, Nat.zero_le _, rfl, hI⟩
  case round =>
    clear hI
    obtain ⟨k, hk, rfl, hA6, hA5, hA2, hA4, hB⟩ := hrel
    by_cases hlt : k < 64
    · obtain ⟨xa, xb, xc, xd, xe, xf, xg, xh, hx⟩ := eight (Sh.runTo_length st Sh.K0 (Sh.ext (Sh.wordsOf bs) 48) H8.out k)
      have c0 := hA6.cell 0 (by rw [hx]; simp)
      have c1 := hA6.cell 1 (by rw [hx]; simp)
      have c2 := hA6.cell 2 (by rw [hx]; simp)
      have c3 := hA6.cell 3 (by rw [hx]; simp)
      have c4 := hA6.cell 4 (by rw [hx]; simp)
      have c5 := hA6.cell 5 (by rw [hx]; simp)
      have c6 := hA6.cell 6 (by rw [hx]; simp)
      have c7 := hA6.cell 7 (by rw [hx]; simp)
      rw [hx] at c0 c1 c2 c3 c4 c5 c6 c7
      have cw := hA5.cell k (by rw [HS.out]; exact hlt)
      have ck : wr.cell? ⟨1, k, none⟩ = some (U (Sh.K0.getD k 0)) := (hB.cell (p := ⟨1, k, none⟩) HT.out.2.1).trans (HT.out.2.2.2 k hlt)
      have Hx := Lib.hid hx
      have q : ∀ ad : Addr, ({ heap := wr.heap, tape := wr.tape, drawn := wr.drawn + 1, os := wr.os, output := wr.output } : World).cell? ad = wr.cell? ad := fun _ => rfl
      have bk : (k : Int) < 64 := by omega
      clear hx
      have Hn := Lib.hid (show Sh.runTo st Sh.K0 (Sh.ext (Sh.wordsOf bs) 48) (k + 1) = Sh.rnd [xa, xb, xc, xd, xe, xf, xg, xh] (Sh.K0.getD k 0 + (Sh.ext (Sh.wordsOf bs) 48).getD k 0) by rw [← Hx.out]; rfl)
      generalize (Sh.ext (Sh.wordsOf bs) 48).getD k 0 = XW at *
      generalize Sh.K0.getD k 0 = XK at *
      go_wp2_with fail
      go_still_tail 8, (by kernel_rfl)
      change wpList _ _ _ _ _ wr.drew
      have hA6d := hA6.drew
      have hA5d := hA5.drew
      have hA2d := hA2.drew
      have hA4d := hA4.drew
      have hBd := hB.drew
      generalize wr.drew = w4 at *
      clear q c0 c1 c2 c3 c4 c5 c6 c7 cw ck hA6 hA5 hA2 hA4 hB
      go_wp2_with fail
      refine (sha_round8 xa xb xc xd xe xf xg xh (XK + XW) _).mono ?_
      rintro e w5 ⟨rfl, hb5⟩
      have hA6e := hA6d.below hb5 hA6d.lt
      have hA5e := hA5d.below hb5 hA5d.lt
      have hA2e := hA2d.below hb5 hA2d.lt
      have hA4e := hA4d.below hb5 hA4d.lt
      have hBe : Below w.heap.size w w5 := hBd.trans (hb5.mono hBd.size)
      have hBz := hBe.size
      clear hA6d hA5d hA2d hA4d hBd hb5
      go_wp2_with (with_reducible refine wpL_store_arr (o := ⟨none, _, _, _, _, _⟩) rfl 80 (.tmp 6) (.tmp 23) rfl G6 8 _ rfl rfl _ (Sh.rnd [xa, xb, xc, xd, xe, xf, xg, xh] (XK + XW)) hA6e size_words ?d1 rfl rfl ?_)
      case d1 => rw [Hx.out]; rfl
      intro w6 hA6f hg6 hs6
      rw [← Hn.out] at hA6f
      have hI : NextAt w st bs G5 G6 (k + 1) w6 := ⟨hA6f, hA5e.grown hg6 (by simp; omega), hA2e.grown hg6 (by simp; omega), hA4e.grown hg6 (by simp; omega), hBe.grown hg6 hBz (fun k h => by injection h with h; omega)⟩
      clear hA6f hA6e hA5e hA2e hA4e hg6 hs6 hBe hBz
      go_wp2
      go_roundw
      case rel => exact ⟨k + 1, by omega, by go_num, hI⟩
      case measure => simp [intOf]; omega
    · have hk64 : k = 64 := by omega
      subst hk64
      have hRl := Sh.runTo_length st Sh.K0 (Sh.ext (Sh.wordsOf bs) 48) H8.out 64
      have Hfin := Lib.hid (show Sh.compress st (Sh.wordsOf bs) = List.zipWith (· + ·) (Sh.runTo st Sh.K0 (Sh.ext (Sh.wordsOf bs) 48) 64) st from rfl)
      generalize Sh.runTo st Sh.K0 (Sh.ext (Sh.wordsOf bs) 48) 64 = R at *
      have HR := Lib.hid hRl
      have hI : SumAt w st R G6 0 wr := ⟨by rw [Sh.addTo_zero]; exact hA6, hA2, hA4, hB⟩
      rw [show ((64 : Nat) : Int) = (64 : Int) from rfl]
      clear hA6 hA5 hA2 hA4 hB hRl
      go_wp2
      go_loopw [25] (fun i wr => ∃ k : Nat, k ≤ 8 ∧ i = .int .i64 k ∧ SumAt w st R G6 k wr) (fun i _ => 8 - (intOf i).toNat)
      case atStart => exact ⟨0, Nat.zero_le _, rfl, hI⟩
      case round =>
        clear hI
        obtain ⟨k, hk, rfl, hA6, hA2, hA4, hB⟩ := hrel
        have hlen : (Sh.addTo R st k).length = 8 := by rw [Sh.addTo_length _ _ _ (by rw [HR.out, H8.out]), HR.out]
        have Hlen := Lib.hid hlen
        by_cases hlt : k < 8
        · have c0 := hA6.cell k (by omega)
          have f0 := hA6.frozen k
          rw [Sh.addTo_get _ _ _ (by rw [HR.out, H8.out]) (by rw [HR.out]; exact hlt)] at c0
          have c1 := hA2.cell k (by rw [H8.out]; exact hlt)
          have Hst := Lib.hid (Sh.addTo_step R st k (by rw [HR.out, H8.out]) (by rw [HR.out]; exact hlt))
          have bk : (k : Int) < 8 := by omega
          clear hlen
          generalize R.getD k 0 = X0 at *
          generalize st.getD k 0 = X1 at *
          go_wp2_with fail
          go_region
          have hA6' : ArrAt (wr.setCell ⟨G6, k, none⟩ (U (X0 + X1))) G6 80 (Sh.addTo R st (k + 1)) := by rw [← Hst.out]; exact hA6.set k _
          have hI : SumAt w st R G6 (k + 1) (wr.setCell ⟨G6, k, none⟩ (U (X0 + X1))).drew := ⟨hA6'.drew, (hA2.setOther (by omega) _).drew, (hA4.setOther (by omega) _).drew, (hB.setCell (p := ⟨G6, k, none⟩) (by simp; omega) _).drew⟩
          clear c0 c1 f0 hA6 hA6' hA2 hA4 hB
          go_wp2
          go_roundw
          case rel => exact ⟨k + 1, by omega, by go_num, hI⟩
          case measure => simp [intOf]; omega
        · have hk8 : k = 8 := by omega
          subst hk8
          rw [Sh.addTo_end _ _ _ (by rw [HR.out, H8.out]) (by rw [HR.out]; omega), ← Hfin.out] at hA6
          rw [show ((8 : Nat) : Int) = (8 : Int) from rfl]
          have Hcl := Lib.hid (Sh.compress_length st (Sh.wordsOf bs) H8.out)
          have HA := Lib.hid hA6
          clear hlen hA6
          go_wp2_with (first
            | (with_reducible refine wpL_load_arr (o := ⟨some 37, _, _, _, _, _⟩) rfl 80 69 (.tmp 6) rfl G6 8 rfl _ HA.out Tryd.underlying80 size_words Hcl.out ?_)
            | (with_reducible refine wpL_store_arr (o := ⟨none, _, _, _, _, _⟩) rfl 80 (.tmp 4) (.tmp 37) rfl (w.heap.size + 1) 8 _ rfl rfl _ (Sh.compress st (Sh.wordsOf bs)) hA4 size_words rfl rfl Hcl.out ?_))
          intro w7 hA7 hg7 hs7
          have hB7 : Below w.heap.size w w7 := hB.grown hg7 hB.size (fun k h => by injection h with h; omega)
          have hL := hA7.load Tryd.underlying80 size_words Hcl.out
          go_wp2
          exact bodyPost_ret (v := .agg (wcells (Sh.compress st (Sh.wordsOf bs))).toArray) (results_cell Tryd.results56 rfl hL) rfl ⟨rfl, hB7⟩
end Go.Proofs.YthknkfiofdfogaaDoor
