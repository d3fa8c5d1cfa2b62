/- The contract of sha.schedule. -/
import Derived.Test.YthknkfiofdfogaaDoorShaSched
import Derived.Deep.Cut
import Derived.BigRegion
namespace Go.Proofs.YthknkfiofdfogaaDoor
open Go.RowKit

def zero64 : Array Value := #[.int .u32 0, .int .u32 0, .int .u32 0, .int .u32 0, .int .u32 0, .int .u32 0, .int .u32 0, .int .u32 0, .int .u32 0, .int .u32 0, .int .u32 0, .int .u32 0, .int .u32 0, .int .u32 0, .int .u32 0, .int .u32 0, .int .u32 0, .int .u32 0, .int .u32 0, .int .u32 0, .int .u32 0, .int .u32 0, .int .u32 0, .int .u32 0, .int .u32 0, .int .u32 0, .int .u32 0, .int .u32 0, .int .u32 0, .int .u32 0, .int .u32 0, .int .u32 0, .int .u32 0, .int .u32 0, .int .u32 0, .int .u32 0, .int .u32 0, .int .u32 0, .int .u32 0, .int .u32 0, .int .u32 0, .int .u32 0, .int .u32 0, .int .u32 0, .int .u32 0, .int .u32 0, .int .u32 0, .int .u32 0, .int .u32 0, .int .u32 0, .int .u32 0, .int .u32 0, .int .u32 0, .int .u32 0, .int .u32 0, .int .u32 0, .int .u32 0, .int .u32 0, .int .u32 0, .int .u32 0, .int .u32 0, .int .u32 0, .int .u32 0, .int .u32 0]
theorem zero64_words : zero64 = (wcells (List.replicate 64 0)).toArray := rfl
theorem size_sched : (Tryd.prog.info? 87).map (·.size) = some 64 := by kernel_rfl

set_option maxRecDepth 100000 in
set_option maxHeartbeats 1000000 in
theorem sha_schedule (b off c : Nat) (bs : List UInt8) (w : World) (hbB : b < w.heap.size) (hl : bs.length = 64) (hc : ∀ i (h : i < bs.length), w.cell? ⟨b, off + i, none⟩ = some (.int .u8 (bs[i].toNat : Int))) :
    Calls Tryd.prog 62 #[.slice (some ⟨b, off, none⟩) 64 c] w fun e w' => e = .returned (.agg (wcells (Sh.ext (Sh.wordsOf bs) 48)).toArray) ∧ Below w.heap.size w w' := by
  have hwl : (Sh.wordsOf bs).length = 16 := Sh.wordsOf_length bs 16 (by omega)
  have Hl := Lib.hid hl
  have Hc := Lib.hid hc
  have Hwl := Lib.hid hwl
  clear hl hc hwl
  go_enter Tryd.func62, Tryd.ntmps62
  go_upto_region 2 with (fail)
  obtain ⟨W, hW⟩ : ∃ W, W = (w.alloc (.cells zero64 87)).alloc (.cells zero64 87) := ⟨_, rfl⟩
  have hb : Below w.heap.size w W := by
    rw [hW]; exact ((Below.refl _ _).alloc (Nat.le_refl _) _).alloc (by simp) _
  have hz : (w.alloc (.cells zero64 87)).heap.size = w.heap.size + 1 := by simp
  have hA : ArrAt W (w.heap.size + 1) 87 (Sh.fillW (Sh.wordsOf bs) 0) := by
    have := ArrAt.new (w.alloc (.cells zero64 87)) 87 _ zero64 zero64_words
    rw [← hW, hz] at this
    exact this
  have hR : ArrAt W w.heap.size 87 (List.replicate 64 0) := by
    rw [hW]; exact (ArrAt.new w 87 _ zero64 zero64_words).alloc _
  unfold zero64 at hW
  rw [← hW]
  clear hW hz
  go_wp2
  go_loopw [12] (fun i wr => ∃ k : Nat, k ≤ 16 ∧ i = .int .i64 k ∧ ArrAt wr (w.heap.size + 1) 87 (Sh.fillW (Sh.wordsOf bs) k) ∧ ArrAt wr w.heap.size 87 (List.replicate 64 0) ∧ Below w.heap.size w wr) (fun i _ => 16 - (intOf i).toNat)
  case atStart => exact ⟨0, Nat.zero_le _, rfl, hA, hR, hb⟩
  case round =>
    obtain ⟨k, hk, rfl, hA1, hR1, hb1⟩ := hrel
    clear hA hR hb
    by_cases hlt : k < 16
    · obtain ⟨k4, hk4⟩ : ∃ k4 : Nat, k4 = 4 * k := ⟨_, rfl⟩
      have e4 : (k : Int) * 4 = (k4 : Int) := by omega
      have hcell := hA1.cell k (by rw [Sh.fillW_length _ _ (by rw [Hwl.out]; omega) (by omega)]; omega)
      have hfz := hA1.frozen k
      have hk3 : k4 + 3 < bs.length := by rw [Hl.out]; omega
      have Hk4 := Lib.hid hk4
      clear hk4
      have Hst := Lib.hid (show ∀ m, ArrAt ((wr.drewN m).setCell ⟨w.heap.size + 1, k, none⟩ (U (Sh.word bs[k4] bs[k4 + 1] bs[k4 + 2] bs[k4 + 3]))) (w.heap.size + 1) 87 (Sh.fillW (Sh.wordsOf bs) (k + 1)) by
        intro m
        have hx := (hA1.drewN m).set k (Sh.word bs[k4] bs[k4 + 1] bs[k4 + 2] bs[k4 + 3])
        obtain rfl := Hk4.out
        have hg := Sh.wordsOf_get bs k (by rw [Hl.out]; omega)
        obtain ⟨hlt', hg'⟩ := List.getElem?_eq_some_iff.1 hg
        rw [← hg', Sh.fillW_step _ _ hlt' (by omega)] at hx
        rw [hg'] at hx
        exact hx)
      have Hcw := Lib.hid (show ∀ i (h : i < bs.length), wr.cell? ⟨b, off + i, none⟩ = some (.int .u8 (bs[i].toNat : Int)) by
        intro i hi; exact (hb1.cell (p := ⟨b, off + i, none⟩) hbB).trans (Hc.out i hi))
      go_wp2_with (go_at_call 66; refine (sha_word b off 64 c k4 bs _ (by omega) Hl.out hk3 Hcw.out).mono ?_; rintro e w' ⟨rfl, m, rfl⟩)
      go_roundw
      case rel => exact ⟨k + 1, by omega, by go_num, Hst.out m, (hR1.drewN m).setOther (by omega) _, (below_drewN hb1 m).setCell (by simp) _⟩
      case measure => simp [intOf]; omega
    · have hk16 : k = 16 := by omega
      subst hk16
      rw [Sh.extW_zero _ Hwl.out] at hA1
      rw [show ((16 : Nat) : Int) = (16 : Int) from rfl]
      go_wp2
      go_loopw [6] (fun i wr => ∃ j k : Nat, j ≤ 48 ∧ k = 16 + j ∧ i = .int .i64 k ∧ ArrAt wr (w.heap.size + 1) 87 (Sh.extW (Sh.wordsOf bs) j) ∧ ArrAt wr w.heap.size 87 (List.replicate 64 0) ∧ Below w.heap.size w wr) (fun i _ => 64 - (intOf i).toNat)
      case atStart => exact ⟨0, 16, Nat.zero_le _, rfl, rfl, hA1, hR1, hb1⟩
      case round =>
        clear hA1 hR1 hb1
        obtain ⟨j, k, hj, hkj, rfl, hA1, hR1, hb1⟩ := hrel
        have Hkj := Lib.hid hkj
        have hle : (Sh.extW (Sh.wordsOf bs) j).length = 64 := Sh.extW_length _ _ Hwl.out hj
        by_cases hlt : k < 64
        · have Hst := Lib.hid (Sh.extW_step (Sh.wordsOf bs) j Hwl.out (by omega))
          have c0 := hA1.cell j (by omega)
          have c1 := hA1.cell (j + 9) (by omega)
          have c2 := hA1.cell (j + 1) (by omega)
          have c3 := hA1.cell (j + 14) (by omega)
          have c4 := hA1.cell k (by omega)
          have f4 := hA1.frozen k
          obtain ⟨j1, hj1⟩ : ∃ j1, j1 = j + 1 := ⟨_, rfl⟩
          obtain ⟨j9, hj9⟩ : ∃ j9, j9 = j + 9 := ⟨_, rfl⟩
          obtain ⟨j14, hj14⟩ : ∃ j14, j14 = j + 14 := ⟨_, rfl⟩
          have y0 : IntKind.i64.wrap ((k : Int) - 16) = (j : Int) := (IntWalk.i64_in _ (by omega)).trans (by omega)
          have y9 : IntKind.i64.wrap ((k : Int) - 7) = (j9 : Int) := (IntWalk.i64_in _ (by omega)).trans (by omega)
          have y1 : IntKind.i64.wrap ((k : Int) - 15) = (j1 : Int) := (IntWalk.i64_in _ (by omega)).trans (by omega)
          have y14 : IntKind.i64.wrap ((k : Int) - 2) = (j14 : Int) := (IntWalk.i64_in _ (by omega)).trans (by omega)
          rw [← hj9] at c1
          rw [← hj1] at c2
          rw [← hj14] at c3
          rw [← hj9, ← hj1, ← hj14, ← hkj] at Hst
          have b0 : (j : Int) < 64 := by omega
          have b1 : (j1 : Int) < 64 := by omega
          have b9 : (j9 : Int) < 64 := by omega
          have b14 : (j14 : Int) < 64 := by omega
          have bk : (k : Int) < 64 := by omega
          have Hj1 := Lib.hid hj1
          clear hle hj1 hj9 hj14 hkj
          generalize (Sh.extW (Sh.wordsOf bs) j).getD j 0 = X0 at *
          generalize (Sh.extW (Sh.wordsOf bs) j).getD j9 0 = X9 at *
          generalize (Sh.extW (Sh.wordsOf bs) j).getD j1 0 = X1 at *
          generalize (Sh.extW (Sh.wordsOf bs) j).getD j14 0 = X14 at *
          go_wp2_with fail
          go_quiet (fail)
          go_wp2_with (go_at_call 67; (with_reducible refine (sha_right _ _ _ (by omega) (by omega)).mono ?_); rintro x w' ⟨rfl, rfl⟩)
          obtain ⟨W2, hW2⟩ : ∃ W2, W2 = wr.drewN nq := ⟨_, rfl⟩
          have hA2 : ArrAt W2 (w.heap.size + 1) 87 (Sh.extW (Sh.wordsOf bs) j) := by rw [hW2]; exact hA1.drewN nq
          have hR2 : ArrAt W2 w.heap.size 87 (List.replicate 64 0) := by rw [hW2]; exact hR1.drewN nq
          have hb2 : Below w.heap.size w W2 := by rw [hW2]; exact below_drewN hb1 nq
          rw [← World.cell?_drewN wr nq, ← hW2] at c0 c1 c4
          rw [← World.frozen?_drewN wr nq, ← hW2] at f4
          rw [← hW2]
          clear hW2 hA1 hR1 hb1 c2 c3
          go_region
          have hA3 : ArrAt (W2.setCell ⟨w.heap.size + 1, k, none⟩ (U (X0 + X9 + (Sh.rotr X1 7 ^^^ Sh.rotr X1 18 ^^^ X1 >>> 3) + (Sh.rotr X14 17 ^^^ Sh.rotr X14 19 ^^^ X14 >>> 10)))) (w.heap.size + 1) 87 (Sh.extW (Sh.wordsOf bs) j1) := by
            rw [← Hst.out]; exact hA2.set k _
          have hR3 := hR2.setOther (g' := w.heap.size + 1) (i := k) (by omega) (U (X0 + X9 + (Sh.rotr X1 7 ^^^ Sh.rotr X1 18 ^^^ X1 >>> 3) + (Sh.rotr X14 17 ^^^ Sh.rotr X14 19 ^^^ X14 >>> 10)))
          have hb3 := hb2.setCell (p := ⟨w.heap.size + 1, k, none⟩) (by simp) (U (X0 + X9 + (Sh.rotr X1 7 ^^^ Sh.rotr X1 18 ^^^ X1 >>> 3) + (Sh.rotr X14 17 ^^^ Sh.rotr X14 19 ^^^ X14 >>> 10)))
          clear c0 c1 c4 f4 y0 y9 y1 y14
          go_wp2
          go_roundw
          case rel => exact ⟨j1, k + 1, by have := Hkj.out; have := Hj1.out; omega, by have := Hkj.out; have := Hj1.out; omega, by go_num, hA3.drew, hR3.drew, hb3.drew⟩
          case measure => simp [intOf]; omega
        · have hj48 : j = 48 := by omega
          subst hj48
          rw [Sh.extW_end] at hA1
          have HA := Lib.hid hA1
          have hk64 : (k : Int) < 64 ↔ False := by simp; omega
          clear hkj hle hA1
          go_wp2_with (first
            | (with_reducible refine wpL_load_arr (o := ⟨some 66, _, _, _, _, _⟩) rfl 87 69 (.tmp 3) rfl (w.heap.size + 1) 64 rfl _ HA.out Tryd.underlying87 size_sched ?s0 ?_)
            | (with_reducible refine wpL_store_arr (o := ⟨none, _, _, _, _, _⟩) rfl 87 (.tmp 2) (.tmp 66) rfl w.heap.size 64 _ rfl rfl _ (Sh.ext (Sh.wordsOf bs) 48) hR1 size_sched ?s1 ?s2 ?s3 ?_))
          case s0 => rw [Sh.ext_length, Hwl.out]
          case s1 => rfl
          case s2 => rfl
          case s3 => rw [Sh.ext_length, Hwl.out]
          intro w1 hA hgr hsz
          have hb4 : Below w.heap.size w w1 := hb1.grown hgr hb1.size (fun k h => by injection h with h; omega)
          have hL := hA.load Tryd.underlying87 size_sched (by rw [Sh.ext_length, Hwl.out])
          go_wp2
          exact bodyPost_ret (v := .agg (wcells (Sh.ext (Sh.wordsOf bs) 48)).toArray) (results_cell Tryd.results62 rfl hL) rfl ⟨rfl, hb4⟩
end Go.Proofs.YthknkfiofdfogaaDoor
