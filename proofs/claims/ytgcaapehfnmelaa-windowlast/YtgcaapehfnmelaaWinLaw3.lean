/- The walk of the law WindowLast. -/
import Derived.Test.YtgcaapehfnmelaaWinLaw2
import Derived.Deep.RegionHeld3
import Derived.BigQuiet
import Derived.Deep.QuietTactic
namespace Go.Proofs.Ytgcaapehfnmelaa
open Go.RowKit

theorem below_drewN' {B : Nat} {w w' : World} (h : Below B w w') (k : Nat) : Below B w (w'.drewN k) := by
  induction k with
  | zero => simpa [World.drewN] using h
  | succ k ih => exact ih.drew
theorem IntsAt.drewN {w : World} {B n : Nat} {a : Option Addr} {zs : List Int} (h : IntsAt w B a n zs) (k : Nat) : IntsAt (w.drewN k) B a n zs :=
  ⟨h.1, fun hn => by obtain ⟨b, off, e, hlt, hc⟩ := h.2 hn; exact ⟨b, off, e, hlt, fun i hi => by simpa using hc i hi⟩⟩
theorem desc_over {so : Bool} {la : Int} {b : Nat} {cs : List Int} (h : Wn.Desc so la b cs) (hso : so = true) (n : Int) (hn : la < n) (hn1 : n ≤ 1099511627776) : Wn.hasErr so la b n = 0 ∧ Wn.hasOut so la b n = false ∧ Wn.most cs = la := by
  have hb := Wn.desc_lt h
  have he : Wn.hasErr so la b n = 0 := by unfold Wn.hasErr; rw [Wn.desc_err h, if_neg (by decide), if_neg (by omega)]
  have hm := Wn.most_of h
  rw [if_pos hso] at hm
  refine ⟨he, ?_, hm⟩
  unfold Wn.hasOut
  rw [he, if_pos rfl]
  unfold Wn.has
  rw [decide_eq_false (show ¬ n ≤ la by omega)]
  simp
theorem has_from (so : Bool) (la : Int) (b g : Nat) (n : Int) (wx W : World) (base : Nat) (hW : Below wx.heap.size wx W) (l0 : -9223372036854775808 ≤ la) (l1 : la ≤ 9223372036854775807) (hb : b < 18446744073709551616) (n0 : -9223372036854775808 ≤ n) (n1 : n ≤ 9223372036854775807)
    (R : wx.ownsRow base 24 1 (.slice (some ⟨g, 0, none⟩) 3 3) 3 [.bool so, .int .i64 la, .int .u64 (b : Int)]) (he : Wn.hasErr so la b n = 0) (ho : Wn.hasOut so la b n = false) :
    Calls Try.prog 9 #[.agg #[.bool so, .int .i64 la, .int .u64 (b : Int)], .int .i64 n] W fun e w' => e = .returned (.tuple #[.bool false, .int .i64 0]) ∧
      (w'.cell? ⟨g, 0, none⟩ = some (.bool so) ∧ w'.cell? ⟨g, 1, none⟩ = some (.int .i64 la) ∧ w'.cell? ⟨g, 2, none⟩ = some (.int .u64 (b : Int)) ∧ Below wx.heap.size wx w') := by
  refine (win_Has so la b n W l0 l1 hb n0 n1).mono ?_
  rintro e w' ⟨rfl, hb'⟩
  have hB := hW.trans (hb'.mono hW.size)
  obtain ⟨c0, c1, c2⟩ := three_cells (own_below R hB)
  exact ⟨by rw [he, ho]; rfl, c0, c1, c2, hB⟩

set_option maxRecDepth 100000 in
set_option maxHeartbeats 1000000 in
theorem law_WindowLast (a : Option Addr) (n c : Nat) (zs : List Int) (x : Int) (w : World) (h : IntsAt w w.heap.size a n zs) (hz : ∀ z ∈ zs, -9223372036854775808 ≤ z ∧ z ≤ 9223372036854775807) (x0 : -9223372036854775808 ≤ x) (x1 : x ≤ 9223372036854775807) :
    Calls Try.prog 6 #[.slice a n c, .int .i64 x] w fun e w' => e = .returned (.bool true) ∧ Below w.heap.size w w' := by
  have hpl := pick_lt x 100 (by decide)
  have HP := Lib.hid (fun W => keep_picked x 100 W x0 x1 (by decide) (by decide))
  generalize pick x 100 = p at *
  go_enter Try.func6, Try.ntmps6
  go_wp2_with fail
  refine (keep_taken a n c zs _ h hz).mono ?_
  rintro e w1 ⟨so, la, b, cs, av, cv, rfl, hD, hc2, hcl, hoc, hB⟩
  unfold seenV
  have hbl := Wn.desc_lt hD
  obtain ⟨wx, hwx⟩ : ∃ wx, wx = w1.alloc (.cells #[.bool so, .int .i64 la, .int .u64 (b : Int)] 24) := ⟨_, rfl⟩
  have R1 : wx.ownsRow w.heap.size 24 1 (.slice (some ⟨w1.heap.size, 0, none⟩) 3 3) 3 [.bool so, .int .i64 la, .int .u64 (b : Int)] := by rw [hwx]; exact own_three (heap_alloc_last w1 _) hB.size
  have hI : IntsAt wx wx.heap.size av cs.length cs := by rw [hwx]; exact ((IntsAt.own hoc).below ((Below.refl _ w1).alloc (Nat.le_refl _) _)).up (by simp)
  have hB1 : Below w.heap.size w wx := by rw [hwx]; exact hB.alloc hB.size _
  have HR := Lib.hid R1
  have HI := Lib.hid hI
  have Hc2 := Lib.hid hc2
  have Hso := desc_some hD
  by_cases h0 : 0 < cs.length
  · have hso : so = true := by rw [Hso, decide_eq_true h0]
    have Hov := Lib.hid (desc_over hD hso (la + 1 + (p : Int)) (by omega) (by omega))
    have HF := Lib.hid (fun W hW => has_from so la b w1.heap.size (la + 1 + (p : Int)) wx W w.heap.size hW (by omega) (by omega) hbl.1 (by omega) (by omega) HR.out Hov.out.1 Hov.out.2.1)
    have hl0 : ((cs.length : Int) == 0) = false := by rw [beq_eq_false_iff_ne]; omega
    have y1 : IntKind.i64.wrap (la + 1) = la + 1 := IntWalk.i64_in _ (by omega)
    have y2 : IntKind.i64.wrap (la + 1 + (p : Int)) = la + 1 + (p : Int) := IntWalk.i64_in _ (by omega)
    obtain ⟨c0, c1, c2⟩ := three_cells R1
    clear h hz hoc hB R1 hI hD hc2 Hso hso
    go_wp2_with fail
    rw [← hwx]
    clear hwx
    go_region_held3 (fun W => W.cell? ⟨w1.heap.size, 0, none⟩ = some (.bool so) ∧ W.cell? ⟨w1.heap.size, 1, none⟩ = some (.int .i64 la) ∧ W.cell? ⟨w1.heap.size, 2, none⟩ = some (.int .u64 (b : Int)) ∧ Below wx.heap.size wx W)
      (first | assumption | (exact ⟨c0, c1, c2, (Below.refl _ _).drew⟩))
      (first
        | (go_at_call 15; refine (HP.out _).mono ?_; rintro e w3 ⟨rfl, rfl⟩)
        | (go_at_call 9; refine (HF.out _ (by first | exact (Below.refl _ _).drew | assumption)).mono ?_; rintro e w4 ⟨rfl, hS4⟩))
    obtain ⟨d0, d1, d2, hB4⟩ := hS4
    have hI4 := HI.out.below hB4
    have HQ := Lib.hid (fun q => keep_Max av cs.length cv _ cs _ (hI4.drewN q) (by omega) h0 Hc2.out)
    rw [Hov.out.2.2] at HQ
    have hfin := hB1.trans (hB4.mono hB1.size)
    clear c0 c1 c2 y1 y2 hI4
    go_wp2_with fail
    go_quiet ((go_at_call 16; exact Calls.quiet_of_same (HQ.out _)))
    go_wp2
    go_ret
    exact ⟨by simp, below_drewN' hfin _⟩
  · have hnil : cs = [] := List.eq_nil_of_length_eq_zero (by omega)
    obtain ⟨rfl, rfl, rfl⟩ : so = false ∧ la = 0 ∧ b = 0 := by
      rcases hD with ⟨_, h1, h2, h3⟩ | ⟨_, h1, _⟩
      · exact ⟨h1, h2, h3⟩
      · rw [hnil] at h1; cases h1
    have hl0 : cs.length = 0 := by omega
    clear h hz hoc hB R1 hI hD hc2 Hso hnil
    rw [hwx] at hB1
    go_wp2
    go_ret
    exact ⟨by simp, hB1⟩
end Go.Proofs.Ytgcaapehfnmelaa
