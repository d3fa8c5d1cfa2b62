/- The walks of the laws WindowFree and WindowOnce. -/
import Derived.Test.YtgcaapehfnmelaaKeepTaken
import Derived.Test.YtgcaapehfnmelaaWinLaw1
import Derived.OpenShut
import Derived.SizedLaws
namespace Go.Proofs.Ytgcaapehfnmelaa
open Go.RowKit

theorem maxOf_most (cs : List Int) (h0 : cs ≠ []) (h : ∀ c ∈ cs, 0 ≤ c ∧ c < 200) : Lib.maxOf cs = Wn.most cs := by
  match cs, h0 with
  | c :: cs, _ =>
    have h1 := (h c List.mem_cons_self).1
    show (c :: cs).foldl max c = (c :: cs).foldl max (-1)
    rw [List.foldl_cons, List.foldl_cons, show max (-1) c = c by omega, show max c c = c by omega]
theorem keep_Max (a : Option Addr) (n c B : Nat) (cs : List Int) (w : World) (h : IntsAt w B a n cs) (hn : n ≤ 1000) (h0 : 0 < n) (hc : ∀ c ∈ cs, 0 ≤ c ∧ c < 200) :
    Calls Try.prog 16 #[.slice a n c] w fun e w' => e = .returned (.int .i64 (Wn.most cs)) ∧ w' = w := by
  obtain ⟨b, off, rfl, hcs⟩ := ints_all h h0
  have hl := h.1
  refine (Try.slices_Max_int b off n c cs w h0 (by omega) (by omega) hcs).mono ?_
  rintro e w' ⟨rfl, rfl⟩
  rw [List.take_of_length_le (by omega), maxOf_most cs (by intro e; rw [e] at hl; simp at hl; omega) hc]
  exact ⟨rfl, rfl⟩
theorem most_bounds (cs : List Int) (h : ∀ c ∈ cs, 0 ≤ c ∧ c < 200) : -1 ≤ Wn.most cs ∧ Wn.most cs < 200 := by
  have hf := Wn.foldl_max cs (-1)
  refine ⟨hf.2.1, ?_⟩
  rcases hf.2.2 with e | e
  · unfold Wn.most; omega
  · exact (h _ e).2

set_option maxRecDepth 100000 in
set_option maxHeartbeats 1000000 in
theorem law_WindowFree (a : Option Addr) (n c : Nat) (zs : List Int) (x : Int) (w : World) (h : IntsAt w w.heap.size a n zs) (hz : ∀ z ∈ zs, -9223372036854775808 ≤ z ∧ z ≤ 9223372036854775807) (x0 : -9223372036854775808 ≤ x) (x1 : x ≤ 9223372036854775807) :
    Calls Try.prog 7 #[.slice a n c, .int .i64 x] w fun e w' => e = .returned (.bool true) ∧ Below w.heap.size w w' := by
  have hpl := pick_lt x 200 (by decide)
  have HP := Lib.hid (fun W => keep_picked x 200 W x0 x1 (by decide) (by decide))
  generalize pick x 200 = p at *
  go_enter Try.func7, Try.ntmps7
  go_wp2_with fail
  refine (keep_taken a n c zs _ h hz).mono ?_
  rintro e w1 ⟨so, la, b, cs, av, cv, rfl, hD, hc2, hcl, hoc, hB⟩
  unfold seenV
  have hbl := Wn.desc_lt hD
  have HE := Lib.hid (Wn.desc_hasErr hD (p : Int) (by omega) (by omega))
  have HH : Hid (Wn.hasOut so la b (p : Int) = Wn.late cs (p : Int)) := Lib.hid (by unfold Wn.hasOut; rw [HE.out, if_pos rfl]; exact Wn.desc_has hD _ (by omega))
  have HF := Lib.hid (fun W => win_Has so la b (p : Int) W (by omega) (by omega) hbl.1 (by omega) (by omega))
  have hmb := most_bounds cs hc2
  have Hc2 := Lib.hid hc2
  have R1 : (w1.alloc (.cells #[.bool so, .int .i64 la, .int .u64 (b : Int)] 24)).ownsRow w.heap.size 24 1 (.slice (some ⟨w1.heap.size, 0, none⟩) 3 3) 3 [.bool so, .int .i64 la, .int .u64 (b : Int)] := own_three (heap_alloc_last w1 _) hB.size
  have hI := (IntsAt.own hoc).below ((Below.refl _ w1).alloc (Nat.le_refl _) (.cells #[.bool so, .int .i64 la, .int .u64 (b : Int)] 24))
  have hB1 := hB.alloc hB.size (.cells #[.bool so, .int .i64 la, .int .u64 (b : Int)] 24)
  obtain ⟨c0, c1, c2⟩ := three_cells R1
  have HI := Lib.hid hI
  clear h hz hD hc2 hoc hB R1 hI
  go_wp2_with fail
  refine (HP.out _).mono ?_
  rintro e w0 ⟨rfl, hw0⟩
  subst hw0
  go_wp2_with fail
  refine (HF.out _).mono ?_
  rintro e w2 ⟨rfl, hb2⟩
  rw [HE.out, HH.out]
  have hI2 := (HI.out.up (show _ ≤ _ by simp)).below hb2
  have hB2 := hB1.trans (hb2.mono hB1.size)
  have HI2 := Lib.hid hI2
  clear hb2 hI2 HI HF HE HH hB1 c0 c1 c2
  have Hla := Lib.hid (show Wn.late cs (p : Int) = (decide ((p : Int) ∈ cs) || decide (64 ≤ Wn.most cs - (p : Int))) from rfl)
  generalize Wn.late cs (p : Int) = lt at *
  rw [show ((0 : Nat) : Int) = (0 : Int) from rfl]
  go_wp2_with fail
  refine (keep_Contains _ _ _ _ cs (p : Int) _ HI2.out (by omega)).mono ?_
  rintro e w3 ⟨rfl, hw3⟩
  subst hw3
  cases hd : decide ((p : Int) ∈ cs)
  · rw [hd, Bool.false_or] at Hla
    by_cases h0 : 0 < cs.length
    · have hm0 : -9223372036854775808 ≤ Wn.most cs - (p : Int) ∧ Wn.most cs - (p : Int) ≤ 9223372036854775807 := by omega
      clear hd
      go_wp2_with fail
      refine (keep_Max _ _ _ _ cs _ HI2.out (by omega) h0 Hc2.out).mono ?_
      rintro e w4 ⟨rfl, hw4⟩
      subst hw4
      by_cases hq : 64 ≤ Wn.most cs - (p : Int)
      · obtain rfl : lt = true := by rw [Hla.out, decide_eq_true hq]
        generalize Wn.most cs = mo at *
        go_wp2
        go_ret
        exact ⟨by simp, hB2⟩
      · obtain rfl : lt = false := by rw [Hla.out, decide_eq_false hq]
        generalize Wn.most cs = mo at *
        go_wp2
        go_ret
        exact ⟨by simp; omega, hB2⟩
    · have hnil : cs = [] := List.eq_nil_of_length_eq_zero (by omega)
      obtain rfl : lt = false := by rw [Hla.out, hnil]; exact decide_eq_false (by show ¬ 64 ≤ (-1 : Int) - (p : Int); omega)
      clear hd hnil
      go_wp2
      go_ret
      exact ⟨by simp, hB2⟩
  · obtain rfl : lt = true := by rw [Hla.out, hd]; rfl
    clear hd
    go_wp2
    go_ret
    exact ⟨by simp, hB2⟩

theorem desc_in {so : Bool} {la : Int} {b : Nat} {cs : List Int} (h : Wn.Desc so la b cs) (x : Int) (hx : x ∈ cs) (h0 : 0 ≤ x) (h1 : x ≤ 1000) : Wn.hasErr so la b x = 0 ∧ Wn.hasOut so la b x = true ∧ Wn.takeErr so la b x = 10 := by
  have hl : Wn.late cs x = true := by unfold Wn.late; rw [decide_eq_true hx]; rfl
  have he := Wn.desc_hasErr h x h0 h1
  refine ⟨he, ?_, ?_⟩
  · unfold Wn.hasOut; rw [he, if_pos rfl, Wn.desc_has h x h0, hl]
  · rw [Wn.desc_takeErr h x h0 h1, hl]; rfl
theorem desc_some {so : Bool} {la : Int} {b : Nat} {cs : List Int} (h : Wn.Desc so la b cs) : so = decide (0 < cs.length) := by
  rcases h with ⟨rfl, rfl, _, _⟩ | ⟨rfl, hm, _⟩
  · rfl
  · have : 0 < cs.length := List.length_pos_of_mem hm
    rw [decide_eq_true this]

set_option maxRecDepth 100000 in
set_option maxHeartbeats 1000000 in
theorem law_WindowOnce (a : Option Addr) (n c : Nat) (zs : List Int) (w : World) (h : IntsAt w w.heap.size a n zs) (hz : ∀ z ∈ zs, -9223372036854775808 ≤ z ∧ z ≤ 9223372036854775807) :
    Calls Try.prog 5 #[.slice a n c] w fun e w' => e = .returned (.bool true) ∧ Below w.heap.size w w' := by
  go_enter Try.func5, Try.ntmps5
  go_wp2_with fail
  refine (keep_taken a n c zs _ h hz).mono ?_
  rintro e w1 ⟨so, la, b, cs, av, cv, rfl, hD, hc2, hcl, hoc, hB⟩
  unfold seenV
  have hbl := Wn.desc_lt hD
  obtain ⟨wx, hwx⟩ : ∃ wx, wx = w1.alloc (.cells #[.bool so, .int .i64 la, .int .u64 (b : Int)] 24) := ⟨_, rfl⟩
  have R1 : wx.ownsRow w.heap.size 24 1 (.slice (some ⟨w1.heap.size, 0, none⟩) 3 3) 3 [.bool so, .int .i64 la, .int .u64 (b : Int)] := by rw [hwx]; exact own_three (heap_alloc_last w1 _) hB.size
  have hI : IntsAt wx wx.heap.size av cs.length cs := by rw [hwx]; exact ((IntsAt.own hoc).below ((Below.refl _ w1).alloc (Nat.le_refl _) _)).up (by simp)
  have hB1 : Below w.heap.size w wx := by rw [hwx]; exact hB.alloc hB.size _
  have HR := Lib.hid R1
  have HI := Lib.hid hI
  have HD := Lib.hid hD
  have Hc2 := Lib.hid hc2
  clear h hz hoc hB R1 hI hD hc2
  go_wp2
  rw [← hwx]
  clear hwx
  go_loopw [20] (fun i wr => ∃ j : Nat, j ≤ cs.length ∧ i = .int .i64 j ∧ Below wx.heap.size wx wr) (fun i _ => cs.length - (intOf i).toNat)
  case atStart => exact ⟨0, Nat.zero_le _, rfl, Below.refl _ _⟩
  case round =>
    obtain ⟨j, hj, rfl, hBr⟩ := hrel
    obtain ⟨c0, c1, c2⟩ := three_cells (own_below HR.out hBr)
    by_cases hlt : j < cs.length
    · obtain ⟨gc, oc, rfl, cj⟩ := ints_lt (HI.out.below hBr) hlt
      have hmem : cs.getD j 0 ∈ cs := by rw [List.getD_eq_getElem?_getD, List.getElem?_eq_getElem hlt]; exact List.getElem_mem hlt
      have hcb := Hc2.out _ hmem
      have Hin := Lib.hid (desc_in HD.out _ hmem hcb.1 (by omega))
      have HF := Lib.hid (fun W => win_Has so la b (cs.getD j 0) W (by omega) (by omega) hbl.1 (by omega) (by omega))
      have HTk := Lib.hid (fun W => win_Take so la b (cs.getD j 0) W (by omega) (by omega) hbl.1 (by omega) (by omega))
      obtain ⟨X0, X1, X2, hV⟩ := takeV_form so la b (cs.getD j 0)
      have HV := Lib.hid hV
      clear hV hmem
      generalize cs.getD j 0 = C at *
      go_wp2_with fail
      refine (HF.out _).mono ?_
      rintro e w3 ⟨rfl, hb3⟩
      rw [Hin.out.1, Hin.out.2.1]
      have hB3 := hBr.trans (hb3.mono hBr.size)
      clear c0 c1 c2 hb3 cj
      obtain ⟨c0, c1, c2⟩ := three_cells (own_below HR.out hB3)
      rw [show ((0 : Nat) : Int) = (0 : Int) from rfl]
      go_wp2_with fail
      refine (HTk.out _).mono ?_
      rintro e w4 ⟨rfl, hb4⟩
      rw [Hin.out.2.2, HV.out]
      unfold seenV
      have hB4 := hB3.trans (hb4.mono hB3.size)
      have hB5 := hB4.alloc hB4.size (.cells #[.bool X0, .int .i64 X1, .int .u64 (X2 : Int)] 24)
      clear hb4 c0 c1 c2
      rw [show ((10 : Nat) : Int) = (10 : Int) from rfl]
      go_wp2
      go_roundw
      case rel => exact ⟨j + 1, by omega, by go_num, hB5⟩
      case measure => simp [intOf]; omega
    · obtain rfl : j = cs.length := by omega
      have HC := Lib.hid (fun W => win_Check so la b W (by omega) (by omega) hbl.1)
      have HE := Lib.hid (Wn.desc_err HD.out)
      have Hso := Lib.hid (desc_some HD.out)
      go_wp2_with fail
      refine (HC.out _).mono ?_
      rintro e w3 ⟨rfl, hb3⟩
      rw [HE.out]
      have hB3 := hBr.trans (hb3.mono hBr.size)
      clear c0 c1 c2 hb3
      obtain ⟨c0, c1, c2⟩ := three_cells (own_below HR.out hB3)
      rw [show ((0 : Nat) : Int) = (0 : Int) from rfl]
      have hfin := hB1.trans (hB3.mono hB1.size)
      by_cases h0 : 0 < cs.length
      · obtain rfl : so = true := by rw [Hso.out, decide_eq_true h0]
        go_wp2
        go_ret
        exact ⟨by simp, hfin⟩
      · obtain rfl : so = false := by rw [Hso.out, decide_eq_false h0]
        have hl0 : cs.length = 0 := by omega
        go_wp2
        go_ret
        exact ⟨by simp, hfin⟩
end Go.Proofs.Ytgcaapehfnmelaa
