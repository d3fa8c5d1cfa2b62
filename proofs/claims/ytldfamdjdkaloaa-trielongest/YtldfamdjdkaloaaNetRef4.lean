/- The contract of the reference's NetJoined. -/
import Derived.Test.YtldfamdjdkaloaaNetRef3
namespace Go.Proofs.Ytldfamdjdkaloaa
open Go.RowKit

theorem holds_own {a : Nat} {b : Int} (k : Nat) (hk : k ≤ 32) (he : Nt.err a b = 0) : Nt.holds (Nt.cut a k) (k : Int) a b = decide ((k : Int) ≤ b) := by
  unfold Nt.holds Nt.has
  rw [he, Nt.err_of hk (Nt.cut_mod a k), Int.toNat_natCast]
  simp
theorem holds_other (a : Nat) {c : Nat} {d : Int} (k : Nat) (hk : k ≤ 32) (he : Nt.err c d = 0) : Nt.holds (Nt.cut a k) (k : Int) c d = (decide ((k : Int) ≤ d) && decide (Nt.cut c k = Nt.cut a k)) := by
  unfold Nt.holds Nt.has
  rw [he, Nt.err_of hk (Nt.cut_mod a k), Int.toNat_natCast]
  simp
theorem of_good (a k : Nat) (hk : k ≤ 32) : Nt.ofAddr a (k : Int) = Nt.cut a k ∧ Nt.ofBits (k : Int) = (k : Int) ∧ Nt.ofErr (k : Int) = 0 := by
  have h : ¬ ((k : Int) < 0 ∨ 32 < (k : Int)) := by omega
  unfold Nt.ofAddr Nt.ofBits Nt.ofErr
  rw [if_neg h, if_neg h, if_neg h, Int.toNat_natCast]
  exact ⟨rfl, rfl, rfl⟩
set_option maxRecDepth 20000 in
set_option maxHeartbeats 1600000 in
theorem ref_NetJoined (a : Nat) (b : Int) (c : Nat) (d : Int) (w : World) (ha : a < 4294967296) (hc : c < 4294967296) :
    Calls Try.prog 62 #[netV a b, netV c d] w fun e w' => e = .returned (.tuple #[netV (Nt.joinAddr a b c d) (Nt.joinBits a b c d : Int), .int .i64 (Nt.joinErr a b c d : Int)]) ∧ Below w.heap.size w w' := by
  have h3 := three_nets w (.int .u32 (a : Int)) (.int .i64 b) (.int .u32 (c : Int)) (.int .i64 d)
  have HF1 := Lib.hid (fun W => ref_NetFault a b W ha)
  have HF2 := Lib.hid (fun W => ref_NetFault c d W hc)
  unfold netV at HF1 HF2 ⊢
  obtain ⟨w1, hw1⟩ : ∃ w1, w1 = ((w.alloc (.cells #[.int .u32 (a : Int), .int .i64 b] 28)).alloc (.cells #[.int .u32 (c : Int), .int .i64 d] 28)).alloc (.cells #[.int .u32 0, .int .i64 0] 28) := ⟨_, rfl⟩
  rw [← hw1] at h3
  obtain ⟨hA, hz1, hg2, hg3, hg4⟩ := h3
  have Hg := Lib.hid (And.intro hg2 (And.intro hg3 hg4))
  clear hg2 hg3 hg4
  by_cases e1 : Nt.err a b = 0
  · rw [e1] at HF1
    by_cases e2 : Nt.err c d = 0
    · rw [e2] at HF2
      have hj : Nt.joinErr a b c d = 0 := by unfold Nt.joinErr; rw [if_neg (by omega)]; exact e2
      obtain ⟨b0, b1, _⟩ := Nt.err_zero e1
      obtain ⟨c0, c1, _⟩ := Nt.err_zero e2
      have HJ : Hid (Nt.joinAddr a b c d = Nt.cut a (Nt.common a c (min b.toNat d.toNat)) ∧ Nt.joinBits a b c d = Nt.common a c (min b.toNat d.toNat) ∧ Nt.joinErr a b c d = 0) := Lib.hid ⟨by unfold Nt.joinAddr; rw [if_pos hj], by unfold Nt.joinBits; rw [if_pos hj], hj⟩
      have hJl := Nt.common_le a c (min b.toNat d.toNat)
      have HJe := Lib.hid (Nt.common_eq a c ha hc (min b.toNat d.toNat))
      have HJm := Lib.hid (Nt.common_max a c (min b.toNat d.toNat))
      have He := Lib.hid (And.intro e1 e2)
      clear hj e1 e2
      generalize Nt.common a c (min b.toNat d.toNat) = J at *
      have hJb : (J : Int) ≤ b ∧ (J : Int) ≤ d ∧ J ≤ 32 := by omega
      go_enter Try.func62, Try.ntmps62
      go_wp2_with fail
      rw [← hw1]
      refine (HF1.out _).mono ?_
      rintro e w2 ⟨rfl, hb2⟩
      obtain ⟨p0, p1⟩ := net_cells Hg.out.2.1 hb2
      go_wp2_with fail
      refine (HF2.out _).mono ?_
      rintro e w3 ⟨rfl, hb3⟩
      have HB3 := Lib.hid (hb2.trans (hb3.mono hb2.size))
      clear p0 p1 hb2 hb3
      go_wp2
      go_loopw [8] (fun i wr => ∃ k : Nat, J ≤ k ∧ k ≤ 32 ∧ i = .int .i64 k ∧ Hid (Below w1.heap.size w1 wr)) (fun i _ => (intOf i).toNat)
      case atStart => exact ⟨32, by omega, Nat.le_refl _, rfl, HB3⟩
      case round =>
        obtain ⟨k, hJk, hk, rfl, HB⟩ := hrel
        obtain ⟨wo, hwo⟩ : ∃ wo, wo = wr := ⟨_, rfl⟩
        subst hwo
        obtain ⟨o1, o2, o3⟩ := of_good a k hk
        have HO := Lib.hid (fun W => ref_NetOf a (k : Int) W ha)
        have HH1 := Lib.hid (fun W => ref_NetHolds (Nt.cut a k) (k : Int) a b W (Nt.cut_lt a k ha) ha)
        have HH2 := Lib.hid (fun W => ref_NetHolds (Nt.cut a k) (k : Int) c d W (Nt.cut_lt a k ha) hc)
        rw [holds_own k hk He.out.1] at HH1
        rw [holds_other a k hk He.out.2] at HH2
        rw [o1, o2, o3] at HO
        unfold netV at HO HH1 HH2
        clear o1 o2 o3
        obtain ⟨p0, p1⟩ := net_cells Hg.out.1 HB.out
        obtain ⟨p2, p3⟩ := net_cells Hg.out.2.1 HB.out
        have hzo := HB.out.size
        clear p0 p1 p2 p3
        have hJk' : ¬ ((k : Int) ≤ b ∧ (k : Int) ≤ d ∧ Nt.cut c k = Nt.cut a k) → J ≤ k - 1 ∧ 1 ≤ k := by
          intro hn
          have hne : J ≠ k := by
            intro e
            subst e
            exact hn ⟨by omega, by omega, HJe.out.symm⟩
          omega
        obtain ⟨p0, p1⟩ := net_cells Hg.out.1 HB.out
        by_cases t1 : (k : Int) ≤ b
        · rw [decide_eq_true t1] at HH1
          by_cases t2 : (k : Int) ≤ d ∧ Nt.cut c k = Nt.cut a k
          · rw [decide_eq_true t2.1, decide_eq_true t2.2] at HH2
            obtain rfl : J = k := by have := HJm.out k (by omega) t2.2.symm; omega
            clear hJk'
            generalize Nt.cut a J = A at *
            go_wp2_with fail
            refine (HO.out _).mono ?_
            rintro e w4 ⟨rfl, hb4⟩
            have hB4 := HB.out.trans (hb4.mono HB.out.size)
            have hz4 : w.heap.size < w4.heap.size ∧ w.heap.size + 1 < w4.heap.size := by have := hB4.size; omega
            obtain ⟨hz5, hz6⟩ := hz4
            obtain ⟨p0, p1⟩ := net_cells Hg.out.1 hB4
            obtain ⟨p2, p3⟩ := net_cells Hg.out.2.1 hB4
            go_wp2_with fail
            refine (HH1.out _).mono ?_
            rintro e w5 ⟨rfl, hb5⟩
            have hB5 := (hB4.alloc hB4.size _).trans (hb5.mono (by simp; omega))
            obtain ⟨q0, q1⟩ := net_cells (heap_alloc_last w4 _) hb5
            obtain ⟨q2, q3⟩ := net_cells Hg.out.2.1 hB5
            go_wp2_with fail
            refine (HH2.out _).mono ?_
            rintro e w6 ⟨rfl, hb6⟩
            have hB6 := hB5.trans (hb6.mono hB5.size)
            obtain ⟨r0, r1⟩ := net_cells (heap_alloc_last w4 _) (hb5.trans (hb6.mono hb5.size))
            have R4 := own_below2 (own_two (base := w.heap.size) Hg.out.2.2 (by omega)) hB6
            obtain ⟨g0, g1⟩ := two_cells R4
            have f0 := R4.frozenAt 0
            have f1 := R4.frozenAt 1
            have R5 := two_set R4 (.int .u32 (A : Int)) (.int .i64 (J : Int))
            have hB7 := hA.trans (hB6.mono (by omega))
            go_wp2
            exact bodyPost_ret (net_ret Try.results62 rfl rfl R5) rfl ⟨ret_net_err (by rw [HJ.out.1, HJ.out.2.1]) (by rw [HJ.out.2.2]; rfl), (hB7.setCell (by show w.heap.size ≤ w.heap.size + 1 + 1; omega) _).setCell (by show w.heap.size ≤ w.heap.size + 1 + 1; omega) _⟩
          · have hf : (decide ((k : Int) ≤ d) && decide (Nt.cut c k = Nt.cut a k)) = false := by
              by_cases h1 : (k : Int) ≤ d
              · rw [decide_eq_false (fun h2 => t2 ⟨h1, h2⟩), Bool.and_false]
              · rw [decide_eq_false h1]; rfl
            rw [hf] at HH2
            obtain ⟨hJ1, hk1⟩ := hJk' (fun h => t2 h.2)
            clear hf t2 hJk'
            generalize Nt.cut a k = A at *
            go_wp2_with fail
            refine (HO.out _).mono ?_
            rintro e w4 ⟨rfl, hb4⟩
            have hB4 := HB.out.trans (hb4.mono HB.out.size)
            have hz4 : w.heap.size < w4.heap.size ∧ w.heap.size + 1 < w4.heap.size := by have := hB4.size; omega
            obtain ⟨hz5, hz6⟩ := hz4
            obtain ⟨p0, p1⟩ := net_cells Hg.out.1 hB4
            obtain ⟨p2, p3⟩ := net_cells Hg.out.2.1 hB4
            go_wp2_with fail
            refine (HH1.out _).mono ?_
            rintro e w5 ⟨rfl, hb5⟩
            have hB5 := (hB4.alloc hB4.size _).trans (hb5.mono (by simp; omega))
            obtain ⟨q0, q1⟩ := net_cells (heap_alloc_last w4 _) hb5
            obtain ⟨q2, q3⟩ := net_cells Hg.out.2.1 hB5
            go_wp2_with fail
            refine (HH2.out _).mono ?_
            rintro e w6 ⟨rfl, hb6⟩
            have hB6 := hB5.trans (hb6.mono hB5.size)
            go_wp2
            go_roundw
            case rel => exact ⟨k - 1, hJ1, by omega, by rw [show ((k - 1 : Nat) : Int) = (k : Int) - 1 by omega], Lib.hid hB6⟩
            case measure => simp [intOf]; omega
        · rw [decide_eq_false t1] at HH1
          obtain ⟨hJ1, hk1⟩ := hJk' (fun h => t1 h.1)
          clear hJk'
          generalize Nt.cut a k = A at *
          go_wp2_with fail
          refine (HO.out _).mono ?_
          rintro e w4 ⟨rfl, hb4⟩
          have hB4 := HB.out.trans (hb4.mono HB.out.size)
          have hz4 : w.heap.size < w4.heap.size ∧ w.heap.size + 1 < w4.heap.size := by have := hB4.size; omega
          obtain ⟨hz5, hz6⟩ := hz4
          obtain ⟨p0, p1⟩ := net_cells Hg.out.1 hB4
          obtain ⟨p2, p3⟩ := net_cells Hg.out.2.1 hB4
          go_wp2_with fail
          refine (HH1.out _).mono ?_
          rintro e w5 ⟨rfl, hb5⟩
          have hB5 := (hB4.alloc hB4.size _).trans (hb5.mono (by simp; omega))
          go_wp2
          go_roundw
          case rel => exact ⟨k - 1, hJ1, by omega, by rw [show ((k - 1 : Nat) : Int) = (k : Int) - 1 by omega], Lib.hid hB5⟩
          case measure => simp [intOf]; omega
    · have hj : Nt.joinErr a b c d = Nt.err c d := by unfold Nt.joinErr; rw [if_neg (by omega)]
      have HJ : Hid (Nt.joinAddr a b c d = 0 ∧ Nt.joinBits a b c d = 0 ∧ Nt.joinErr a b c d = Nt.err c d) := Lib.hid ⟨by unfold Nt.joinAddr; rw [if_neg (by omega)], by unfold Nt.joinBits; rw [if_neg (by omega)], hj⟩
      have hn : ((Nt.err c d : Int) != 0) = true := by simpa using e2
      clear hj e1 e2
      generalize Nt.err c d = r at *
      go_enter Try.func62, Try.ntmps62
      go_wp2_with fail
      rw [← hw1]
      refine (HF1.out _).mono ?_
      rintro e w2 ⟨rfl, hb2⟩
      obtain ⟨p0, p1⟩ := net_cells Hg.out.2.1 hb2
      go_wp2_with fail
      refine (HF2.out _).mono ?_
      rintro e w3 ⟨rfl, hb3⟩
      have hB3 := hb2.trans (hb3.mono hb2.size)
      have R4 := own_below2 (own_two (base := w.heap.size) Hg.out.2.2 (by omega)) hB3
      obtain ⟨g0, g1⟩ := two_cells R4
      have f0 := R4.frozenAt 0
      have f1 := R4.frozenAt 1
      have R5 := two_set R4 (.int .u32 0) (.int .i64 0)
      have hB7 := hA.trans (hB3.mono (by omega))
      clear p0 p1 hb2 hb3
      go_wp2
      exact bodyPost_ret (net_ret Try.results62 rfl rfl R5) rfl ⟨ret_net_err (by rw [HJ.out.1, HJ.out.2.1]; rfl) (by rw [HJ.out.2.2]), (hB7.setCell (by show w.heap.size ≤ w.heap.size + 1 + 1; omega) _).setCell (by show w.heap.size ≤ w.heap.size + 1 + 1; omega) _⟩
  · have hj : Nt.joinErr a b c d = Nt.err a b := by unfold Nt.joinErr; rw [if_pos e1]
    have HJ : Hid (Nt.joinAddr a b c d = 0 ∧ Nt.joinBits a b c d = 0 ∧ Nt.joinErr a b c d = Nt.err a b) := Lib.hid ⟨by unfold Nt.joinAddr; rw [if_neg (by omega)], by unfold Nt.joinBits; rw [if_neg (by omega)], hj⟩
    have hn : ((Nt.err a b : Int) != 0) = true := by simpa using e1
    clear hj e1
    generalize Nt.err a b = r at *
    go_enter Try.func62, Try.ntmps62
    go_wp2_with fail
    rw [← hw1]
    refine (HF1.out _).mono ?_
    rintro e w2 ⟨rfl, hb2⟩
    have R4 := own_below2 (own_two (base := w.heap.size) Hg.out.2.2 (by omega)) hb2
    obtain ⟨g0, g1⟩ := two_cells R4
    have f0 := R4.frozenAt 0
    have f1 := R4.frozenAt 1
    have R5 := two_set R4 (.int .u32 0) (.int .i64 0)
    have hB7 := hA.trans (hb2.mono (by omega))
    clear hb2
    go_wp2
    exact bodyPost_ret (net_ret Try.results62 rfl rfl R5) rfl ⟨ret_net_err (by rw [HJ.out.1, HJ.out.2.1]; rfl) (by rw [HJ.out.2.2]), (hB7.setCell (by show w.heap.size ≤ w.heap.size + 1 + 1; omega) _).setCell (by show w.heap.size ≤ w.heap.size + 1 + 1; omega) _⟩
end Go.Proofs.Ytldfamdjdkaloaa
