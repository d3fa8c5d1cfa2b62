/- The contract of the reference's grown. -/
import Derived.Test.YtjdflnnpamjjcaaGreatDoorSz06
import Derived.Deep.RegionWith
import Derived.IntWalk
import Derived.Laws.StructEq
import Derived.Test.YtjdflnnpamjjcaaGreatDoorSz12
import Derived.Test.YtjdflnnpamjjcaaGreatDoorSz13
namespace Go.Proofs.YtjdflnnpamjjcaaGreatDoor
open Go.RowKit

set_option maxRecDepth 20000 in
set_option maxHeartbeats 1600000 in
theorem ref_NetOf (a : Nat) (b : Int) (w : World) (ha : a < 4294967296) :
    Calls Tryz.prog 58 #[.int .u32 (a : Int), .int .i64 b] w fun e w' => e = .returned (.tuple #[netV (Nt.ofAddr a b) (Nt.ofBits b), .int .i64 (Nt.ofErr b : Int)]) ∧ Below w.heap.size w w' := by
  have R4 := own_two (w := w.alloc (.cells #[.int .u32 0, .int .i64 0] 47)) (base := w.heap.size) (heap_alloc_last w _) (Nat.le_refl _)
  have hA : Below w.heap.size w (w.alloc (.cells #[.int .u32 0, .int .i64 0] 47)) := (Below.refl _ _).alloc (Nat.le_refl _) _
  unfold netV
  by_cases h : b < 0 ∨ 32 < b
  · have H1 := Lib.hid (show Nt.ofAddr a b = 0 by unfold Nt.ofAddr; rw [if_pos h])
    have H2 := Lib.hid (show Nt.ofBits b = 0 by unfold Nt.ofBits; rw [if_pos h])
    have H3 := Lib.hid (show Nt.ofErr b = 4 by unfold Nt.ofErr; rw [if_pos h])
    rcases h with h | h
    · have d1 : decide (b < 0) = true := decide_eq_true h
      go_enter Tryz.func58, Tryz.ntmps58
      go_wp2
      exact bodyPost_ret (net_ret Tryz.results58 rfl rfl R4) rfl ⟨ret_net_err (by rw [H1.out, H2.out]; rfl) (by rw [H3.out]; rfl), hA⟩
    · have d1 : decide (b < 0) = false := decide_eq_false (by omega)
      have d2 : decide (32 < b) = true := decide_eq_true h
      go_enter Tryz.func58, Tryz.ntmps58
      go_wp2
      exact bodyPost_ret (net_ret Tryz.results58 rfl rfl R4) rfl ⟨ret_net_err (by rw [H1.out, H2.out]; rfl) (by rw [H3.out]; rfl), hA⟩
  · obtain ⟨n, rfl⟩ : ∃ n : Nat, b = (n : Int) := ⟨b.toNat, by omega⟩
    have hn : n ≤ 32 := by omega
    have H1 := Lib.hid (show Nt.ofAddr a n = Nt.cut a n by unfold Nt.ofAddr; rw [if_neg h, Int.toNat_natCast])
    have H2 := Lib.hid (show Nt.ofBits n = n by unfold Nt.ofBits; rw [if_neg h])
    have H3 := Lib.hid (show Nt.ofErr n = 0 by unfold Nt.ofErr; rw [if_neg h])
    have d1 : decide ((n : Int) < 0) = false := decide_eq_false (by omega)
    have d2 : decide (32 < (n : Int)) = false := decide_eq_false (by omega)
    clear h
    have R6 := own_two (base := w.heap.size) (heap_alloc_last (w.alloc (.cells #[.int .u32 0, .int .i64 0] 47)) (.cells #[.int .u32 0, .int .i64 (n : Int)] 47)) (by simp)
    rw [show (w.alloc (.cells #[.int .u32 0, .int .i64 0] 47)).heap.size = w.heap.size + 1 by simp] at R6
    have R4' := own_below2 R4 ((Below.refl _ _).alloc (Nat.le_refl _) (.cells #[.int .u32 0, .int .i64 (n : Int)] 47))
    have HR := Lib.hid (And.intro R6 (And.intro R4' (hA.alloc (by simp) (.cells #[.int .u32 0, .int .i64 (n : Int)] 47))))
    clear R4 R4' R6 hA
    go_enter Tryz.func58, Tryz.ntmps58
    go_wp2
    go_loopw [7] (fun i wr => ∃ k : Nat, k ≤ n ∧ i = .int .i64 k ∧ Hid (wr.ownsRow w.heap.size 47 1 (.slice (some ⟨w.heap.size + 1, 0, none⟩) 2 2) 2 [.int .u32 (Nt.cut a k : Int), .int .i64 (n : Int)] ∧ wr.ownsRow w.heap.size 47 1 (.slice (some ⟨w.heap.size, 0, none⟩) 2 2) 2 [.int .u32 0, .int .i64 0] ∧ Below w.heap.size w wr)) (fun i _ => n - (intOf i).toNat)
    case atStart => exact ⟨0, Nat.zero_le _, rfl, Lib.hid (by rw [Nt.cut_zero a ha]; exact HR.out)⟩
    case round =>
      obtain ⟨k, hk, rfl, HW⟩ := hrel
      obtain ⟨wo, hwo⟩ : ∃ wo, wo = wr := ⟨_, rfl⟩
      subst hwo
      have hk32 : k ≤ 32 := by omega
      by_cases hlt : k < n
      · have HB := Lib.hid (fun W => ref_bit a k W ha (by omega))
        obtain ⟨c0, c1⟩ := two_cells HW.out.1
        have f0 := HW.out.1.frozenAt 0
        have hst := Nt.cut_step a k (by omega)
        have hcl := Nt.cut_lt a (k + 1) ha
        have hsub : (31 : Int) - (k : Int) = ((31 - k : Nat) : Int) := by omega
        have hx : a / 2 ^ (31 - k) % 2 < 2 := Nat.mod_lt _ (by decide)
        have hsl := bit_shl (a / 2 ^ (31 - k) % 2) (31 - k) hx (by omega)
        have hkk : 31 - k ≤ 31 := by omega
        rw [hst] at hcl
        have hw := u32_in _ hcl
        rw [Int.natCast_add] at hw
        have Hst := Lib.hid hst
        clear hst
        generalize a / 2 ^ (31 - k) % 2 = x at *
        generalize hy : x * 2 ^ (31 - k) = y at *
        generalize 31 - k = j at *
        have hjw : IntKind.i64.wrap (j : Int) = (j : Int) := IntWalk.i64_in _ (by omega)
        generalize Nt.cut a k = A at *
        clear hy
        go_wp2_with fail
        go_region_with (go_at_call 41; refine (HB.out _).mono ?_; rintro e w' ⟨rfl, rfl⟩)
        all_goals
          go_wp2
          go_roundw
          case rel => exact ⟨k + 1, by omega, by go_num, Lib.hid (by rw [Hst.out]; exact ⟨((HW.out.1.stored 0 _).1).drew, (HW.out.2.1.kept (HW.out.1.stored 0 _).2 (.inr (by simp [Value.ownBlock]))).drew, (HW.out.2.2.setCell (by simp) _).drew⟩)⟩
          case measure => simp [intOf]; omega
      · obtain rfl : k = n := by omega
        have R6 := HW.out.1
        have R4 := HW.out.2.1
        have hB := HW.out.2.2
        obtain ⟨c0, c1⟩ := two_cells R6
        obtain ⟨g0, g1⟩ := two_cells R4
        have f0 := R4.frozenAt 0
        have f1 := R4.frozenAt 1
        have R5 := two_set R4 (.int .u32 (Nt.cut a k : Int)) (.int .i64 (k : Int))
        generalize Nt.cut a k = A at *
        go_wp2
        exact bodyPost_ret (net_ret Tryz.results58 rfl rfl R5) rfl ⟨ret_net_err (by rw [H1.out, H2.out]) (by rw [H3.out]; rfl), (hB.setCell (by simp) _).setCell (by simp) _⟩
end Go.Proofs.YtjdflnnpamjjcaaGreatDoor

namespace Go.Proofs.YtjdflnnpamjjcaaGreatDoor
open Go.RowKit

set_option maxRecDepth 20000 in
set_option maxHeartbeats 800000 in
theorem ref_NetHas (a : Nat) (b : Int) (x : Nat) (w : World) (ha : a < 4294967296) (hx : x < 4294967296) :
    Calls Tryz.prog 85 #[netV a b, .int .u32 (x : Int)] w fun e w' => e = .returned (.bool (Nt.has a b x)) ∧ Below w.heap.size w w' := by
  obtain ⟨w1, hw1⟩ : ∃ w1, w1 = w.alloc (.cells #[.int .u32 (a : Int), .int .i64 b] 47) := ⟨_, rfl⟩
  have hg1 : w1.heap[w.heap.size]? = some (.cells #[.int .u32 (a : Int), .int .i64 b] 47 (0, 0)) := by rw [hw1]; exact heap_alloc_last w _
  have hA : Below w.heap.size w w1 := by rw [hw1]; exact (Below.refl _ _).alloc (Nat.le_refl _) _
  have hz1 : w1.heap.size = w.heap.size + 1 := by rw [hw1]; simp
  have HO := Lib.hid (fun W => ref_NetOf x b W hx)
  have HF := Lib.hid (fun W => ref_NetFault a b W ha)
  unfold netV at HO HF ⊢
  have Hg1 := Lib.hid hg1
  clear hg1
  by_cases hbad : b < 0 ∨ 32 < b
  · have Hr := Lib.hid (show Nt.has a b x = false by unfold Nt.has Nt.err; rw [if_pos hbad]; rfl)
    have e3 : Nt.ofErr b = 4 := by unfold Nt.ofErr; rw [if_pos hbad]
    rw [e3] at HO
    generalize Nt.ofAddr x b = A at *
    generalize Nt.ofBits b = B at *
    clear e3 hbad
    obtain ⟨c0, c1⟩ := net_cells Hg1.out (Below.refl _ _)
    go_enter Tryz.func85, Tryz.ntmps85
    go_wp2_with fail
    rw [← hw1]
    refine (HO.out _).mono ?_
    rintro e w2 ⟨rfl, hb2⟩
    have hB2 := hA.trans (hb2.mono (by omega))
    go_wp2
    go_ret
    exact ⟨by rw [Hr.out]; rfl, hB2.alloc hB2.size _⟩
  · have e1 : Nt.ofAddr x b = Nt.cut x b.toNat := by unfold Nt.ofAddr; rw [if_neg hbad]
    have e2 : Nt.ofBits b = b := by unfold Nt.ofBits; rw [if_neg hbad]
    have e3 : Nt.ofErr b = 0 := by unfold Nt.ofErr; rw [if_neg hbad]
    rw [e1, e2, e3] at HO
    clear e1 e2 e3
    rcases Nt.err_cases a b with ⟨h, _⟩ | ⟨_, _, h3, he⟩ | ⟨_, _, h3, he⟩
    · exact absurd h hbad
    · rw [he] at HF
      have Hr : Hid (Nt.has a b x = decide (Nt.cut x b.toNat = a)) := Lib.hid (by unfold Nt.has; rw [he]; rfl)
      clear h3 he hbad
      generalize Nt.cut x b.toNat = A at *
      by_cases hq : A = a
      · subst hq
        go_enter Tryz.func85, Tryz.ntmps85
        go_wp2_with fail
        rw [← hw1]
        refine (HO.out _).mono ?_
        rintro e w2 ⟨rfl, hb2⟩
        have hB2 := hA.trans (hb2.mono (by omega))
        have hz2 : w.heap.size < w2.heap.size := by have := hb2.size; omega
        obtain ⟨c0, c1⟩ := net_cells Hg1.out hb2
        go_wp2_with fail
        refine (HF.out _).mono ?_
        rintro e w3 ⟨rfl, hb3⟩
        have hB3 := (hB2.alloc hB2.size _).trans (hb3.mono (by simp; omega))
        obtain ⟨d0, d1⟩ := net_cells (heap_alloc_last w2 _) hb3
        obtain ⟨g0, g1⟩ := net_cells (w := w1) Hg1.out (hb2.trans ((((Below.refl _ _).alloc (Nat.le_refl _) _).trans (hb3.mono (by simp))).mono hb2.size))
        go_wp2
        go_ret
        exact ⟨by rw [Hr.out]; simp, hB3⟩
      · have q1 : ((A : Int) == (a : Int)) = false := by simp; omega
        go_enter Tryz.func85, Tryz.ntmps85
        go_wp2_with fail
        rw [← hw1]
        refine (HO.out _).mono ?_
        rintro e w2 ⟨rfl, hb2⟩
        have hB2 := hA.trans (hb2.mono (by omega))
        have hz2 : w.heap.size < w2.heap.size := by have := hb2.size; omega
        obtain ⟨c0, c1⟩ := net_cells Hg1.out hb2
        go_wp2_with fail
        refine (HF.out _).mono ?_
        rintro e w3 ⟨rfl, hb3⟩
        have hB3 := (hB2.alloc hB2.size _).trans (hb3.mono (by simp; omega))
        obtain ⟨d0, d1⟩ := net_cells (heap_alloc_last w2 _) hb3
        obtain ⟨g0, g1⟩ := net_cells (w := w1) Hg1.out (hb2.trans ((((Below.refl _ _).alloc (Nat.le_refl _) _).trans (hb3.mono (by simp))).mono hb2.size))
        go_wp2
        go_ret
        exact ⟨by rw [Hr.out, decide_eq_false hq]; rfl, hB3⟩
    · rw [he] at HF
      have Hr : Hid (Nt.has a b x = false) := Lib.hid (by unfold Nt.has; rw [he]; rfl)
      clear h3 he hbad
      generalize Nt.cut x b.toNat = A at *
      go_enter Tryz.func85, Tryz.ntmps85
      go_wp2_with fail
      rw [← hw1]
      refine (HO.out _).mono ?_
      rintro e w2 ⟨rfl, hb2⟩
      have hB2 := hA.trans (hb2.mono (by omega))
      have hz2 : w.heap.size < w2.heap.size := by have := hb2.size; omega
      obtain ⟨c0, c1⟩ := net_cells Hg1.out hb2
      go_wp2_with fail
      refine (HF.out _).mono ?_
      rintro e w3 ⟨rfl, hb3⟩
      have hB3 := (hB2.alloc hB2.size _).trans (hb3.mono (by simp; omega))
      go_wp2
      go_ret
      exact ⟨by rw [Hr.out]; rfl, hB3⟩

set_option maxRecDepth 20000 in
set_option maxHeartbeats 800000 in
theorem ref_NetHolds (a : Nat) (b : Int) (c : Nat) (d : Int) (w : World) (ha : a < 4294967296) (hc : c < 4294967296) :
    Calls Tryz.prog 59 #[netV a b, netV c d] w fun e w' => e = .returned (.bool (Nt.holds a b c d)) ∧ Below w.heap.size w w' := by
  have h2 := two_nets w (.int .u32 (a : Int)) (.int .i64 b) (.int .u32 (c : Int)) (.int .i64 d)
  have HF := Lib.hid (fun W => ref_NetFault c d W hc)
  have HH := Lib.hid (fun W => ref_NetHas a b c W ha hc)
  unfold netV at HF HH ⊢
  obtain ⟨w1, hw1⟩ : ∃ w1, w1 = (w.alloc (.cells #[.int .u32 (a : Int), .int .i64 b] 47)).alloc (.cells #[.int .u32 (c : Int), .int .i64 d] 47) := ⟨_, rfl⟩
  rw [← hw1] at h2
  obtain ⟨hA, hz1, hg2, hg3⟩ := h2
  have Hg := Lib.hid (And.intro hg2 hg3)
  clear hg2 hg3
  by_cases he : Nt.err c d = 0
  · rw [he] at HF
    by_cases hbd : b ≤ d
    · have Hr := Lib.hid (show Nt.holds a b c d = Nt.has a b c by unfold Nt.holds; rw [he, decide_eq_true hbd]; rfl)
      have q1 : decide (b ≤ d) = true := decide_eq_true hbd
      clear he
      generalize Nt.has a b c = r at *
      obtain ⟨c0, c1⟩ := net_cells Hg.out.2 (Below.refl _ _)
      go_enter Tryz.func59, Tryz.ntmps59
      go_wp2_with fail
      rw [← hw1]
      refine (HF.out _).mono ?_
      rintro e w2 ⟨rfl, hb2⟩
      have hB2 := hA.trans (hb2.mono (by omega))
      obtain ⟨d0, d1⟩ := net_cells Hg.out.1 hb2
      obtain ⟨e0, e1⟩ := net_cells Hg.out.2 hb2
      clear c0 c1
      go_wp2_with fail
      refine (HH.out _).mono ?_
      rintro e w3 ⟨rfl, hb3⟩
      have hB3 := hB2.trans (hb3.mono hB2.size)
      go_wp2
      go_ret
      exact ⟨by rw [Hr.out]; rfl, hB3⟩
    · have Hr := Lib.hid (show Nt.holds a b c d = false by unfold Nt.holds; rw [decide_eq_false hbd, Bool.and_false]; rfl)
      have q1 : decide (b ≤ d) = false := decide_eq_false hbd
      clear he
      obtain ⟨c0, c1⟩ := net_cells Hg.out.2 (Below.refl _ _)
      go_enter Tryz.func59, Tryz.ntmps59
      go_wp2_with fail
      rw [← hw1]
      refine (HF.out _).mono ?_
      rintro e w2 ⟨rfl, hb2⟩
      have hB2 := hA.trans (hb2.mono (by omega))
      obtain ⟨d0, d1⟩ := net_cells Hg.out.1 hb2
      obtain ⟨e0, e1⟩ := net_cells Hg.out.2 hb2
      clear c0 c1
      go_wp2
      go_ret
      exact ⟨by rw [Hr.out]; rfl, hB2⟩
  · have Hr := Lib.hid (show Nt.holds a b c d = false by unfold Nt.holds; rw [decide_eq_false he]; rfl)
    have hn : ((Nt.err c d : Int) == 0) = false := by simpa using he
    clear he
    generalize Nt.err c d = r at *
    obtain ⟨c0, c1⟩ := net_cells Hg.out.2 (Below.refl _ _)
    go_enter Tryz.func59, Tryz.ntmps59
    go_wp2_with fail
    rw [← hw1]
    refine (HF.out _).mono ?_
    rintro e w2 ⟨rfl, hb2⟩
    have hB2 := hA.trans (hb2.mono (by omega))
    clear c0 c1
    go_wp2
    go_ret
    exact ⟨by rw [Hr.out]; rfl, hB2⟩

end Go.Proofs.YtjdflnnpamjjcaaGreatDoor

namespace Go.Proofs.YtjdflnnpamjjcaaGreatDoor
open Go.RowKit

theorem holds_own {a : Nat} {b : Int} (k : Nat) (hk : k ≤ 32) (he : Nt.err a b = 0) : Nt.holds (Nt.cut a k) (k : Int) a b = decide ((k : Int) ≤ b) := by
  unfold Nt.holds Nt.has
  rw [he, Nt.err_of hk (Nt.cut_mod a k), Int.toNat_natCast]
  simp
theorem holds_other (a : Nat) {c : Nat} {d : Int} (k : Nat) (hk : k ≤ 32) (he : Nt.err c d = 0) : Nt.holds (Nt.cut a k) (k : Int) c d = (decide ((k : Int) ≤ d) && decide (Nt.cut c k = Nt.cut a k)) := by
  unfold Nt.holds Nt.has
  rw [he, Nt.err_of hk (Nt.cut_mod a k), Int.toNat_natCast]
  simp
theorem of_good (a k : Nat) (hk : k ≤ 32) : Nt.ofAddr a (k : Int) = Nt.cut a k ∧ Nt.ofBits (k : Int) = (k : Int) ∧ Nt.ofErr (k : Int) = 0 := by
  have h : ¬ ((k : Int) < 0 ∨ 32 < (k : Int)) := by omega
  unfold Nt.ofAddr Nt.ofBits Nt.ofErr
  rw [if_neg h, if_neg h, if_neg h, Int.toNat_natCast]
  exact ⟨rfl, rfl, rfl⟩
set_option maxRecDepth 20000 in
set_option maxHeartbeats 1600000 in
theorem ref_NetJoined (a : Nat) (b : Int) (c : Nat) (d : Int) (w : World) (ha : a < 4294967296) (hc : c < 4294967296) :
    Calls Tryz.prog 40 #[netV a b, netV c d] w fun e w' => e = .returned (.tuple #[netV (Nt.joinAddr a b c d) (Nt.joinBits a b c d : Int), .int .i64 (Nt.joinErr a b c d : Int)]) ∧ Below w.heap.size w w' := by
  have h3 := three_nets w (.int .u32 (a : Int)) (.int .i64 b) (.int .u32 (c : Int)) (.int .i64 d)
  have HF1 := Lib.hid (fun W => ref_NetFault a b W ha)
  have HF2 := Lib.hid (fun W => ref_NetFault c d W hc)
  unfold netV at HF1 HF2 ⊢
  obtain ⟨w1, hw1⟩ : ∃ w1, w1 = ((w.alloc (.cells #[.int .u32 (a : Int), .int .i64 b] 47)).alloc (.cells #[.int .u32 (c : Int), .int .i64 d] 47)).alloc (.cells #[.int .u32 0, .int .i64 0] 47) := ⟨_, rfl⟩
  rw [← hw1] at h3
  obtain ⟨hA, hz1, hg2, hg3, hg4⟩ := h3
  have Hg := Lib.hid (And.intro hg2 (And.intro hg3 hg4))
  clear hg2 hg3 hg4
  by_cases e1 : Nt.err a b = 0
  · rw [e1] at HF1
    by_cases e2 : Nt.err c d = 0
    · rw [e2] at HF2
      have hj : Nt.joinErr a b c d = 0 := by unfold Nt.joinErr; rw [if_neg (by omega)]; exact e2
      obtain ⟨b0, b1, _⟩ := Nt.err_zero e1
      obtain ⟨c0, c1, _⟩ := Nt.err_zero e2
      have HJ : Hid (Nt.joinAddr a b c d = Nt.cut a (Nt.common a c (min b.toNat d.toNat)) ∧ Nt.joinBits a b c d = Nt.common a c (min b.toNat d.toNat) ∧ Nt.joinErr a b c d = 0) := Lib.hid ⟨by unfold Nt.joinAddr; rw [if_pos hj], by unfold Nt.joinBits; rw [if_pos hj], hj⟩
      have hJl := Nt.common_le a c (min b.toNat d.toNat)
      have HJe := Lib.hid (Nt.common_eq a c ha hc (min b.toNat d.toNat))
      have HJm := Lib.hid (Nt.common_max a c (min b.toNat d.toNat))
      have He := Lib.hid (And.intro e1 e2)
      clear hj e1 e2
      generalize Nt.common a c (min b.toNat d.toNat) = J at *
      have hJb : (J : Int) ≤ b ∧ (J : Int) ≤ d ∧ J ≤ 32 := by omega
      go_enter Tryz.func40, Tryz.ntmps40
      go_wp2_with fail
      rw [← hw1]
      refine (HF1.out _).mono ?_
      rintro e w2 ⟨rfl, hb2⟩
      obtain ⟨p0, p1⟩ := net_cells Hg.out.2.1 hb2
      go_wp2_with fail
      refine (HF2.out _).mono ?_
      rintro e w3 ⟨rfl, hb3⟩
      have HB3 := Lib.hid (hb2.trans (hb3.mono hb2.size))
      clear p0 p1 hb2 hb3
      go_wp2
      go_loopw [8] (fun i wr => ∃ k : Nat, J ≤ k ∧ k ≤ 32 ∧ i = .int .i64 k ∧ Hid (Below w1.heap.size w1 wr)) (fun i _ => (intOf i).toNat)
      case atStart => exact ⟨32, by omega, Nat.le_refl _, rfl, HB3⟩
      case round =>
        obtain ⟨k, hJk, hk, rfl, HB⟩ := hrel
        obtain ⟨wo, hwo⟩ : ∃ wo, wo = wr := ⟨_, rfl⟩
        subst hwo
        obtain ⟨o1, o2, o3⟩ := of_good a k hk
        have HO := Lib.hid (fun W => ref_NetOf a (k : Int) W ha)
        have HH1 := Lib.hid (fun W => ref_NetHolds (Nt.cut a k) (k : Int) a b W (Nt.cut_lt a k ha) ha)
        have HH2 := Lib.hid (fun W => ref_NetHolds (Nt.cut a k) (k : Int) c d W (Nt.cut_lt a k ha) hc)
        rw [holds_own k hk He.out.1] at HH1
        rw [holds_other a k hk He.out.2] at HH2
        rw [o1, o2, o3] at HO
        unfold netV at HO HH1 HH2
        clear o1 o2 o3
        obtain ⟨p0, p1⟩ := net_cells Hg.out.1 HB.out
        obtain ⟨p2, p3⟩ := net_cells Hg.out.2.1 HB.out
        have hzo := HB.out.size
        clear p0 p1 p2 p3
        have hJk' : ¬ ((k : Int) ≤ b ∧ (k : Int) ≤ d ∧ Nt.cut c k = Nt.cut a k) → J ≤ k - 1 ∧ 1 ≤ k := by
          intro hn
          have hne : J ≠ k := by
            intro e
            subst e
            exact hn ⟨by omega, by omega, HJe.out.symm⟩
          omega
        obtain ⟨p0, p1⟩ := net_cells Hg.out.1 HB.out
        by_cases t1 : (k : Int) ≤ b
        · rw [decide_eq_true t1] at HH1
          by_cases t2 : (k : Int) ≤ d ∧ Nt.cut c k = Nt.cut a k
          · rw [decide_eq_true t2.1, decide_eq_true t2.2] at HH2
            obtain rfl : J = k := by have := HJm.out k (by omega) t2.2.symm; omega
            clear hJk'
            generalize Nt.cut a J = A at *
            go_wp2_with fail
            refine (HO.out _).mono ?_
            rintro e w4 ⟨rfl, hb4⟩
            have hB4 := HB.out.trans (hb4.mono HB.out.size)
            have hz4 : w.heap.size < w4.heap.size ∧ w.heap.size + 1 < w4.heap.size := by have := hB4.size; omega
            obtain ⟨hz5, hz6⟩ := hz4
            obtain ⟨p0, p1⟩ := net_cells Hg.out.1 hB4
            obtain ⟨p2, p3⟩ := net_cells Hg.out.2.1 hB4
            go_wp2_with fail
            refine (HH1.out _).mono ?_
            rintro e w5 ⟨rfl, hb5⟩
            have hB5 := (hB4.alloc hB4.size _).trans (hb5.mono (by simp; omega))
            obtain ⟨q0, q1⟩ := net_cells (heap_alloc_last w4 _) hb5
            obtain ⟨q2, q3⟩ := net_cells Hg.out.2.1 hB5
            go_wp2_with fail
            refine (HH2.out _).mono ?_
            rintro e w6 ⟨rfl, hb6⟩
            have hB6 := hB5.trans (hb6.mono hB5.size)
            obtain ⟨r0, r1⟩ := net_cells (heap_alloc_last w4 _) (hb5.trans (hb6.mono hb5.size))
            have R4 := own_below2 (own_two (base := w.heap.size) Hg.out.2.2 (by omega)) hB6
            obtain ⟨g0, g1⟩ := two_cells R4
            have f0 := R4.frozenAt 0
            have f1 := R4.frozenAt 1
            have R5 := two_set R4 (.int .u32 (A : Int)) (.int .i64 (J : Int))
            have hB7 := hA.trans (hB6.mono (by omega))
            go_wp2
            exact bodyPost_ret (net_ret Tryz.results40 rfl rfl R5) rfl ⟨ret_net_err (by rw [HJ.out.1, HJ.out.2.1]) (by rw [HJ.out.2.2]; rfl), (hB7.setCell (by show w.heap.size ≤ w.heap.size + 1 + 1; omega) _).setCell (by show w.heap.size ≤ w.heap.size + 1 + 1; omega) _⟩
          · have hf : (decide ((k : Int) ≤ d) && decide (Nt.cut c k = Nt.cut a k)) = false := by
              by_cases h1 : (k : Int) ≤ d
              · rw [decide_eq_false (fun h2 => t2 ⟨h1, h2⟩), Bool.and_false]
              · rw [decide_eq_false h1]; rfl
            rw [hf] at HH2
            obtain ⟨hJ1, hk1⟩ := hJk' (fun h => t2 h.2)
            clear hf t2 hJk'
            generalize Nt.cut a k = A at *
            go_wp2_with fail
            refine (HO.out _).mono ?_
            rintro e w4 ⟨rfl, hb4⟩
            have hB4 := HB.out.trans (hb4.mono HB.out.size)
            have hz4 : w.heap.size < w4.heap.size ∧ w.heap.size + 1 < w4.heap.size := by have := hB4.size; omega
            obtain ⟨hz5, hz6⟩ := hz4
            obtain ⟨p0, p1⟩ := net_cells Hg.out.1 hB4
            obtain ⟨p2, p3⟩ := net_cells Hg.out.2.1 hB4
            go_wp2_with fail
            refine (HH1.out _).mono ?_
            rintro e w5 ⟨rfl, hb5⟩
            have hB5 := (hB4.alloc hB4.size _).trans (hb5.mono (by simp; omega))
            obtain ⟨q0, q1⟩ := net_cells (heap_alloc_last w4 _) hb5
            obtain ⟨q2, q3⟩ := net_cells Hg.out.2.1 hB5
            go_wp2_with fail
            refine (HH2.out _).mono ?_
            rintro e w6 ⟨rfl, hb6⟩
            have hB6 := hB5.trans (hb6.mono hB5.size)
            go_wp2
            go_roundw
            case rel => exact ⟨k - 1, hJ1, by omega, by rw [show ((k - 1 : Nat) : Int) = (k : Int) - 1 by omega], Lib.hid hB6⟩
            case measure => simp [intOf]; omega
        · rw [decide_eq_false t1] at HH1
          obtain ⟨hJ1, hk1⟩ := hJk' (fun h => t1 h.1)
          clear hJk'
          generalize Nt.cut a k = A at *
          go_wp2_with fail
          refine (HO.out _).mono ?_
          rintro e w4 ⟨rfl, hb4⟩
          have hB4 := HB.out.trans (hb4.mono HB.out.size)
          have hz4 : w.heap.size < w4.heap.size ∧ w.heap.size + 1 < w4.heap.size := by have := hB4.size; omega
          obtain ⟨hz5, hz6⟩ := hz4
          obtain ⟨p0, p1⟩ := net_cells Hg.out.1 hB4
          obtain ⟨p2, p3⟩ := net_cells Hg.out.2.1 hB4
          go_wp2_with fail
          refine (HH1.out _).mono ?_
          rintro e w5 ⟨rfl, hb5⟩
          have hB5 := (hB4.alloc hB4.size _).trans (hb5.mono (by simp; omega))
          go_wp2
          go_roundw
          case rel => exact ⟨k - 1, hJ1, by omega, by rw [show ((k - 1 : Nat) : Int) = (k : Int) - 1 by omega], Lib.hid hB5⟩
          case measure => simp [intOf]; omega
    · have hj : Nt.joinErr a b c d = Nt.err c d := by unfold Nt.joinErr; rw [if_neg (by omega)]
      have HJ : Hid (Nt.joinAddr a b c d = 0 ∧ Nt.joinBits a b c d = 0 ∧ Nt.joinErr a b c d = Nt.err c d) := Lib.hid ⟨by unfold Nt.joinAddr; rw [if_neg (by omega)], by unfold Nt.joinBits; rw [if_neg (by omega)], hj⟩
      have hn : ((Nt.err c d : Int) != 0) = true := by simpa using e2
      clear hj e1 e2
      generalize Nt.err c d = r at *
      go_enter Tryz.func40, Tryz.ntmps40
      go_wp2_with fail
      rw [← hw1]
      refine (HF1.out _).mono ?_
      rintro e w2 ⟨rfl, hb2⟩
      obtain ⟨p0, p1⟩ := net_cells Hg.out.2.1 hb2
      go_wp2_with fail
      refine (HF2.out _).mono ?_
      rintro e w3 ⟨rfl, hb3⟩
      have hB3 := hb2.trans (hb3.mono hb2.size)
      have R4 := own_below2 (own_two (base := w.heap.size) Hg.out.2.2 (by omega)) hB3
      obtain ⟨g0, g1⟩ := two_cells R4
      have f0 := R4.frozenAt 0
      have f1 := R4.frozenAt 1
      have R5 := two_set R4 (.int .u32 0) (.int .i64 0)
      have hB7 := hA.trans (hB3.mono (by omega))
      clear p0 p1 hb2 hb3
      go_wp2
      exact bodyPost_ret (net_ret Tryz.results40 rfl rfl R5) rfl ⟨ret_net_err (by rw [HJ.out.1, HJ.out.2.1]; rfl) (by rw [HJ.out.2.2]), (hB7.setCell (by show w.heap.size ≤ w.heap.size + 1 + 1; omega) _).setCell (by show w.heap.size ≤ w.heap.size + 1 + 1; omega) _⟩
  · have hj : Nt.joinErr a b c d = Nt.err a b := by unfold Nt.joinErr; rw [if_pos e1]
    have HJ : Hid (Nt.joinAddr a b c d = 0 ∧ Nt.joinBits a b c d = 0 ∧ Nt.joinErr a b c d = Nt.err a b) := Lib.hid ⟨by unfold Nt.joinAddr; rw [if_neg (by omega)], by unfold Nt.joinBits; rw [if_neg (by omega)], hj⟩
    have hn : ((Nt.err a b : Int) != 0) = true := by simpa using e1
    clear hj e1
    generalize Nt.err a b = r at *
    go_enter Tryz.func40, Tryz.ntmps40
    go_wp2_with fail
    rw [← hw1]
    refine (HF1.out _).mono ?_
    rintro e w2 ⟨rfl, hb2⟩
    have R4 := own_below2 (own_two (base := w.heap.size) Hg.out.2.2 (by omega)) hb2
    obtain ⟨g0, g1⟩ := two_cells R4
    have f0 := R4.frozenAt 0
    have f1 := R4.frozenAt 1
    have R5 := two_set R4 (.int .u32 0) (.int .i64 0)
    have hB7 := hA.trans (hb2.mono (by omega))
    clear hb2
    go_wp2
    exact bodyPost_ret (net_ret Tryz.results40 rfl rfl R5) rfl ⟨ret_net_err (by rw [HJ.out.1, HJ.out.2.1]; rfl) (by rw [HJ.out.2.2]), (hB7.setCell (by show w.heap.size ≤ w.heap.size + 1 + 1; omega) _).setCell (by show w.heap.size ≤ w.heap.size + 1 + 1; omega) _⟩
end Go.Proofs.YtjdflnnpamjjcaaGreatDoor

namespace Go.Proofs.YtjdflnnpamjjcaaGreatDoor
open Go.RowKit

/-- The top so far. -/
def Tr.topK (l : List Tr.Node) (x : Tr.Nw) (k : Nat) : Tr.Nw := Tr.top x ((l.take k).map Tr.nw)
theorem topK_succ (l : List Tr.Node) (x : Tr.Nw) (k : Nat) (h : k < l.length) : Tr.topK l x (k + 1) = Tr.join (Tr.topK l x k) (Tr.nw l[k]) := by
  unfold Tr.topK Tr.top
  rw [List.take_succ_eq_append_getElem h, List.map_append, List.foldl_append]
  rfl
theorem topK_good {l : List Tr.Node} {x : Tr.Nw} (hx : Tr.good x) (h : ∀ n ∈ l, Tr.good (Tr.nw n)) (k : Nat) : Tr.good (Tr.topK l x k) := by
  refine Tr.top_good _ _ hx (fun y hy => ?_)
  obtain ⟨n, hn, rfl⟩ := List.mem_map.1 hy
  exact h n (List.mem_of_mem_take hn)
def TopSo (w : World) (g : Nat) (l : List Tr.Node) (x : Tr.Nw) (k : Nat) (wr : World) : Prop := NetIn wr g (Tr.topK l x k).1 (Tr.topK l x k).2 ∧ Below w.heap.size w wr

/-- Where the walk is in the second loop: the top, the root, the halves so far. -/
structure HalfSo (w : World) (g6 : Nat) (l : List Tr.Node) (t : Tr.Nw) (k : Nat) (v7 v8 : Value) (wr : World) : Prop where
  top : NetIn wr w.heap.size t.1 t.2
  root : NodeIn wr g6 ⟨t.1, t.2, Tr.ownerOf t (l.take k), 0⟩
  left : OwnN wr (g6 + 1) v7 (Tr.leftOf t (l.take k))
  right : OwnN wr (g6 + 1) v8 (Tr.rightOf t (l.take k))
  apart : Apart v7 v8
  below : Below w.heap.size w wr
theorem owner_snoc (t : Tr.Nw) (l : List Tr.Node) (n : Tr.Node) : Tr.ownerOf t (l ++ [n]) = if Tr.nw n = t then n.o else Tr.ownerOf t l := by
  unfold Tr.ownerOf
  rw [List.foldl_append]
  rfl
theorem left_snoc (t : Tr.Nw) (l : List Tr.Node) (n : Tr.Node) : Tr.leftOf t (l ++ [n]) = Tr.leftOf t l ++ (if Tr.nw n ≠ t ∧ Tr.bitAt n.a t.2.toNat = 0 then [n] else []) := by
  unfold Tr.leftOf
  rw [List.filter_append]
  congr 1
  by_cases h : Tr.nw n ≠ t ∧ Tr.bitAt n.a t.2.toNat = 0
  · rw [if_pos h, List.filter_cons_of_pos (by simp [h.1, h.2])]; rfl
  · rw [if_neg h, List.filter_cons_of_neg (by simpa using h)]; rfl
theorem right_snoc (t : Tr.Nw) (l : List Tr.Node) (n : Tr.Node) : Tr.rightOf t (l ++ [n]) = Tr.rightOf t l ++ (if Tr.nw n ≠ t ∧ Tr.bitAt n.a t.2.toNat ≠ 0 then [n] else []) := by
  unfold Tr.rightOf
  rw [List.filter_append]
  congr 1
  by_cases h : Tr.nw n ≠ t ∧ Tr.bitAt n.a t.2.toNat ≠ 0
  · rw [if_pos h, List.filter_cons_of_pos (by simp [h.1, h.2])]; rfl
  · rw [if_neg h, List.filter_cons_of_neg (by simpa using h)]; rfl

set_option maxRecDepth 20000 in
set_option maxHeartbeats 3200000 in
theorem ref_grown : ∀ (f : Nat) (a : Option Addr) (n c : Nat) (l : List Tr.Node) (w : World), NodesAt w w.heap.size a n l → (∀ x ∈ l, Tr.good (Tr.nw x)) → (l ≠ [] → 33 ≤ f + (Tr.topN l).2.toNat) → n ≤ 1759218604441 → f ≤ 34 →
    Calls Tryz.prog 23 #[.slice a n c] w fun e w' => ∃ v, e = .returned v ∧ OwnN w' w.heap.size v (Tr.grown f l) ∧ Below w.heap.size w w' := by
  intro f
  induction f with
  | zero =>
    intro a n c l w h hg hd hn hf
    have hl : l = [] := by
      cases l with
      | nil => rfl
      | cons x r =>
        exfalso
        have h1 := hd (by simp)
        have h2 := Nt.err_zero (Tr.topN_good (l := x :: r) (by simp) hg).2
        omega
    subst hl
    have hz : n = 0 := by have := h.1; simpa using this.symm
    subst hz
    clear h hg hd
    go_enter Tryz.func23, Tryz.ntmps23
    go_wp2
    go_ret
    exact ⟨_, rfl, OwnN.nil _ _, Below.refl _ _⟩
  | succ f ih =>
    intro a n c l w h hg hd hn hf
    cases l with
    | nil =>
      have hz : n = 0 := by have := h.1; simpa using this.symm
      subst hz
      clear h hg hd ih
      go_enter Tryz.func23, Tryz.ntmps23
      go_wp2
      go_ret
      exact ⟨_, rfl, OwnN.nil _ _, Below.refl _ _⟩
    | cons x r =>
      have hl : (x :: r).length = n := h.1
      have hpos : 0 < n := by rw [← hl]; simp
      have hn0 : ((n : Int) == 0) = false := by simp; omega
      obtain ⟨b, off, rfl, hbl, hcs⟩ := h.2 hpos
      have Hh := Lib.hid h
      have Hg := Lib.hid hg
      have Hd := Lib.hid (hd (by simp))
      have Hi := Lib.hid ih
      obtain ⟨c0, c1, c2, c3⟩ := hcs 0 (by simp)
      rw [Nat.zero_mul, Nat.add_zero] at c0 c1 c2 c3
      have gx := hg x (List.mem_cons_self ..)
      change w.cell? ⟨b, off, none⟩ = some (.int .u32 (x.a : Int)) at c0
      change w.cell? ⟨b, off + 1, none⟩ = some (.int .i64 x.b) at c1
      clear h hg hd ih hcs c2 c3
      go_enter Tryz.func23, Tryz.ntmps23
      go_wp2
      clear c0 c1
      go_loopw [21] (fun i wr => ∃ k : Nat, k ≤ n ∧ i = .int .i64 k ∧ TopSo w w.heap.size (x :: r) (Tr.nw x) k wr) (fun i _ => n - (intOf i).toNat)
      case atStart => exact ⟨0, Nat.zero_le _, rfl, heap_alloc_last w _, (Below.refl _ _).alloc (Nat.le_refl _) _⟩
      case round =>
        obtain ⟨k, hk, rfl, hT, hB⟩ := hrel
        obtain ⟨wo, hwo⟩ : ∃ wo, wo = wr := ⟨_, rfl⟩
        subst hwo
        by_cases hlt : k < n
        · obtain ⟨b', off', he', hbl', hcs⟩ := (Hh.out.below hB).2 hpos
          injection he' with he'
          injection he' with he1 he2
          subst he1 he2
          have hkl : k < (x :: r).length := by rw [hl]; exact hlt
          obtain ⟨c0, c1, c2, c3⟩ := hcs k hkl
          have gT := topK_good gx Hg.out k
          have gN := Hg.out _ (List.getElem_mem hkl)
          have Hj := Lib.hid (topK_succ (x :: r) (Tr.nw x) k hkl)
          generalize (x :: r)[k] = nd at *
          have HJ := Lib.hid (fun W => ref_NetJoined (Tr.topK (x :: r) (Tr.nw x) k).1 (Tr.topK (x :: r) (Tr.nw x) k).2 nd.a nd.b W gT.1 gN.1)
          unfold netV at HJ
          have HT := Lib.hid hT
          have HB := Lib.hid hB
          have hsz := hB.size
          have hgl := hT.lt
          obtain ⟨t0, t1⟩ := two_cells hT.own
          unfold Tr.join at Hj
          generalize Tr.topK (x :: r) (Tr.nw x) k = T at *
          obtain ⟨Ta, Tb⟩ := T
          obtain ⟨na, nb, no, ns⟩ := nd
          change Hid (Tr.topK (x :: r) (Tr.nw x) (k + 1) = (Nt.joinAddr Ta Tb na nb, (Nt.joinBits Ta Tb na nb : Int))) at Hj
          clear hcs hT hB gT gN
          generalize Nt.joinAddr Ta Tb na nb = JA at *
          generalize Nt.joinBits Ta Tb na nb = JB at *
          generalize Nt.joinErr Ta Tb na nb = JE at *
          have hne : w.heap.size < wo.heap.size := hgl
          go_wp2_with fail
          refine (HJ.out _).mono ?_
          rintro e w2 ⟨rfl, hb2⟩
          have hN2 : NetIn w2 w.heap.size Ta Tb := by
            refine NetIn.below ?_ hb2
            unfold NetIn
            rw [Below.heap_alloc _ _ _ hne]
            exact HT.out
          obtain ⟨u0, u1⟩ := two_cells hN2.own
          have f0 := hN2.own.frozenAt 0
          have f1 := hN2.own.frozenAt 1
          have HN3 := Lib.hid (hN2.set JA (JB : Int))
          have hB2 := (HB.out.alloc hsz _).trans (hb2.mono (by simp; omega))
          clear c0 c1 c2 c3 t0 t1 hN2
          go_wp2
          go_roundw
          case rel => exact ⟨k + 1, by omega, by go_num, by unfold TopSo; rw [Hj.out]; exact ⟨HN3.out, (hB2.setCell (Nat.le_refl _) _).setCell (Nat.le_refl _) _⟩⟩
          case measure => simp [intOf]; omega
        · obtain rfl : k = n := by omega
          have hTop : Tr.topK (x :: r) (Tr.nw x) k = Tr.topN (x :: r) := by
            unfold Tr.topK Tr.topN
            rw [List.take_of_length_le (by omega)]
          unfold TopSo at *
          rw [hTop] at hT
          clear hTop
          have gT := Tr.topN_good (l := x :: r) (by simp) Hg.out
          have HL := Lib.hid (fun (m : Tr.Node) (hm : m ∈ x :: r) (hne : Tr.nw m ≠ Tr.topN (x :: r)) => Tr.top_lt Hg.out hm hne)
          have HT := Lib.hid hT
          have HB := Lib.hid hB
          have hgl := hT.lt
          have hsz := hB.size
          obtain ⟨t0, t1⟩ := two_cells hT.own
          clear hT hB
          obtain ⟨t, ht⟩ : ∃ t, t = Tr.topN (x :: r) := ⟨_, rfl⟩
          rw [← ht] at HT t0 t1 gT
          have Ht := Lib.hid ht
          clear ht
          go_wp2
          clear t0 t1
          go_loopw [7, 8, 37] (fun v7 v8 i wr => ∃ j : Nat, j ≤ k ∧ i = .int .i64 j ∧ Hid (HalfSo w wo.heap.size (x :: r) t j v7 v8 wr)) (fun _ _ i _ => k - (intOf i).toNat)
          case atStart =>
            refine ⟨0, Nat.zero_le _, rfl, Lib.hid ⟨?_, heap_alloc_last wo _, OwnN.nil _ _, OwnN.nil _ _, (fun g h => by cases h), HB.out.alloc hsz _⟩⟩
            unfold NetIn
            rw [Below.heap_alloc _ _ _ hgl]
            exact HT.out
          case round =>
            obtain ⟨j, hj, rfl, HS⟩ := hrel
            obtain ⟨wp, hwp⟩ : ∃ wp, wp = wr := ⟨_, rfl⟩
            subst hwp
            have hp6 := HS.out.root.lt
            have hps := HS.out.below.size
            have hgl2 : w.heap.size < wp.heap.size := HS.out.top.lt
            by_cases hlt : j < k
            · obtain ⟨b', off', he', hbl', hcs⟩ := (Hh.out.below HS.out.below).2 hpos
              injection he' with he'
              injection he' with he1 he2
              subst he1 he2
              have hjl : j < (x :: r).length := by rw [hl]; exact hlt
              obtain ⟨c0, c1, c2, c3⟩ := hcs j hjl
              have hnl := HL.out _ (List.getElem_mem hjl)
              have gN := Hg.out _ (List.getElem_mem hjl)
              have Ho := Lib.hid (owner_snoc t ((x :: r).take j) (x :: r)[j])
              have Hle := Lib.hid (left_snoc t ((x :: r).take j) (x :: r)[j])
              have Hri := Lib.hid (right_snoc t ((x :: r).take j) (x :: r)[j])
              rw [← List.take_succ_eq_append_getElem hjl] at Ho Hle Hri
              rw [← Ht.out] at hnl
              generalize (x :: r)[j] = nd at *
              obtain ⟨t0, t1⟩ := two_cells HS.out.top.own
              obtain ⟨r0, r1, r2, r3⟩ := HS.out.root.cells
              have rf := HS.out.root.frozen 2
              have hlen := Tr.halves_le t ((x :: r).take j)
              rw [List.length_take] at hlen
              obtain ⟨na, nb, no, ns⟩ := nd
              obtain ⟨ta, tb⟩ := t
              clear hcs
              by_cases hq : Tr.nw ⟨na, nb, no, ns⟩ = (ta, tb)
              · rw [if_pos hq] at Ho
                rw [if_neg (fun h => h.1 hq), List.append_nil] at Hle Hri
                obtain ⟨rfl, rfl⟩ : na = ta ∧ nb = tb := by injection hq with h1 h2; exact ⟨h1, h2⟩
                clear hq hnl gN hlen
                have HR2 := Lib.hid (HS.out.root.owner no)
                go_wp2
                go_roundw
                case rel =>
                  refine ⟨j + 1, by omega, by go_num, Lib.hid ⟨?_, ?_, ?_, ?_, HS.out.apart, ?_⟩⟩
                  · unfold NetIn
                    rw [Below.heap_alloc _ _ _ (by simp; omega), heap_setCell_other _ _ _ _ (by show w.heap.size ≠ wo.heap.size; omega)]
                    exact HS.out.top
                  · rw [Ho.out]
                    unfold NodeIn
                    rw [Below.heap_alloc _ _ _ (by simp; omega)]
                    exact HR2.out
                  · rw [Hle.out]; exact (HS.out.left.other (by omega)).alloc _
                  · rw [Hri.out]; exact (HS.out.right.other (by omega)).alloc _
                  · exact (HS.out.below.setCell (by show w.heap.size ≤ wo.heap.size; omega) _).alloc (by simp; omega) _
                case measure => simp [intOf]; omega
              · rw [if_neg hq] at Ho
                obtain ⟨tb0, tb1⟩ := hnl hq
                obtain ⟨m, rfl⟩ : ∃ m : Nat, tb = (m : Int) := ⟨tb.toNat, by have : (0 : Int) ≤ tb := tb0; omega⟩
                have hm32 : m < 32 := by have : (m : Int) < 32 := tb1; omega
                have HBit := Lib.hid (fun W => ref_bit na m W gN.1 hm32)
                have hbit : Tr.bitAt na (m : Int).toNat = na / 2 ^ (31 - m) % 2 := by unfold Tr.bitAt; rw [Int.toNat_natCast]
                rcases Tr.bit_two na (m : Int).toNat with hb | hb
                · rw [if_pos ⟨hq, hb⟩] at Hle
                  rw [if_neg (fun h => h.2 hb), List.append_nil] at Hri
                  rw [← hbit, hb] at HBit
                  clear hbit
                  rcases (show na ≠ ta ∨ (na = ta ∧ nb ≠ (m : Int)) by by_cases h : na = ta; exact .inr ⟨h, fun e => hq (by rw [h, e]; rfl)⟩; exact .inl h) with hne | ⟨hne1, hne2⟩
                  all_goals
                    first
                    | have q1 : ((na : Int) == (ta : Int)) = false := by simp; omega
                    | have q1 : (nb == (m : Int)) = false := by rw [beq_eq_false_iff_ne]; exact hne2
                    clear hq hb gN
                    try have q0 : ((na : Int) == (ta : Int)) = true := by simp [hne1]
                    try clear hne1
                    have hmx : (Tr.leftOf (ta, (m : Int)) ((x :: r).take j)).length + 1 ≤ 3518437208883 := by omega
                    have hnw := nodesAt_new (wp.alloc (.cells #[.int .u32 (na : Int), .int .i64 nb, .string no, .int .i64 ns] 53)) ⟨na, nb, no, ns⟩
                    rw [show (wp.alloc (.cells #[.int .u32 (na : Int), .int .i64 nb, .string no, .int .i64 ns] 53)).heap.size = wp.heap.size + 1 by simp] at hnw
                    have Hnw := Lib.hid hnw
                    clear hnw
                    go_wp2_with fail
                    refine (HBit.out _).mono ?_
                    rintro e w2 ⟨rfl, hw2⟩
                    subst hw2
                    go_wp2_with (at_builtin; refine wpL_append_nodes _ rfl _ _ rfl (wo.heap.size + 1) _ (Tr.leftOf (ta, (m : Int)) ((x :: r).take j)) rfl ((HS.out.left.alloc _).alloc _) _ 1 _ [⟨na, nb, no, ns⟩] rfl (fun h => by cases h) Hnw.out hmx (by simp; omega) ?_)
                    intro v' w3 hO2 hgr hat
                    have HO2 := Lib.hid hO2
                    have Hgr := Lib.hid hgr
                    have Hat := Lib.hid hat.out
                    have hb3 := below_grownN ((HS.out.left.alloc _).alloc _) hgr (by simp; omega)
                    have Hb3 := Lib.hid hb3
                    have hB3 := ((HS.out.below.alloc hps _).alloc (by simp; omega) _).trans (hb3.mono (by omega))
                    clear hO2 hgr hat hb3
                    go_wp2
                    go_roundw
                    case rel =>
                      refine ⟨j + 1, by omega, by go_num, Lib.hid ⟨?_, ?_, ?_, ?_, ?_, hB3⟩⟩
                      · refine (Hb3.out.block _ (by omega)).trans ?_
                        rw [Below.heap_alloc _ _ _ (by simp; omega), Below.heap_alloc _ _ _ (by omega)]
                        exact HS.out.top
                      · rw [Ho.out]
                        refine (Hb3.out.block _ (by omega)).trans ?_
                        rw [Below.heap_alloc _ _ _ (by simp; omega), Below.heap_alloc _ _ _ (by omega)]
                        exact HS.out.root
                      · rw [Hle.out]; exact HO2.out
                      · rw [Hri.out]; exact ((HS.out.right.alloc _).alloc _).kept Hgr.out HS.out.apart
                      · exact apart_grownN' HS.out.right HS.out.apart Hat.out (by omega)
                    case measure => simp [intOf]; omega
                · rw [if_neg (fun h => by rw [hb] at h; exact absurd h.2 (by decide)), List.append_nil] at Hle
                  rw [if_pos ⟨hq, by rw [hb]; decide⟩] at Hri
                  rw [← hbit, hb] at HBit
                  clear hbit
                  rcases (show na ≠ ta ∨ (na = ta ∧ nb ≠ (m : Int)) by by_cases h : na = ta; exact .inr ⟨h, fun e => hq (by rw [h, e]; rfl)⟩; exact .inl h) with hne | ⟨hne1, hne2⟩
                  all_goals
                    first
                    | have q1 : ((na : Int) == (ta : Int)) = false := by simp; omega
                    | have q1 : (nb == (m : Int)) = false := by rw [beq_eq_false_iff_ne]; exact hne2
                    clear hq hb gN
                    try have q0 : ((na : Int) == (ta : Int)) = true := by simp [hne1]
                    try clear hne1
                    have hmx : (Tr.rightOf (ta, (m : Int)) ((x :: r).take j)).length + 1 ≤ 3518437208883 := by omega
                    have hnw := nodesAt_new (wp.alloc (.cells #[.int .u32 (na : Int), .int .i64 nb, .string no, .int .i64 ns] 53)) ⟨na, nb, no, ns⟩
                    rw [show (wp.alloc (.cells #[.int .u32 (na : Int), .int .i64 nb, .string no, .int .i64 ns] 53)).heap.size = wp.heap.size + 1 by simp] at hnw
                    have Hnw := Lib.hid hnw
                    clear hnw
                    go_wp2_with fail
                    refine (HBit.out _).mono ?_
                    rintro e w2 ⟨rfl, hw2⟩
                    subst hw2
                    go_wp2_with (at_builtin; refine wpL_append_nodes _ rfl _ _ rfl (wo.heap.size + 1) _ (Tr.rightOf (ta, (m : Int)) ((x :: r).take j)) rfl ((HS.out.right.alloc _).alloc _) _ 1 _ [⟨na, nb, no, ns⟩] rfl (fun h => by cases h) Hnw.out hmx (by simp; omega) ?_)
                    intro v' w3 hO2 hgr hat
                    have HO2 := Lib.hid hO2
                    have Hgr := Lib.hid hgr
                    have Hat := Lib.hid hat.out
                    have hb3 := below_grownN ((HS.out.right.alloc _).alloc _) hgr (by simp; omega)
                    have Hb3 := Lib.hid hb3
                    have hB3 := ((HS.out.below.alloc hps _).alloc (by simp; omega) _).trans (hb3.mono (by omega))
                    clear hO2 hgr hat hb3
                    go_wp2
                    go_roundw
                    case rel =>
                      refine ⟨j + 1, by omega, by go_num, Lib.hid ⟨?_, ?_, ?_, ?_, ?_, hB3⟩⟩
                      · refine (Hb3.out.block _ (by omega)).trans ?_
                        rw [Below.heap_alloc _ _ _ (by simp; omega), Below.heap_alloc _ _ _ (by omega)]
                        exact HS.out.top
                      · rw [Ho.out]
                        refine (Hb3.out.block _ (by omega)).trans ?_
                        rw [Below.heap_alloc _ _ _ (by simp; omega), Below.heap_alloc _ _ _ (by omega)]
                        exact HS.out.root
                      · rw [Hle.out]; exact ((HS.out.left.alloc _).alloc _).kept Hgr.out HS.out.apart.symm
                      · rw [Hri.out]; exact HO2.out
                      · exact (apart_grownN' HS.out.left HS.out.apart.symm Hat.out (by omega)).symm
                    case measure => simp [intOf]; omega
            · obtain rfl : j = k := by omega
              have htk : (x :: r).take j = x :: r := List.take_of_length_le (by omega)
              have hS := HS.out
              obtain ⟨sT, sR, sL, sQ, sA, sB⟩ := hS
              rw [htk] at sR sL sQ
              obtain ⟨a7, c7, rfl, n7, at7⟩ := sL.at
              obtain ⟨a8, c8, rfl, n8, at8⟩ := sQ.at
              have hh := Tr.halves_le t (x :: r)
              rw [hl] at hh
              have hT0 := Nt.err_zero gT.2
              have htop := Ht.out
              have dL : Tr.leftOf t (x :: r) ≠ [] → 33 ≤ f + (Tr.topN (Tr.leftOf t (x :: r))).2.toNat := by
                intro hne
                have h1 := Hd.out
                have h2 := Tr.left_top Hg.out (by rw [← htop]; exact hne)
                rw [← htop] at h1 h2
                omega
              have dR : Tr.rightOf t (x :: r) ≠ [] → 33 ≤ f + (Tr.topN (Tr.rightOf t (x :: r))).2.toNat := by
                intro hne
                have h1 := Hd.out
                have h2 := Tr.right_top Hg.out (by rw [← htop]; exact hne)
                rw [← htop] at h1 h2
                omega
              have K1 := Lib.hid (Hi.out a7 _ c7 (Tr.leftOf t (x :: r)) wp at7 (Tr.left_good Hg.out) dL (by omega) (by omega))
              have K2 := Lib.hid (fun (W : World) (hW : Below wp.heap.size wp W) => Hi.out a8 _ c8 (Tr.rightOf t (x :: r)) W ((at8.below hW).up hW.size) (Tr.right_good Hg.out) dR (by omega) (by omega))
              have hgl1 := Tr.grown_two f (Tr.leftOf t (x :: r)) (Tr.left_good Hg.out)
              have hgl2' := Tr.grown_two f (Tr.rightOf t (x :: r)) (Tr.right_good Hg.out)
              have HG : Hid (Tr.grown (f + 1) (x :: r) = ⟨t.1, t.2, Tr.ownerOf t (x :: r), ((1 + (Tr.grown f (Tr.leftOf t (x :: r)) ++ Tr.grown f (Tr.rightOf t (x :: r))).length : Nat) : Int)⟩ :: (Tr.grown f (Tr.leftOf t (x :: r)) ++ Tr.grown f (Tr.rightOf t (x :: r)))) := Lib.hid (by rw [htop]; rfl)
              have HR := Lib.hid sR
              have HB2 := Lib.hid sB
              clear sT sR sL sQ sA sB at7 at8 n7 n8 dL dR htk hT0 htop Hi Hd
              generalize Tr.grown f (Tr.leftOf t (x :: r)) = GL at *
              generalize Tr.grown f (Tr.rightOf t (x :: r)) = GR at *
              generalize Tr.ownerOf t (x :: r) = OW at *
              go_wp2_with fail
              refine K1.out.mono ?_
              rintro e w2 ⟨v2, rfl, o2, b2⟩
              go_wp2_with fail
              refine (K2.out w2 b2).mono ?_
              rintro e w3 ⟨v3, rfl, o3, b3⟩
              have o2' := Lib.hid (o2.below b3)
              have b3' := b2.trans (b3.mono b2.size)
              obtain ⟨a9, c9, rfl, n9, at9⟩ := o3.at
              have At9 := Lib.hid at9
              clear o2 o3 at9 b2 b3
              go_wp2_with (at_builtin; refine wpL_append_nodes _ rfl _ _ rfl wp.heap.size _ GL rfl o2'.out a9 _ c9 GR rfl n9 At9.out (by omega) b3'.size ?_)
              intro v4 w4 o4 g4 _
              have b4 := b3'.trans (below_grownN o2'.out g4 b3'.size)
              clear g4
              obtain ⟨a4, c4, rfl, ho4⟩ := o4
              have O4 : Hid (OwnN w4 wp.heap.size (.slice a4 (GL ++ GR).length c4) (GL ++ GR)) := Lib.hid ⟨a4, c4, rfl, ho4⟩
              have hR4 := HR.out.low b4 hp6
              obtain ⟨r0, r1, r2, r3⟩ := hR4.cells
              have rf := hR4.frozen 3
              have hle : (GL ++ GR).length ≤ 3518437208882 := by rw [List.length_append]; omega
              have HR5 := Lib.hid (hR4.size ((1 : Int) + ((GL ++ GR).length : Int)))
              have B4 := Lib.hid b4
              have hz4 := b4.size
              clear ho4 hR4 b4
              generalize (GL ++ GR) = GG at *
              have hz6 : (w4.setCell ⟨wo.heap.size, 3, none⟩ (.int .i64 ((1 : Int) + (GG.length : Int)))).heap.size = w4.heap.size := by simp
              have oN := own_new (w4.setCell ⟨wo.heap.size, 3, none⟩ (.int .i64 ((1 : Int) + (GG.length : Int)))) w.heap.size ⟨t.1, t.2, OW, (1 : Int) + (GG.length : Int)⟩ (by rw [hz6]; omega)
              rw [hz6] at oN
              have ON := Lib.hid oN
              have AT := Lib.hid (((O4.out.other (g := wo.heap.size) (i := 3) (x := .int .i64 ((1 : Int) + (GG.length : Int))) hp6).alloc (.cells #[.int .u32 (t.1 : Int), .int .i64 t.2, .string OW, .int .i64 ((1 : Int) + (GG.length : Int))] 53)).at')
              clear oN
              go_wp2_with (at_builtin; refine wpL_append_nodes _ rfl _ _ rfl w.heap.size _ [⟨t.1, t.2, OW, (1 : Int) + (GG.length : Int)⟩] rfl ON.out a4 _ c4 GG rfl AT.out.1 AT.out.2 (by simp; omega) (by simp; omega) ?_)
              intro v6 w6 o6 g6 _
              have b6 := below_grownN ON.out g6 (by simp; omega)
              have hB6 := (((HB2.out.trans (B4.out.mono hps)).setCell (p := ⟨wo.heap.size, 3, none⟩) (by show w.heap.size ≤ wo.heap.size; omega) (.int .i64 ((1 : Int) + (GG.length : Int)))).alloc (by simp; omega) (.cells #[.int .u32 (t.1 : Int), .int .i64 t.2, .string OW, .int .i64 ((1 : Int) + (GG.length : Int))] 53)).trans b6
              have O6 := Lib.hid o6
              clear o6 g6 b6
              go_wp2
              go_ret
              refine ⟨_, rfl, ?_, hB6⟩
              rw [HG.out, Int.natCast_add]
              exact O6.out
end Go.Proofs.YtjdflnnpamjjcaaGreatDoor
