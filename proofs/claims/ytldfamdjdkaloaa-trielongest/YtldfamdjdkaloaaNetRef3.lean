/- The contracts of the reference's NetHas and NetHolds. -/
import Derived.Test.YtldfamdjdkaloaaNetRef2
import Derived.Laws.StructEq
namespace Go.Proofs.Ytldfamdjdkaloaa
open Go.RowKit

set_option maxRecDepth 20000 in
set_option maxHeartbeats 800000 in
theorem ref_NetHas (a : Nat) (b : Int) (x : Nat) (w : World) (ha : a < 4294967296) (hx : x < 4294967296) :
    Calls Try.prog 53 #[netV a b, .int .u32 (x : Int)] w fun e w' => e = .returned (.bool (Nt.has a b x)) ∧ Below w.heap.size w w' := by
  obtain ⟨w1, hw1⟩ : ∃ w1, w1 = w.alloc (.cells #[.int .u32 (a : Int), .int .i64 b] 28) := ⟨_, rfl⟩
  have hg1 : w1.heap[w.heap.size]? = some (.cells #[.int .u32 (a : Int), .int .i64 b] 28 (0, 0)) := by rw [hw1]; exact heap_alloc_last w _
  have hA : Below w.heap.size w w1 := by rw [hw1]; exact (Below.refl _ _).alloc (Nat.le_refl _) _
  have hz1 : w1.heap.size = w.heap.size + 1 := by rw [hw1]; simp
  have HO := Lib.hid (fun W => ref_NetOf x b W hx)
  have HF := Lib.hid (fun W => ref_NetFault a b W ha)
  unfold netV at HO HF ⊢
  have Hg1 := Lib.hid hg1
  clear hg1
  by_cases hbad : b < 0 ∨ 32 < b
  · have Hr := Lib.hid (show Nt.has a b x = false by unfold Nt.has Nt.err; rw [if_pos hbad]; rfl)
    have e3 : Nt.ofErr b = 4 := by unfold Nt.ofErr; rw [if_pos hbad]
    rw [e3] at HO
    generalize Nt.ofAddr x b = A at *
    generalize Nt.ofBits b = B at *
    clear e3 hbad
    obtain ⟨c0, c1⟩ := net_cells Hg1.out (Below.refl _ _)
    go_enter Try.func53, Try.ntmps53
    go_wp2_with fail
    rw [← hw1]
    refine (HO.out _).mono ?_
    rintro e w2 ⟨rfl, hb2⟩
    have hB2 := hA.trans (hb2.mono (by omega))
    go_wp2
    go_ret
    exact ⟨by rw [Hr.out]; rfl, hB2.alloc hB2.size _⟩
  · have e1 : Nt.ofAddr x b = Nt.cut x b.toNat := by unfold Nt.ofAddr; rw [if_neg hbad]
    have e2 : Nt.ofBits b = b := by unfold Nt.ofBits; rw [if_neg hbad]
    have e3 : Nt.ofErr b = 0 := by unfold Nt.ofErr; rw [if_neg hbad]
    rw [e1, e2, e3] at HO
    clear e1 e2 e3
    rcases Nt.err_cases a b with ⟨h, _⟩ | ⟨_, _, h3, he⟩ | ⟨_, _, h3, he⟩
    · exact absurd h hbad
    · rw [he] at HF
      have Hr : Hid (Nt.has a b x = decide (Nt.cut x b.toNat = a)) := Lib.hid (by unfold Nt.has; rw [he]; rfl)
      clear h3 he hbad
      generalize Nt.cut x b.toNat = A at *
      by_cases hq : A = a
      · subst hq
        go_enter Try.func53, Try.ntmps53
        go_wp2_with fail
        rw [← hw1]
        refine (HO.out _).mono ?_
        rintro e w2 ⟨rfl, hb2⟩
        have hB2 := hA.trans (hb2.mono (by omega))
        have hz2 : w.heap.size < w2.heap.size := by have := hb2.size; omega
        obtain ⟨c0, c1⟩ := net_cells Hg1.out hb2
        go_wp2_with fail
        refine (HF.out _).mono ?_
        rintro e w3 ⟨rfl, hb3⟩
        have hB3 := (hB2.alloc hB2.size _).trans (hb3.mono (by simp; omega))
        obtain ⟨d0, d1⟩ := net_cells (heap_alloc_last w2 _) hb3
        obtain ⟨g0, g1⟩ := net_cells (w := w1) Hg1.out (hb2.trans ((((Below.refl _ _).alloc (Nat.le_refl _) _).trans (hb3.mono (by simp))).mono hb2.size))
        go_wp2
        go_ret
        exact ⟨by rw [Hr.out]; simp, hB3⟩
      · have q1 : ((A : Int) == (a : Int)) = false := by simp; omega
        go_enter Try.func53, Try.ntmps53
        go_wp2_with fail
        rw [← hw1]
        refine (HO.out _).mono ?_
        rintro e w2 ⟨rfl, hb2⟩
        have hB2 := hA.trans (hb2.mono (by omega))
        have hz2 : w.heap.size < w2.heap.size := by have := hb2.size; omega
        obtain ⟨c0, c1⟩ := net_cells Hg1.out hb2
        go_wp2_with fail
        refine (HF.out _).mono ?_
        rintro e w3 ⟨rfl, hb3⟩
        have hB3 := (hB2.alloc hB2.size _).trans (hb3.mono (by simp; omega))
        obtain ⟨d0, d1⟩ := net_cells (heap_alloc_last w2 _) hb3
        obtain ⟨g0, g1⟩ := net_cells (w := w1) Hg1.out (hb2.trans ((((Below.refl _ _).alloc (Nat.le_refl _) _).trans (hb3.mono (by simp))).mono hb2.size))
        go_wp2
        go_ret
        exact ⟨by rw [Hr.out, decide_eq_false hq]; rfl, hB3⟩
    · rw [he] at HF
      have Hr : Hid (Nt.has a b x = false) := Lib.hid (by unfold Nt.has; rw [he]; rfl)
      clear h3 he hbad
      generalize Nt.cut x b.toNat = A at *
      go_enter Try.func53, Try.ntmps53
      go_wp2_with fail
      rw [← hw1]
      refine (HO.out _).mono ?_
      rintro e w2 ⟨rfl, hb2⟩
      have hB2 := hA.trans (hb2.mono (by omega))
      have hz2 : w.heap.size < w2.heap.size := by have := hb2.size; omega
      obtain ⟨c0, c1⟩ := net_cells Hg1.out hb2
      go_wp2_with fail
      refine (HF.out _).mono ?_
      rintro e w3 ⟨rfl, hb3⟩
      have hB3 := (hB2.alloc hB2.size _).trans (hb3.mono (by simp; omega))
      go_wp2
      go_ret
      exact ⟨by rw [Hr.out]; rfl, hB3⟩

set_option maxRecDepth 20000 in
set_option maxHeartbeats 800000 in
theorem ref_NetHolds (a : Nat) (b : Int) (c : Nat) (d : Int) (w : World) (ha : a < 4294967296) (hc : c < 4294967296) :
    Calls Try.prog 83 #[netV a b, netV c d] w fun e w' => e = .returned (.bool (Nt.holds a b c d)) ∧ Below w.heap.size w w' := by
  have h2 := two_nets w (.int .u32 (a : Int)) (.int .i64 b) (.int .u32 (c : Int)) (.int .i64 d)
  have HF := Lib.hid (fun W => ref_NetFault c d W hc)
  have HH := Lib.hid (fun W => ref_NetHas a b c W ha hc)
  unfold netV at HF HH ⊢
  obtain ⟨w1, hw1⟩ : ∃ w1, w1 = (w.alloc (.cells #[.int .u32 (a : Int), .int .i64 b] 28)).alloc (.cells #[.int .u32 (c : Int), .int .i64 d] 28) := ⟨_, rfl⟩
  rw [← hw1] at h2
  obtain ⟨hA, hz1, hg2, hg3⟩ := h2
  have Hg := Lib.hid (And.intro hg2 hg3)
  clear hg2 hg3
  by_cases he : Nt.err c d = 0
  · rw [he] at HF
    by_cases hbd : b ≤ d
    · have Hr := Lib.hid (show Nt.holds a b c d = Nt.has a b c by unfold Nt.holds; rw [he, decide_eq_true hbd]; rfl)
      have q1 : decide (b ≤ d) = true := decide_eq_true hbd
      clear he
      generalize Nt.has a b c = r at *
      obtain ⟨c0, c1⟩ := net_cells Hg.out.2 (Below.refl _ _)
      go_enter Try.func83, Try.ntmps83
      go_wp2_with fail
      rw [← hw1]
      refine (HF.out _).mono ?_
      rintro e w2 ⟨rfl, hb2⟩
      have hB2 := hA.trans (hb2.mono (by omega))
      obtain ⟨d0, d1⟩ := net_cells Hg.out.1 hb2
      obtain ⟨e0, e1⟩ := net_cells Hg.out.2 hb2
      clear c0 c1
      go_wp2_with fail
      refine (HH.out _).mono ?_
      rintro e w3 ⟨rfl, hb3⟩
      have hB3 := hB2.trans (hb3.mono hB2.size)
      go_wp2
      go_ret
      exact ⟨by rw [Hr.out]; rfl, hB3⟩
    · have Hr := Lib.hid (show Nt.holds a b c d = false by unfold Nt.holds; rw [decide_eq_false hbd, Bool.and_false]; rfl)
      have q1 : decide (b ≤ d) = false := decide_eq_false hbd
      clear he
      obtain ⟨c0, c1⟩ := net_cells Hg.out.2 (Below.refl _ _)
      go_enter Try.func83, Try.ntmps83
      go_wp2_with fail
      rw [← hw1]
      refine (HF.out _).mono ?_
      rintro e w2 ⟨rfl, hb2⟩
      have hB2 := hA.trans (hb2.mono (by omega))
      obtain ⟨d0, d1⟩ := net_cells Hg.out.1 hb2
      obtain ⟨e0, e1⟩ := net_cells Hg.out.2 hb2
      clear c0 c1
      go_wp2
      go_ret
      exact ⟨by rw [Hr.out]; rfl, hB2⟩
  · have Hr := Lib.hid (show Nt.holds a b c d = false by unfold Nt.holds; rw [decide_eq_false he]; rfl)
    have hn : ((Nt.err c d : Int) == 0) = false := by simpa using he
    clear he
    generalize Nt.err c d = r at *
    obtain ⟨c0, c1⟩ := net_cells Hg.out.2 (Below.refl _ _)
    go_enter Try.func83, Try.ntmps83
    go_wp2_with fail
    rw [← hw1]
    refine (HF.out _).mono ?_
    rintro e w2 ⟨rfl, hb2⟩
    have hB2 := hA.trans (hb2.mono (by omega))
    clear c0 c1
    go_wp2
    go_ret
    exact ⟨by rw [Hr.out]; rfl, hB2⟩

end Go.Proofs.Ytldfamdjdkaloaa
