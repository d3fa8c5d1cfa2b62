/- The contract of the reference's NetParsed. -/
import Derived.Test.YthcdebdohlffpaaDoorNetRef5
namespace Go.Proofs.YthcdebdohlffpaaDoor
open Go.RowKit

theorem good_lt (l : List UInt8) : Ad.addrOut l < 4294967296 := by
  unfold Ad.addrOut
  by_cases h : Ad.good l = true
  · rw [if_pos h]; exact (Ad.text_good l h).1
  · rw [if_neg h]; decide
theorem num_le (l : List UInt8) (most : Nat) : Ad.numOut l (most : Int) ≤ most := by
  unfold Ad.numOut
  by_cases h : Ad.numErr l (most : Int) = 0
  · rw [if_pos h]
    unfold Ad.numErr at h
    by_cases hc : Ad.isNum l = true ∧ (Ad.val l : Int) ≤ (most : Int)
    · omega
    · rw [if_neg hc] at h; cases h
  · rw [if_neg h]; omega
set_option maxRecDepth 20000 in
set_option maxHeartbeats 1600000 in
theorem ref_NetParsed (s : ByteArray) (w : World) (hs : s.size ≤ 1048576) (hT : PowTab w) (hE : ErrTab w) (hM : MaxTab w) :
    Calls Tryd.prog 8 #[.string s] w fun e w' => e = .returned (.tuple #[netV (Nt.parAddr s.data.toList) (Nt.parBits s.data.toList : Int), .int .i64 (Nt.parErr s.data.toList : Int)]) ∧ Below w.heap.size w w' := by
  obtain ⟨w1, hw1⟩ : ∃ w1, w1 = w.alloc (.cells #[.int .u32 0, .int .i64 0] 24) := ⟨_, rfl⟩
  have hg1 : w1.heap[w.heap.size]? = some (.cells #[.int .u32 0, .int .i64 0] 24 (0, 0)) := by rw [hw1]; exact heap_alloc_last w _
  have hA : Below w.heap.size w w1 := by rw [hw1]; exact (Below.refl _ _).alloc (Nat.le_refl _) _
  have hz1 : w1.heap.size = w.heap.size + 1 := by rw [hw1]; simp
  have HI : Hid (∀ W, Calls Tryd.prog 19 #[.string s, .string ⟨#[47]⟩] W fun e w' => e = .returned (.int .i64 (Nt.slash s.data.toList)) ∧ w' = W) := Lib.hid fun W => Tryd.strings_Index_one s 47 W
  have HR : Hid (∀ W, Below w1.heap.size w1 W → W.ownsRow w.heap.size 24 1 (.slice (some ⟨w.heap.size, 0, none⟩) 2 2) 2 [.int .u32 0, .int .i64 0]) := Lib.hid fun W hW => own_below2 (own_two hg1 (Nat.le_refl _)) hW
  have HT := Lib.hid (hT.below hA)
  have HE := Lib.hid (hE.below hA)
  have HM := Lib.hid (hM.below hA)
  clear hg1 hT hE hM
  unfold netV
  by_cases h0 : Nt.slash s.data.toList < 0
  · have Hb := Lib.hid (Nt.par_bad (l := s.data.toList) (by unfold Nt.parGood; rw [decide_eq_false (by omega)]; rfl))
    generalize Nt.slash s.data.toList = q at *
    have R4 := HR.out w1 (Below.refl _ _)
    rw [hw1] at R4
    go_enter Tryd.func8, Tryd.ntmps8
    go_wp2_with fail
    refine (HI.out _).mono ?_
    rintro e w2 ⟨rfl, hw2⟩
    subst hw2
    go_wp2
    exact bodyPost_ret (net_ret Tryd.results8 rfl rfl R4) rfl ⟨ret_net_err (by rw [Hb.out.2.1, Hb.out.2.2]; rfl) (by rw [Hb.out.1]; rfl), by rw [← hw1]; exact hA⟩
  · obtain ⟨k, hk⟩ : ∃ k : Nat, Nt.slash s.data.toList = (k : Int) := ⟨(Nt.slash s.data.toList).toNat, by omega⟩
    have hge : decide (0 ≤ Nt.slash s.data.toList) = true := decide_eq_true (by omega)
    have hkl := Nt.slash_lt _ k hk
    have hsl : s.data.toList.length = s.size := by simp
    rw [hsl] at hkl
    have Hf : Hid ((s.extract 0 k).data.toList = Nt.front s.data.toList) := Lib.hid (by unfold Nt.front; rw [hk, Int.toNat_natCast]; exact Lib.extract_from_zero s k)
    have Hb : Hid ((s.extract (k + 1) s.size).data.toList = Nt.back s.data.toList) := Lib.hid (by unfold Nt.back; rw [hk, Int.toNat_natCast]; exact Lib.extract_to_end s (k + 1))
    have hx1 : (s.extract 0 k).size ≤ 1048576 := by rw [ByteArray.size_extract]; omega
    have hx2 : (s.extract (k + 1) s.size).size ≤ 281474976710656 := by rw [ByteArray.size_extract]; omega
    have H1 : Hid (∀ W, Below w1.heap.size w1 W → Calls Tryd.prog 20 #[.string (s.extract 0 k)] W fun e W' => e = .returned (.tuple #[.int .u32 (Ad.addrOut (Nt.front s.data.toList) : Int), .int .i64 (Ad.addrErr (Nt.front s.data.toList) : Int)]) ∧ Below w1.heap.size w1 W') :=
      Lib.hid fun W hW => (ref_AddrOf (s.extract 0 k) W hx1 (HT.out.below hW) (HE.out.below hW) (HM.out.below hW)).mono fun e W' ⟨he, hb⟩ => ⟨by rw [he, Hf.out], hW.trans (hb.mono hW.size)⟩
    have H2 : Hid (∀ W, Below w1.heap.size w1 W → Calls Tryd.prog 21 #[.string (s.extract (k + 1) s.size), .int .i64 32] W fun e W' => e = .returned (.tuple #[.int .i64 (Ad.numOut (Nt.back s.data.toList) 32 : Int), .int .i64 (Ad.numErr (Nt.back s.data.toList) 32 : Int)]) ∧ Below w1.heap.size w1 W') :=
      Lib.hid fun W hW => (ref_NumberOf (s.extract (k + 1) s.size) 32 W hx2 (HT.out.below hW) (HE.out.below hW)).mono fun e W' ⟨he, hb⟩ => ⟨by rw [he, Hb.out], hW.trans (hb.mono hW.size)⟩
    have H3 : Hid (∀ W, Below w1.heap.size w1 W → Calls Tryd.prog 17 #[.agg #[.int .u32 (Ad.addrOut (Nt.front s.data.toList) : Int), .int .i64 (Ad.numOut (Nt.back s.data.toList) 32 : Int)]] W fun e W' => e = .returned (.int .i64 (Nt.err (Ad.addrOut (Nt.front s.data.toList)) (Ad.numOut (Nt.back s.data.toList) 32 : Int) : Int)) ∧ Below w1.heap.size w1 W') :=
      Lib.hid fun W hW => (ref_NetFault _ _ W (good_lt _)).mono fun e W' ⟨he, hb⟩ => ⟨he, hW.trans (hb.mono hW.size)⟩
    have hnl := num_le (Nt.back s.data.toList) 32
    have eg : Nt.parGood s.data.toList = (Ad.good (Nt.front s.data.toList) && decide (Ad.numErr (Nt.back s.data.toList) 32 = 0) && decide (Nt.err (Ad.addrOut (Nt.front s.data.toList)) (Ad.numOut (Nt.back s.data.toList) 32 : Int) = 0)) := by unfold Nt.parGood; rw [hge]; rfl
    rw [hk] at HI
    clear hge h0 hk hsl HT HE HM
    have hw0 : (k : Int) ≤ s.size := by omega
    have hw00 : ((k : Int) + 1) ≤ s.size := by omega
    by_cases g1 : Ad.good (Nt.front s.data.toList) = true
    · have he1 : Ad.addrErr (Nt.front s.data.toList) = 0 := by unfold Ad.addrErr; rw [if_pos g1]
      rw [he1] at H1
      by_cases g2 : Ad.numErr (Nt.back s.data.toList) 32 = 0
      · rw [g2] at H2
        by_cases g3 : Nt.err (Ad.addrOut (Nt.front s.data.toList)) (Ad.numOut (Nt.back s.data.toList) 32 : Int) = 0
        · rw [g3] at H3
          have Hr := Lib.hid (Nt.par_ok (l := s.data.toList) (by rw [eg, g1, g2, g3]; rfl))
          clear g1 g2 g3 eg he1
          generalize Ad.addrOut (Nt.front s.data.toList) = A at *
          generalize Ad.numOut (Nt.back s.data.toList) 32 = B at *
          go_enter Tryd.func8, Tryd.ntmps8
          go_wp2_with fail
          rw [← hw1]
          clear hw1
          refine (HI.out _).mono ?_
          rintro e w2 ⟨rfl, hw2⟩
          rw [hw2]
          clear hw2 w2
          go_wp2_with fail
          refine (H1.out _ (Below.refl _ _)).mono ?_
          rintro e w3 ⟨rfl, hb3⟩
          go_wp2_with fail
          refine (H2.out _ hb3).mono ?_
          rintro e w4 ⟨rfl, hb4⟩
          go_wp2_with fail
          refine (H3.out _ hb4).mono ?_
          rintro e w5 ⟨rfl, hb5⟩
          have R4 := HR.out _ hb5
          obtain ⟨p0, p1⟩ := two_cells R4
          have f0 := R4.frozenAt 0
          have f1 := R4.frozenAt 1
          have R5 := two_set R4 (.int .u32 (A : Int)) (.int .i64 (B : Int))
          have hB7 := hA.trans (hb5.mono (by omega))
          go_wp2
          exact bodyPost_ret (net_ret Tryd.results8 rfl rfl R5) rfl ⟨ret_net_err (by rw [Hr.out.2.1, Hr.out.2.2]) (by rw [Hr.out.1]; rfl), (hB7.setCell (Nat.le_refl _) _).setCell (Nat.le_refl _) _⟩
        · have Hr := Lib.hid (Nt.par_bad (l := s.data.toList) (by rw [eg, decide_eq_false g3, Bool.and_false]))
          have hn3 : ((Nt.err (Ad.addrOut (Nt.front s.data.toList)) (Ad.numOut (Nt.back s.data.toList) 32 : Int) : Int) != 0) = true := by simpa using g3
          clear g1 g2 g3 eg he1
          generalize Nt.err (Ad.addrOut (Nt.front s.data.toList)) (Ad.numOut (Nt.back s.data.toList) 32 : Int) = r at *
          generalize Ad.addrOut (Nt.front s.data.toList) = A at *
          generalize Ad.numOut (Nt.back s.data.toList) 32 = B at *
          go_enter Tryd.func8, Tryd.ntmps8
          go_wp2_with fail
          rw [← hw1]
          clear hw1
          refine (HI.out _).mono ?_
          rintro e w2 ⟨rfl, hw2⟩
          rw [hw2]
          clear hw2 w2
          go_wp2_with fail
          refine (H1.out _ (Below.refl _ _)).mono ?_
          rintro e w3 ⟨rfl, hb3⟩
          go_wp2_with fail
          refine (H2.out _ hb3).mono ?_
          rintro e w4 ⟨rfl, hb4⟩
          go_wp2_with fail
          refine (H3.out _ hb4).mono ?_
          rintro e w5 ⟨rfl, hb5⟩
          have R4 := HR.out _ hb5
          obtain ⟨p0, p1⟩ := two_cells R4
          have f0 := R4.frozenAt 0
          have f1 := R4.frozenAt 1
          have R5 := two_set R4 (.int .u32 0) (.int .i64 0)
          have hB7 := hA.trans (hb5.mono (by omega))
          go_wp2
          exact bodyPost_ret (net_ret Tryd.results8 rfl rfl R5) rfl ⟨ret_net_err (by rw [Hr.out.2.1, Hr.out.2.2]; rfl) (by rw [Hr.out.1]; rfl), (hB7.setCell (Nat.le_refl _) _).setCell (Nat.le_refl _) _⟩
      · have Hr := Lib.hid (Nt.par_bad (l := s.data.toList) (by rw [eg, decide_eq_false g2, Bool.and_false]; rfl))
        rw [(numOut_bad _ _ g2).1, (numOut_bad _ _ g2).2] at H2
        clear g1 g2 eg he1 H3
        generalize Ad.addrOut (Nt.front s.data.toList) = A at *
        go_enter Tryd.func8, Tryd.ntmps8
        go_wp2_with fail
        rw [← hw1]
        clear hw1
        refine (HI.out _).mono ?_
        rintro e w2 ⟨rfl, hw2⟩
        rw [hw2]
        clear hw2 w2
        go_wp2_with fail
        refine (H1.out _ (Below.refl _ _)).mono ?_
        rintro e w3 ⟨rfl, hb3⟩
        go_wp2_with fail
        refine (H2.out _ hb3).mono ?_
        rintro e w4 ⟨rfl, hb4⟩
        have R4 := HR.out _ hb4
        obtain ⟨p0, p1⟩ := two_cells R4
        have f0 := R4.frozenAt 0
        have f1 := R4.frozenAt 1
        have R5 := two_set R4 (.int .u32 0) (.int .i64 0)
        have hB7 := hA.trans (hb4.mono (by omega))
        go_wp2
        exact bodyPost_ret (net_ret Tryd.results8 rfl rfl R5) rfl ⟨ret_net_err (by rw [Hr.out.2.1, Hr.out.2.2]; rfl) (by rw [Hr.out.1]; rfl), (hB7.setCell (Nat.le_refl _) _).setCell (Nat.le_refl _) _⟩
    · have hg1 : Ad.good (Nt.front s.data.toList) = false := by simpa using g1
      have Hr := Lib.hid (Nt.par_bad (l := s.data.toList) (by rw [eg, hg1]; rfl))
      rw [(addr_bad _ hg1).1, (addr_bad _ hg1).2] at H1
      clear g1 hg1 eg H3
      generalize Ad.numOut (Nt.back s.data.toList) 32 = B at *
      generalize Ad.numErr (Nt.back s.data.toList) 32 = E at *
      go_enter Tryd.func8, Tryd.ntmps8
      go_wp2_with fail
      rw [← hw1]
      clear hw1
      refine (HI.out _).mono ?_
      rintro e w2 ⟨rfl, hw2⟩
      rw [hw2]
      clear hw2 w2
      go_wp2_with fail
      refine (H1.out _ (Below.refl _ _)).mono ?_
      rintro e w3 ⟨rfl, hb3⟩
      go_wp2_with fail
      refine (H2.out _ hb3).mono ?_
      rintro e w4 ⟨rfl, hb4⟩
      have R4 := HR.out _ hb4
      obtain ⟨p0, p1⟩ := two_cells R4
      have f0 := R4.frozenAt 0
      have f1 := R4.frozenAt 1
      have R5 := two_set R4 (.int .u32 0) (.int .i64 0)
      have hB7 := hA.trans (hb4.mono (by omega))
      go_wp2
      exact bodyPost_ret (net_ret Tryd.results8 rfl rfl R5) rfl ⟨ret_net_err (by rw [Hr.out.2.1, Hr.out.2.2]; rfl) (by rw [Hr.out.1]; rfl), (hB7.setCell (Nat.le_refl _) _).setCell (Nat.le_refl _) _⟩
end Go.Proofs.YthcdebdohlffpaaDoor
