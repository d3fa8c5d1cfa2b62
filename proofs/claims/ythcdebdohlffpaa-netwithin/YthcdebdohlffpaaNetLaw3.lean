/- The law NetJoined walked. -/
import Derived.Test.YthcdebdohlffpaaNetCode
import Derived.Test.YthcdebdohlffpaaNetFacts
import Derived.Test.YthcdebdohlffpaaNetThree
import Derived.Test.YthcdebdohlffpaaThreeRaws
import Derived.Deep.DeepCutAuto
import Derived.Laws.StructEq
import Derived.Deep.RegionHeld3
namespace Go.Proofs.Ythcdebdohlffpaa
open Go.RowKit

def frNetJoined (R1 R2 R3 : Value) (n : Nat) (v7 v8 v9 l1 c1 l2 c2 l3 c3 : Value) : Act := { tmps := #[R1, R2, R3, .pointer (some ⟨n, 0, none⟩), .pointer (some ⟨n + 1, 0, none⟩), .pointer (some ⟨n + 1 + 1, 0, none⟩), .bool false, v7, v8, v9, undef, undef, undef, undef, l1, c1, l2, c2, l3, c3, undef, undef, undef, undef, undef, undef, undef, undef, undef, undef, undef, undef, undef, undef, undef, undef, undef, undef, undef, undef, undef, undef, undef, undef, undef, undef, undef, undef, undef, undef, undef, undef, undef, undef, undef, undef, undef, undef, undef, undef, undef, undef, undef, undef, undef, undef, undef, undef, undef], defers := [] }
set_option maxRecDepth 20000 in
set_option maxHeartbeats 6400000 in
theorem law_NetJoined (k1 a1 b1 : Int) (s1 : ByteArray) (k2 a2 b2 : Int) (s2 : ByteArray) (k3 a3 b3 : Int) (s3 : ByteArray) (w : World) (h1 : (-9223372036854775808 ≤ k1 ∧ k1 ≤ 9223372036854775807) ∧ (-9223372036854775808 ≤ a1 ∧ a1 ≤ 9223372036854775807) ∧ (-9223372036854775808 ≤ b1 ∧ b1 ≤ 9223372036854775807)) (h2 : (-9223372036854775808 ≤ k2 ∧ k2 ≤ 9223372036854775807) ∧ (-9223372036854775808 ≤ a2 ∧ a2 ≤ 9223372036854775807) ∧ (-9223372036854775808 ≤ b2 ∧ b2 ≤ 9223372036854775807)) (h3 : (-9223372036854775808 ≤ k3 ∧ k3 ≤ 9223372036854775807) ∧ (-9223372036854775808 ≤ a3 ∧ a3 ≤ 9223372036854775807) ∧ (-9223372036854775808 ≤ b3 ∧ b3 ≤ 9223372036854775807)) :
    Calls Try.prog 7 #[rawV k1 a1 b1 s1, rawV k2 a2 b2 s2, rawV k3 a3 b3 s3] w fun e w' => e = .returned (.bool true) ∧ Below w.heap.size w w' := by
  obtain ⟨w1, hw1⟩ : ∃ w1, w1 = ((w.alloc (.cells #[.int .i64 k1, .int .i64 a1, .int .i64 b1, .string s1] 36)).alloc (.cells #[.int .i64 k2, .int .i64 a2, .int .i64 b2, .string s2] 36)).alloc (.cells #[.int .i64 k3, .int .i64 a3, .int .i64 b3, .string s3] 36) := ⟨_, rfl⟩
  obtain ⟨hA, hz1, g1, g2, g3⟩ : Below w.heap.size w w1 ∧ w1.heap.size = w.heap.size + 3 ∧ w1.heap[w.heap.size]? = some (.cells #[.int .i64 k1, .int .i64 a1, .int .i64 b1, .string s1] 36 (0, 0)) ∧ w1.heap[w.heap.size + 1]? = some (.cells #[.int .i64 k2, .int .i64 a2, .int .i64 b2, .string s2] 36 (0, 0)) ∧
      w1.heap[w.heap.size + 1 + 1]? = some (.cells #[.int .i64 k3, .int .i64 a3, .int .i64 b3, .string s3] 36 (0, 0)) := by rw [hw1]; exact three_blocks w _ _ _
  have HS : Hid (∀ W, Below w1.heap.size w1 W → W.cell? ⟨w.heap.size, 0, none⟩ = some (.int .i64 k1) ∧ W.cell? ⟨w.heap.size, 1, none⟩ = some (.int .i64 a1) ∧ W.cell? ⟨w.heap.size, 2, none⟩ = some (.int .i64 b1) ∧ W.cell? ⟨w.heap.size, 3, none⟩ = some (.string s1) ∧ W.cell? ⟨w.heap.size + 1, 0, none⟩ = some (.int .i64 k2) ∧ W.cell? ⟨w.heap.size + 1, 1, none⟩ = some (.int .i64 a2) ∧ W.cell? ⟨w.heap.size + 1, 2, none⟩ = some (.int .i64 b2) ∧ W.cell? ⟨w.heap.size + 1, 3, none⟩ = some (.string s2) ∧ W.cell? ⟨w.heap.size + 1 + 1, 0, none⟩ = some (.int .i64 k3) ∧ W.cell? ⟨w.heap.size + 1 + 1, 1, none⟩ = some (.int .i64 a3) ∧ W.cell? ⟨w.heap.size + 1 + 1, 2, none⟩ = some (.int .i64 b3) ∧ W.cell? ⟨w.heap.size + 1 + 1, 3, none⟩ = some (.string s3)) := Lib.hid fun W hW => by
    obtain ⟨c0, c1, c2, c3⟩ := raw_cells g1 hW
    obtain ⟨c4, c5, c6, c7⟩ := raw_cells g2 hW
    obtain ⟨c8, c9, c10, c11⟩ := raw_cells g3 hW
    exact ⟨c0, c1, c2, c3, c4, c5, c6, c7, c8, c9, c10, c11⟩
  have G1 := Lib.hid (raw_good k1 a1 b1)
  have G2 := Lib.hid (raw_good k2 a2 b2)
  have G3 := Lib.hid (raw_good k3 a3 b3)
  have H1 : Hid (∀ W, Calls Try.prog 21 #[(.agg #[.int .i64 k1, .int .i64 a1, .int .i64 b1, .string s1])] W fun e W' => e = .returned (.agg #[.int .u32 (Nt.rawA k1 a1 b1 : Int), .int .i64 (Nt.rawB k1 a1 b1 : Int)]) ∧ Below W.heap.size W W') := Lib.hid fun W => keep_Net k1 a1 b1 s1 W h1.1.1 h1.1.2 h1.2.1.1 h1.2.1.2 h1.2.2.1 h1.2.2.2
  have H2 : Hid (∀ W, Calls Try.prog 21 #[(.agg #[.int .i64 k2, .int .i64 a2, .int .i64 b2, .string s2])] W fun e W' => e = .returned (.agg #[.int .u32 (Nt.rawA k2 a2 b2 : Int), .int .i64 (Nt.rawB k2 a2 b2 : Int)]) ∧ Below W.heap.size W W') := Lib.hid fun W => keep_Net k2 a2 b2 s2 W h2.1.1 h2.1.2 h2.2.1.1 h2.2.1.2 h2.2.2.1 h2.2.2.2
  have H3 : Hid (∀ W, Calls Try.prog 21 #[(.agg #[.int .i64 k3, .int .i64 a3, .int .i64 b3, .string s3])] W fun e W' => e = .returned (.agg #[.int .u32 (Nt.rawA k3 a3 b3 : Int), .int .i64 (Nt.rawB k3 a3 b3 : Int)]) ∧ Below W.heap.size W W') := Lib.hid fun W => keep_Net k3 a3 b3 s3 W h3.1.1 h3.1.2 h3.2.1.1 h3.2.1.2 h3.2.2.1 h3.2.2.2
  clear h1 h2 h3 g1 g2 g3
  unfold rawV
  generalize Nt.rawA k1 a1 b1 = A at *
  generalize Nt.rawA k2 a2 b2 = B at *
  generalize Nt.rawA k3 a3 b3 = C at *
  generalize Nt.rawB k1 a1 b1 = p at *
  generalize Nt.rawB k2 a2 b2 = q at *
  generalize Nt.rawB k3 a3 b3 = r at *
  go_enter Try.func7, Try.ntmps7
  go_upto_region 1 with fail
  rw [← hw1]
  clear hw1
  go_cut [7, 8, 9] (fun v1 v2 v3 wx => ∃ g1 g2 g3 : Nat, v1 = .pointer (some ⟨g1, 0, none⟩) ∧ v2 = .pointer (some ⟨g2, 0, none⟩) ∧ v3 = .pointer (some ⟨g3, 0, none⟩) ∧ Hid (NetIn wx g1 A p ∧ NetIn wx g2 B q ∧ NetIn wx g3 C r ∧ Below w.heap.size w wx))
  case first =>
    have hmix : Try.prog.follows .mixedOrders = true := by kernel_rfl
    refine wp_region_inv (Three w1 (.agg #[.int .i64 k1, .int .i64 a1, .int .i64 b1, .string s1]) (.agg #[.int .i64 k2, .int .i64 a2, .int .i64 b2, .string s2]) (.agg #[.int .i64 k3, .int .i64 a3, .int .i64 b3, .string s3]) A B C p q r (frNetJoined (.agg #[.int .i64 k1, .int .i64 a1, .int .i64 b1, .string s1]) (.agg #[.int .i64 k2, .int .i64 a2, .int .i64 b2, .string s2]) (.agg #[.int .i64 k3, .int .i64 a3, .int .i64 b3, .string s3]) w.heap.size)) hmix (fun _ _ _ h => by obtain ⟨_, _, _, _, _, _, _, _, _, _, _, _, _, h⟩ := h; exact h.size) ?init ?step ?done ?low
    case init => exact ⟨undef, undef, undef, undef, undef, undef, undef, undef, undef, 0, 0, 0, rfl, ThreeP.begin w1 _ (Below.refl _ _).drew⟩
    case low =>
      intro i o ho
      have hi : i < 12 := by
        have := (Array.getElem?_eq_some_iff.1 ho).1
        simpa using this
      have hc : i = 0 ∨ i = 1 ∨ i = 2 ∨ i = 3 ∨ i = 4 ∨ i = 5 ∨ i = 6 ∨ i = 7 ∨ i = 8 ∨ i = 9 ∨ i = 10 ∨ i = 11 := by omega
      rcases hc with rfl | rfl | rfl | rfl | rfl | rfl | rfl | rfl | rfl | rfl | rfl | rfl <;> (obtain rfl := Option.some.inj ho; simp)
    case done =>
      intro listed a W hI hc
      obtain ⟨v7, v8, v9, l1, c1, l2, c2, l3, c3, g7, g8, g9, rfl, h⟩ := hI
      have hall : ∀ j, j < 12 → listed.getD j false = true := listed_all h.size hc
      have e7 := (h.p6 (hall 6 (by decide))).1
      have e8 := (h.p7 (hall 7 (by decide))).1
      have e9 := (h.p8 (hall 8 (by decide))).1
      have HN := Lib.hid (And.intro (h.n9 (hall 9 (by decide))) (And.intro (h.n10 (hall 10 (by decide))) (And.intro (h.n11 (hall 11 (by decide))) (hA.trans (h.below.mono (by omega))))))
      clear h hall hc
      unfold frNetJoined
      go_wp2_with fail
      go_meet
      case rel => exact ⟨g7, g8, g9, e7, e8, e9, HN⟩
    case step =>
      intro listed a W hI i o ho h0 hdep
      have hi : i < 12 := by
        have := (Array.getElem?_eq_some_iff.1 ho).1
        simpa using this
      obtain ⟨v7, v8, v9, l1, c1, l2, c2, l3, c3, g7, g8, g9, rfl, h⟩ := hI
      have Hh := Lib.hid h
      have h00 : listed.getD i false = false := getD_false h0
      clear h
      have hc : i = 0 ∨ i = 1 ∨ i = 2 ∨ i = 3 ∨ i = 4 ∨ i = 5 ∨ i = 6 ∨ i = 7 ∨ i = 8 ∨ i = 9 ∨ i = 10 ∨ i = 11 := by omega
      rcases hc with rfl | rfl | rfl | rfl | rfl | rfl | rfl | rfl | rfl | rfl | rfl | rfl
      · refine wpOp_plain rfl rfl ?_
        clear ho hdep h0
        unfold Oper.wp frNetJoined
        obtain ⟨y0, y1, y2, y3, _, _, _, _, _, _, _, _⟩ := HS.out W Hh.out.below
        go_simp
        exact ⟨_, _, _, _, _, _, _, _, _, _, _, _, rfl, Hh.out.load1⟩
      · obtain rfl := Option.some.inj ho
        have hl := Hh.out.e0 (hdep ⟨0, .data⟩ (by simp) rfl)
        subst hl
        refine wpOp_plain rfl rfl ?_
        clear hdep h0
        unfold Oper.wp frNetJoined
        go_simp
        refine (H1.out _).mono ?_
        rintro e x1 ⟨rfl, y1⟩
        exact ⟨_, _, _, _, _, _, _, _, _, _, _, _, rfl, Hh.out.call1 y1⟩
      · refine wpOp_plain rfl rfl ?_
        clear ho hdep h0
        unfold Oper.wp frNetJoined
        obtain ⟨_, _, _, _, y4, y5, y6, y7, _, _, _, _⟩ := HS.out W Hh.out.below
        go_simp
        exact ⟨_, _, _, _, _, _, _, _, _, _, _, _, rfl, Hh.out.load2⟩
      · obtain rfl := Option.some.inj ho
        have hl := Hh.out.e2 (hdep ⟨2, .data⟩ (by simp) rfl)
        subst hl
        refine wpOp_plain rfl rfl ?_
        clear hdep h0
        unfold Oper.wp frNetJoined
        go_simp
        refine (H2.out _).mono ?_
        rintro e x1 ⟨rfl, y1⟩
        exact ⟨_, _, _, _, _, _, _, _, _, _, _, _, rfl, Hh.out.call2 y1⟩
      · refine wpOp_plain rfl rfl ?_
        clear ho hdep h0
        unfold Oper.wp frNetJoined
        obtain ⟨_, _, _, _, _, _, _, _, y8, y9, y10, y11⟩ := HS.out W Hh.out.below
        go_simp
        exact ⟨_, _, _, _, _, _, _, _, _, _, _, _, rfl, Hh.out.load3⟩
      · obtain rfl := Option.some.inj ho
        have hl := Hh.out.e4 (hdep ⟨4, .data⟩ (by simp) rfl)
        subst hl
        refine wpOp_plain rfl rfl ?_
        clear hdep h0
        unfold Oper.wp frNetJoined
        go_simp
        refine (H3.out _).mono ?_
        rintro e x1 ⟨rfl, y1⟩
        exact ⟨_, _, _, _, _, _, _, _, _, _, _, _, rfl, Hh.out.call3 y1⟩
      · have hj : listed.getD 9 false = false := by
          cases hx : listed.getD 9 false
          · rfl
          · rw [Hh.out.i9 hx] at h00; cases h00
        refine wpOp_plain rfl rfl ?_
        clear ho hdep h0
        unfold Oper.wp frNetJoined
        go_simp
        exact ⟨_, _, _, _, _, _, _, _, _, _, _, _, rfl, Hh.out.alloc7 hj⟩
      · have hj : listed.getD 10 false = false := by
          cases hx : listed.getD 10 false
          · rfl
          · rw [Hh.out.i10 hx] at h00; cases h00
        refine wpOp_plain rfl rfl ?_
        clear ho hdep h0
        unfold Oper.wp frNetJoined
        go_simp
        exact ⟨_, _, _, _, _, _, _, _, _, _, _, _, rfl, Hh.out.alloc8 hj⟩
      · have hj : listed.getD 11 false = false := by
          cases hx : listed.getD 11 false
          · rfl
          · rw [Hh.out.i11 hx] at h00; cases h00
        refine wpOp_plain rfl rfl ?_
        clear ho hdep h0
        unfold Oper.wp frNetJoined
        go_simp
        exact ⟨_, _, _, _, _, _, _, _, _, _, _, _, rfl, Hh.out.alloc9 hj⟩
      · obtain rfl := Option.some.inj ho
        have hl := hdep ⟨6, .data⟩ (by simp) rfl
        have hv := (Hh.out.p6 hl).1
        have hcv := Hh.out.e1 (hdep ⟨1, .data⟩ (by simp) rfl)
        have hz := Hh.out.z6 hl h00
        obtain ⟨m0, m1⟩ := two_cells hz.own
        have f0 := hz.own.frozenAt 0
        have f1 := hz.own.frozenAt 1
        subst hv hcv
        refine wpOp_plain rfl rfl ?_
        clear hdep h0 hz
        unfold Oper.wp frNetJoined netV
        go_simp
        exact ⟨_, _, _, _, _, _, _, _, _, _, _, _, rfl, Hh.out.store7 h00 hl⟩
      · obtain rfl := Option.some.inj ho
        have hl := hdep ⟨7, .data⟩ (by simp) rfl
        have hv := (Hh.out.p7 hl).1
        have hcv := Hh.out.e3 (hdep ⟨3, .data⟩ (by simp) rfl)
        have hz := Hh.out.z7 hl h00
        obtain ⟨m0, m1⟩ := two_cells hz.own
        have f0 := hz.own.frozenAt 0
        have f1 := hz.own.frozenAt 1
        subst hv hcv
        refine wpOp_plain rfl rfl ?_
        clear hdep h0 hz
        unfold Oper.wp frNetJoined netV
        go_simp
        exact ⟨_, _, _, _, _, _, _, _, _, _, _, _, rfl, Hh.out.store8 h00 hl⟩
      · obtain rfl := Option.some.inj ho
        have hl := hdep ⟨8, .data⟩ (by simp) rfl
        have hv := (Hh.out.p8 hl).1
        have hcv := Hh.out.e5 (hdep ⟨5, .data⟩ (by simp) rfl)
        have hz := Hh.out.z8 hl h00
        obtain ⟨m0, m1⟩ := two_cells hz.own
        have f0 := hz.own.frozenAt 0
        have f1 := hz.own.frozenAt 1
        subst hv hcv
        refine wpOp_plain rfl rfl ?_
        clear hdep h0 hz
        unfold Oper.wp frNetJoined netV
        go_simp
        exact ⟨_, _, _, _, _, _, _, _, _, _, _, _, rfl, Hh.out.store9 h00 hl⟩
  case rest =>
    obtain ⟨g1, g2, g3, rfl, rfl, rfl, HN⟩ := hcut
    have Hc : Hid (∀ W, Below wc.heap.size wc W → (W.cell? ⟨g1, 0, none⟩ = some (.int .u32 (A : Int)) ∧ W.cell? ⟨g1, 1, none⟩ = some (.int .i64 (p : Int))) ∧ (W.cell? ⟨g2, 0, none⟩ = some (.int .u32 (B : Int)) ∧ W.cell? ⟨g2, 1, none⟩ = some (.int .i64 (q : Int))) ∧ (W.cell? ⟨g3, 0, none⟩ = some (.int .u32 (C : Int)) ∧ W.cell? ⟨g3, 1, none⟩ = some (.int .i64 (r : Int)))) :=
      Lib.hid fun W hW => ⟨net_cells HN.out.1 hW, net_cells HN.out.2.1 hW, net_cells HN.out.2.2.1 hW⟩
    have hgl : g1 < wc.heap.size ∧ g2 < wc.heap.size ∧ g3 < wc.heap.size := ⟨HN.out.1.lt, HN.out.2.1.lt, HN.out.2.2.1.lt⟩
    obtain ⟨u1, u2, u3⟩ := hgl
    obtain ⟨lA, lp, eA⟩ := G1.out
    obtain ⟨lB, lq, eB⟩ := G2.out
    obtain ⟨lC, lr, eC⟩ := G3.out
    have H4 := Lib.hid (fun W => net_Join A (p : Int) B (q : Int) W lA lB (by omega) (by omega) (by omega) (by omega))
    have H5 := Lib.hid (fun W => net_Join B (q : Int) A (p : Int) W lB lA (by omega) (by omega) (by omega) (by omega))
    rw [(Nt.join_good eA eB).1] at H4
    rw [(Nt.join_good eB eA).1, (Nt.join_comm eA eB lA lB).1, (Nt.join_comm eA eB lA lB).2] at H5
    obtain ⟨j1, j2, j3, j4⟩ := Nt.join_le eA eB
    have lJ : Nt.joinAddr A (p : Int) B (q : Int) < 4294967296 := by rw [(Nt.join_good eA eB).2.2]; exact Nt.cut_lt _ _ lA
    have H6 := Lib.hid (fun W => net_Holds (Nt.joinAddr A (p : Int) B (q : Int)) (Nt.joinBits A (p : Int) B (q : Int) : Int) A (p : Int) W lJ lA (by omega) (by omega) (by omega) (by omega))
    have H7 := Lib.hid (fun W => net_Holds (Nt.joinAddr A (p : Int) B (q : Int)) (Nt.joinBits A (p : Int) B (q : Int) : Int) B (q : Int) W lJ lB (by omega) (by omega) (by omega) (by omega))
    rw [(Nt.join_holds eA eB lA lB).1] at H6
    rw [(Nt.join_holds eA eB lA lB).2] at H7
    have H8 := Lib.hid (fun W => net_Holds C (r : Int) A (p : Int) W lC lA (by omega) (by omega) (by omega) (by omega))
    have H9 := Lib.hid (fun W => net_Holds C (r : Int) B (q : Int) W lC lB (by omega) (by omega) (by omega) (by omega))
    have H10 := Lib.hid (fun W => net_Holds C (r : Int) (Nt.joinAddr A (p : Int) B (q : Int)) (Nt.joinBits A (p : Int) B (q : Int) : Int) W lC lJ (by omega) (by omega) (by omega) (by omega))
    have HL := Lib.hid (fun x y => Nt.join_least (n := A) (b := (p : Int)) (m := B) (c := (q : Int)) (p := C) (d := (r : Int)) x y)
    have HBc := Lib.hid HN.out.2.2.2
    clear HS H1 H2 H3 G1 G2 G3 lA lB lC lJ eA eB eC j1 j2 j3 j4 HN hA hz1 lp lq lr
    unfold netV at H4 H5 H6 H7 H8 H9 H10
    generalize Nt.joinAddr A (p : Int) B (q : Int) = J at *
    generalize Nt.joinBits A (p : Int) B (q : Int) = K at *
    obtain ⟨⟨m0, m1⟩, ⟨m2, m3⟩, ⟨m4, m5⟩⟩ := Hc.out wc (Below.refl _ _)
    go_wp2_with fail
    refine (H4.out _).mono ?_
    rintro e w2 ⟨rfl, b2⟩
    clear m0 m1 m2 m3 m4 m5
    obtain ⟨⟨m0, m1⟩, ⟨m2, m3⟩, ⟨m4, m5⟩⟩ := Hc.out w2 b2
    have z2 := b2.size
    have y1 : g1 < w2.heap.size := by omega
    have y2 : g2 < w2.heap.size := by omega
    have y3 : g3 < w2.heap.size := by omega
    go_wp2_with fail
    refine (H5.out _).mono ?_
    rintro e w3 ⟨rfl, b3⟩
    have B3 := (b2.alloc b2.size (.cells #[.int .u32 (J : Int), .int .i64 (K : Int)] 24)).trans (b3.mono (by simp; omega))
    have z3 : w2.heap.size < w3.heap.size := by have := b3.size; simp at this; omega
    clear m0 m1 m2 m3 m4 m5
    obtain ⟨⟨m0, m1⟩, ⟨m2, m3⟩, ⟨m4, m5⟩⟩ := Hc.out w3 B3
    have HJ0 := Lib.hid b3
    obtain ⟨t0, t1⟩ := net_cells (heap_alloc_last w2 _) b3
    clear b3
    have y1 : g1 < w3.heap.size := by omega
    have y2 : g2 < w3.heap.size := by omega
    have y3 : g3 < w3.heap.size := by omega
    obtain ⟨W4, hW4⟩ : ∃ W4, W4 = w3.alloc (.cells #[.int .u32 (J : Int), .int .i64 (K : Int)] 24) := ⟨_, rfl⟩
    have HW4 := Lib.hid hW4
    have B4 : Below wc.heap.size wc W4 := by rw [hW4]; exact B3.alloc B3.size _
    have HJ : Hid (∀ W, Below W4.heap.size W4 W → W.cell? ⟨w2.heap.size, 0, none⟩ = some (.int .u32 (J : Int)) ∧ W.cell? ⟨w2.heap.size, 1, none⟩ = some (.int .i64 (K : Int))) := Lib.hid fun W hW => by
      refine net_cells (heap_alloc_last w2 _) (HJ0.out.trans ?_)
      have : Below w3.heap.size w3 W := by
        have h1 : Below w3.heap.size w3 W4 := by rw [HW4.out]; exact (Below.refl _ _).alloc (Nat.le_refl _) _
        exact h1.trans (hW.mono h1.size)
      exact this.mono HJ0.out.size
    clear hW4
    go_wp2_with fail
    rw [← HW4.out]
    clear HW4
    refine (H6.out _).mono ?_
    rintro e w5 ⟨rfl, b5⟩
    have B5 := B4.trans (b5.mono B4.size)
    clear m0 m1 m2 m3 m4 m5 t0 t1
    obtain ⟨⟨m0, m1⟩, ⟨m2, m3⟩, ⟨m4, m5⟩⟩ := Hc.out w5 B5
    obtain ⟨t0, t1⟩ := HJ.out w5 b5
    go_wp2_with fail
    refine (H7.out _).mono ?_
    rintro e w6 ⟨rfl, b6⟩
    have C6 := b5.trans (b6.mono b5.size)
    have B6 := B4.trans (C6.mono B4.size)
    clear m0 m1 m2 m3 m4 m5 t0 t1
    obtain ⟨⟨m0, m1⟩, ⟨m2, m3⟩, ⟨m4, m5⟩⟩ := Hc.out w6 B6
    obtain ⟨t0, t1⟩ := HJ.out w6 C6
    by_cases x1 : Nt.holds C (r : Int) A (p : Int) = true
    · rw [x1] at H8
      by_cases x2 : Nt.holds C (r : Int) B (q : Int) = true
      · rw [x2] at H9
        rw [HL.out x1 x2] at H10
        clear x1 x2 HL
        go_wp2_with fail
        refine (H8.out _).mono ?_
        rintro e w7 ⟨rfl, b7⟩
        have C7 := C6.trans (b7.mono C6.size)
        have B7 := B4.trans (C7.mono B4.size)
        clear m0 m1 m2 m3 m4 m5 t0 t1
        obtain ⟨⟨m0, m1⟩, ⟨m2, m3⟩, ⟨m4, m5⟩⟩ := Hc.out w7 B7
        go_wp2_with fail
        refine (H9.out _).mono ?_
        rintro e w8 ⟨rfl, b8⟩
        have C8 := C7.trans (b8.mono C7.size)
        have B8 := B4.trans (C8.mono B4.size)
        clear m0 m1 m2 m3 m4 m5
        obtain ⟨⟨m0, m1⟩, ⟨m2, m3⟩, ⟨m4, m5⟩⟩ := Hc.out w8 B8
        obtain ⟨t0, t1⟩ := HJ.out w8 C8
        go_wp2_with fail
        refine (H10.out _).mono ?_
        rintro e w9 ⟨rfl, b9⟩
        have B9 := B8.trans (b9.mono B8.size)
        clear m0 m1 m2 m3 m4 m5 t0 t1
        go_wp2
        go_ret
        exact ⟨by simp, HBc.out.trans (B9.mono HBc.out.size)⟩
      · rw [show Nt.holds C (r : Int) B (q : Int) = false by simpa using x2] at H9
        clear x1 x2 HL
        go_wp2_with fail
        refine (H8.out _).mono ?_
        rintro e w7 ⟨rfl, b7⟩
        have C7 := C6.trans (b7.mono C6.size)
        have B7 := B4.trans (C7.mono B4.size)
        clear m0 m1 m2 m3 m4 m5 t0 t1
        obtain ⟨⟨m0, m1⟩, ⟨m2, m3⟩, ⟨m4, m5⟩⟩ := Hc.out w7 B7
        go_wp2_with fail
        refine (H9.out _).mono ?_
        rintro e w8 ⟨rfl, b8⟩
        have B8 := B7.trans (b8.mono B7.size)
        clear m0 m1 m2 m3 m4 m5
        go_wp2
        go_ret
        exact ⟨by simp, HBc.out.trans (B8.mono HBc.out.size)⟩
    · rw [show Nt.holds C (r : Int) A (p : Int) = false by simpa using x1] at H8
      clear x1 HL
      go_wp2_with fail
      refine (H8.out _).mono ?_
      rintro e w7 ⟨rfl, b7⟩
      have B7 := B6.trans (b7.mono B6.size)
      clear m0 m1 m2 m3 m4 m5 t0 t1
      go_wp2
      go_ret
      exact ⟨by simp, HBc.out.trans (B7.mono HBc.out.size)⟩
end Go.Proofs.Ythcdebdohlffpaa
