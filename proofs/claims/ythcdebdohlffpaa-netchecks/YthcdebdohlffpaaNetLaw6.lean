/- The law NetWithin walked. -/
import Derived.Test.YthcdebdohlffpaaNetCode
import Derived.Test.YthcdebdohlffpaaNetFacts
import Derived.Test.YthcdebdohlffpaaNetThree
import Derived.Test.YthcdebdohlffpaaThreeRaws
import Derived.Deep.DeepCutAuto
import Derived.Laws.StructEq
import Derived.Deep.RegionHeld3
namespace Go.Proofs.Ythcdebdohlffpaa
open Go.RowKit

def frNetWithin (R1 R2 R3 : Value) (n : Nat) (v7 v8 v9 l1 c1 l2 c2 l3 c3 : Value) : Act := { tmps := #[R1, R2, R3, .pointer (some ⟨n, 0, none⟩), .pointer (some ⟨n + 1, 0, none⟩), .pointer (some ⟨n + 1 + 1, 0, none⟩), .bool false, v7, v8, v9, l1, c1, l2, c2, l3, c3, undef, undef, undef, undef, undef, undef, undef, undef, undef, undef, undef, undef, undef, undef, undef, undef, undef, undef, undef, undef, undef, undef, undef, undef, undef, undef, undef, undef, undef, undef, undef, undef, undef, undef, undef, undef, undef, undef, undef, undef, undef, undef, undef, undef, undef, undef, undef, undef, undef, undef, undef, undef, undef, undef, undef, undef, undef, undef, undef, undef, undef, undef], defers := [] }
set_option maxRecDepth 20000 in
set_option maxHeartbeats 6400000 in
theorem law_NetWithin (k1 a1 b1 : Int) (s1 : ByteArray) (k2 a2 b2 : Int) (s2 : ByteArray) (k3 a3 b3 : Int) (s3 : ByteArray) (w : World) (h1 : (-9223372036854775808 ≤ k1 ∧ k1 ≤ 9223372036854775807) ∧ (-9223372036854775808 ≤ a1 ∧ a1 ≤ 9223372036854775807) ∧ (-9223372036854775808 ≤ b1 ∧ b1 ≤ 9223372036854775807)) (h2 : (-9223372036854775808 ≤ k2 ∧ k2 ≤ 9223372036854775807) ∧ (-9223372036854775808 ≤ a2 ∧ a2 ≤ 9223372036854775807) ∧ (-9223372036854775808 ≤ b2 ∧ b2 ≤ 9223372036854775807)) (h3 : (-9223372036854775808 ≤ k3 ∧ k3 ≤ 9223372036854775807) ∧ (-9223372036854775808 ≤ a3 ∧ a3 ≤ 9223372036854775807) ∧ (-9223372036854775808 ≤ b3 ∧ b3 ≤ 9223372036854775807)) :
    Calls Try.prog 6 #[rawV k1 a1 b1 s1, rawV k2 a2 b2 s2, rawV k3 a3 b3 s3] w fun e w' => e = .returned (.bool true) ∧ Below w.heap.size w w' := by
  obtain ⟨w1, hw1⟩ : ∃ w1, w1 = ((w.alloc (.cells #[.int .i64 k1, .int .i64 a1, .int .i64 b1, .string s1] 36)).alloc (.cells #[.int .i64 k2, .int .i64 a2, .int .i64 b2, .string s2] 36)).alloc (.cells #[.int .i64 k3, .int .i64 a3, .int .i64 b3, .string s3] 36) := ⟨_, rfl⟩
  obtain ⟨hA, hz1, g1, g2, g3⟩ : Below w.heap.size w w1 ∧ w1.heap.size = w.heap.size + 3 ∧ w1.heap[w.heap.size]? = some (.cells #[.int .i64 k1, .int .i64 a1, .int .i64 b1, .string s1] 36 (0, 0)) ∧ w1.heap[w.heap.size + 1]? = some (.cells #[.int .i64 k2, .int .i64 a2, .int .i64 b2, .string s2] 36 (0, 0)) ∧
      w1.heap[w.heap.size + 1 + 1]? = some (.cells #[.int .i64 k3, .int .i64 a3, .int .i64 b3, .string s3] 36 (0, 0)) := by rw [hw1]; exact three_blocks w _ _ _
  have HS : Hid (∀ W, Below w1.heap.size w1 W → W.cell? ⟨w.heap.size, 0, none⟩ = some (.int .i64 k1) ∧ W.cell? ⟨w.heap.size, 1, none⟩ = some (.int .i64 a1) ∧ W.cell? ⟨w.heap.size, 2, none⟩ = some (.int .i64 b1) ∧ W.cell? ⟨w.heap.size, 3, none⟩ = some (.string s1) ∧ W.cell? ⟨w.heap.size + 1, 0, none⟩ = some (.int .i64 k2) ∧ W.cell? ⟨w.heap.size + 1, 1, none⟩ = some (.int .i64 a2) ∧ W.cell? ⟨w.heap.size + 1, 2, none⟩ = some (.int .i64 b2) ∧ W.cell? ⟨w.heap.size + 1, 3, none⟩ = some (.string s2) ∧ W.cell? ⟨w.heap.size + 1 + 1, 0, none⟩ = some (.int .i64 k3) ∧ W.cell? ⟨w.heap.size + 1 + 1, 1, none⟩ = some (.int .i64 a3) ∧ W.cell? ⟨w.heap.size + 1 + 1, 2, none⟩ = some (.int .i64 b3) ∧ W.cell? ⟨w.heap.size + 1 + 1, 3, none⟩ = some (.string s3)) := Lib.hid fun W hW => by
    obtain ⟨c0, c1, c2, c3⟩ := raw_cells g1 hW
    obtain ⟨c4, c5, c6, c7⟩ := raw_cells g2 hW
    obtain ⟨c8, c9, c10, c11⟩ := raw_cells g3 hW
    exact ⟨c0, c1, c2, c3, c4, c5, c6, c7, c8, c9, c10, c11⟩
  have G1 := Lib.hid (raw_good k1 a1 b1)
  have G2 := Lib.hid (raw_good k2 a2 b2)
  have G3 := Lib.hid (raw_good k3 a3 b3)
  have H1 : Hid (∀ W, Calls Try.prog 21 #[(.agg #[.int .i64 k1, .int .i64 a1, .int .i64 b1, .string s1])] W fun e W' => e = .returned (.agg #[.int .u32 (Nt.rawA k1 a1 b1 : Int), .int .i64 (Nt.rawB k1 a1 b1 : Int)]) ∧ Below W.heap.size W W') := Lib.hid fun W => keep_Net k1 a1 b1 s1 W h1.1.1 h1.1.2 h1.2.1.1 h1.2.1.2 h1.2.2.1 h1.2.2.2
  have H2 : Hid (∀ W, Calls Try.prog 21 #[(.agg #[.int .i64 k2, .int .i64 a2, .int .i64 b2, .string s2])] W fun e W' => e = .returned (.agg #[.int .u32 (Nt.rawA k2 a2 b2 : Int), .int .i64 (Nt.rawB k2 a2 b2 : Int)]) ∧ Below W.heap.size W W') := Lib.hid fun W => keep_Net k2 a2 b2 s2 W h2.1.1 h2.1.2 h2.2.1.1 h2.2.1.2 h2.2.2.1 h2.2.2.2
  have H3 : Hid (∀ W, Calls Try.prog 21 #[(.agg #[.int .i64 k3, .int .i64 a3, .int .i64 b3, .string s3])] W fun e W' => e = .returned (.agg #[.int .u32 (Nt.rawA k3 a3 b3 : Int), .int .i64 (Nt.rawB k3 a3 b3 : Int)]) ∧ Below W.heap.size W W') := Lib.hid fun W => keep_Net k3 a3 b3 s3 W h3.1.1 h3.1.2 h3.2.1.1 h3.2.1.2 h3.2.2.1 h3.2.2.2
  clear h1 h2 h3 g1 g2 g3
  unfold rawV
  generalize Nt.rawA k1 a1 b1 = A at *
  generalize Nt.rawA k2 a2 b2 = B at *
  generalize Nt.rawA k3 a3 b3 = C at *
  generalize Nt.rawB k1 a1 b1 = p at *
  generalize Nt.rawB k2 a2 b2 = q at *
  generalize Nt.rawB k3 a3 b3 = r at *
  go_enter Try.func6, Try.ntmps6
  go_upto_region 1 with fail
  rw [← hw1]
  clear hw1
  go_cut [7, 8, 9] (fun v1 v2 v3 wx => ∃ g1 g2 g3 : Nat, v1 = .pointer (some ⟨g1, 0, none⟩) ∧ v2 = .pointer (some ⟨g2, 0, none⟩) ∧ v3 = .pointer (some ⟨g3, 0, none⟩) ∧ Hid (NetIn wx g1 A p ∧ NetIn wx g2 B q ∧ NetIn wx g3 C r ∧ Below w.heap.size w wx))
  case first =>
    have hmix : Try.prog.follows .mixedOrders = true := by kernel_rfl
    refine wp_region_inv (Three w1 (.agg #[.int .i64 k1, .int .i64 a1, .int .i64 b1, .string s1]) (.agg #[.int .i64 k2, .int .i64 a2, .int .i64 b2, .string s2]) (.agg #[.int .i64 k3, .int .i64 a3, .int .i64 b3, .string s3]) A B C p q r (frNetWithin (.agg #[.int .i64 k1, .int .i64 a1, .int .i64 b1, .string s1]) (.agg #[.int .i64 k2, .int .i64 a2, .int .i64 b2, .string s2]) (.agg #[.int .i64 k3, .int .i64 a3, .int .i64 b3, .string s3]) w.heap.size)) hmix (fun _ _ _ h => by obtain ⟨_, _, _, _, _, _, _, _, _, _, _, _, _, h⟩ := h; exact h.size) ?init ?step ?done ?low
    case init => exact ⟨undef, undef, undef, undef, undef, undef, undef, undef, undef, 0, 0, 0, rfl, ThreeP.begin w1 _ (Below.refl _ _).drew⟩
    case low =>
      intro i o ho
      have hi : i < 12 := by
        have := (Array.getElem?_eq_some_iff.1 ho).1
        simpa using this
      have hc : i = 0 ∨ i = 1 ∨ i = 2 ∨ i = 3 ∨ i = 4 ∨ i = 5 ∨ i = 6 ∨ i = 7 ∨ i = 8 ∨ i = 9 ∨ i = 10 ∨ i = 11 := by omega
      rcases hc with rfl | rfl | rfl | rfl | rfl | rfl | rfl | rfl | rfl | rfl | rfl | rfl <;> (obtain rfl := Option.some.inj ho; simp)
    case done =>
      intro listed a W hI hc
      obtain ⟨v7, v8, v9, l1, c1, l2, c2, l3, c3, g7, g8, g9, rfl, h⟩ := hI
      have hall : ∀ j, j < 12 → listed.getD j false = true := listed_all h.size hc
      have e7 := (h.p6 (hall 6 (by decide))).1
      have e8 := (h.p7 (hall 7 (by decide))).1
      have e9 := (h.p8 (hall 8 (by decide))).1
      have HN := Lib.hid (And.intro (h.n9 (hall 9 (by decide))) (And.intro (h.n10 (hall 10 (by decide))) (And.intro (h.n11 (hall 11 (by decide))) (hA.trans (h.below.mono (by omega))))))
      clear h hall hc
      unfold frNetWithin
      go_wp2_with fail
      go_meet
      case rel => exact ⟨g7, g8, g9, e7, e8, e9, HN⟩
    case step =>
      intro listed a W hI i o ho h0 hdep
      have hi : i < 12 := by
        have := (Array.getElem?_eq_some_iff.1 ho).1
        simpa using this
      obtain ⟨v7, v8, v9, l1, c1, l2, c2, l3, c3, g7, g8, g9, rfl, h⟩ := hI
      have Hh := Lib.hid h
      have h00 : listed.getD i false = false := getD_false h0
      clear h
      have hc : i = 0 ∨ i = 1 ∨ i = 2 ∨ i = 3 ∨ i = 4 ∨ i = 5 ∨ i = 6 ∨ i = 7 ∨ i = 8 ∨ i = 9 ∨ i = 10 ∨ i = 11 := by omega
      rcases hc with rfl | rfl | rfl | rfl | rfl | rfl | rfl | rfl | rfl | rfl | rfl | rfl
      · refine wpOp_plain rfl rfl ?_
        clear ho hdep h0
        unfold Oper.wp frNetWithin
        obtain ⟨y0, y1, y2, y3, _, _, _, _, _, _, _, _⟩ := HS.out W Hh.out.below
        go_simp
        exact ⟨_, _, _, _, _, _, _, _, _, _, _, _, rfl, Hh.out.load1⟩
      · obtain rfl := Option.some.inj ho
        have hl := Hh.out.e0 (hdep ⟨0, .data⟩ (by simp) rfl)
        subst hl
        refine wpOp_plain rfl rfl ?_
        clear hdep h0
        unfold Oper.wp frNetWithin
        go_simp
        refine (H1.out _).mono ?_
        rintro e x1 ⟨rfl, y1⟩
        exact ⟨_, _, _, _, _, _, _, _, _, _, _, _, rfl, Hh.out.call1 y1⟩
      · refine wpOp_plain rfl rfl ?_
        clear ho hdep h0
        unfold Oper.wp frNetWithin
        obtain ⟨_, _, _, _, y4, y5, y6, y7, _, _, _, _⟩ := HS.out W Hh.out.below
        go_simp
        exact ⟨_, _, _, _, _, _, _, _, _, _, _, _, rfl, Hh.out.load2⟩
      · obtain rfl := Option.some.inj ho
        have hl := Hh.out.e2 (hdep ⟨2, .data⟩ (by simp) rfl)
        subst hl
        refine wpOp_plain rfl rfl ?_
        clear hdep h0
        unfold Oper.wp frNetWithin
        go_simp
        refine (H2.out _).mono ?_
        rintro e x1 ⟨rfl, y1⟩
        exact ⟨_, _, _, _, _, _, _, _, _, _, _, _, rfl, Hh.out.call2 y1⟩
      · refine wpOp_plain rfl rfl ?_
        clear ho hdep h0
        unfold Oper.wp frNetWithin
        obtain ⟨_, _, _, _, _, _, _, _, y8, y9, y10, y11⟩ := HS.out W Hh.out.below
        go_simp
        exact ⟨_, _, _, _, _, _, _, _, _, _, _, _, rfl, Hh.out.load3⟩
      · obtain rfl := Option.some.inj ho
        have hl := Hh.out.e4 (hdep ⟨4, .data⟩ (by simp) rfl)
        subst hl
        refine wpOp_plain rfl rfl ?_
        clear hdep h0
        unfold Oper.wp frNetWithin
        go_simp
        refine (H3.out _).mono ?_
        rintro e x1 ⟨rfl, y1⟩
        exact ⟨_, _, _, _, _, _, _, _, _, _, _, _, rfl, Hh.out.call3 y1⟩
      · have hj : listed.getD 9 false = false := by
          cases hx : listed.getD 9 false
          · rfl
          · rw [Hh.out.i9 hx] at h00; cases h00
        refine wpOp_plain rfl rfl ?_
        clear ho hdep h0
        unfold Oper.wp frNetWithin
        go_simp
        exact ⟨_, _, _, _, _, _, _, _, _, _, _, _, rfl, Hh.out.alloc7 hj⟩
      · have hj : listed.getD 10 false = false := by
          cases hx : listed.getD 10 false
          · rfl
          · rw [Hh.out.i10 hx] at h00; cases h00
        refine wpOp_plain rfl rfl ?_
        clear ho hdep h0
        unfold Oper.wp frNetWithin
        go_simp
        exact ⟨_, _, _, _, _, _, _, _, _, _, _, _, rfl, Hh.out.alloc8 hj⟩
      · have hj : listed.getD 11 false = false := by
          cases hx : listed.getD 11 false
          · rfl
          · rw [Hh.out.i11 hx] at h00; cases h00
        refine wpOp_plain rfl rfl ?_
        clear ho hdep h0
        unfold Oper.wp frNetWithin
        go_simp
        exact ⟨_, _, _, _, _, _, _, _, _, _, _, _, rfl, Hh.out.alloc9 hj⟩
      · obtain rfl := Option.some.inj ho
        have hl := hdep ⟨6, .data⟩ (by simp) rfl
        have hv := (Hh.out.p6 hl).1
        have hcv := Hh.out.e1 (hdep ⟨1, .data⟩ (by simp) rfl)
        have hz := Hh.out.z6 hl h00
        obtain ⟨m0, m1⟩ := two_cells hz.own
        have f0 := hz.own.frozenAt 0
        have f1 := hz.own.frozenAt 1
        subst hv hcv
        refine wpOp_plain rfl rfl ?_
        clear hdep h0 hz
        unfold Oper.wp frNetWithin netV
        go_simp
        exact ⟨_, _, _, _, _, _, _, _, _, _, _, _, rfl, Hh.out.store7 h00 hl⟩
      · obtain rfl := Option.some.inj ho
        have hl := hdep ⟨7, .data⟩ (by simp) rfl
        have hv := (Hh.out.p7 hl).1
        have hcv := Hh.out.e3 (hdep ⟨3, .data⟩ (by simp) rfl)
        have hz := Hh.out.z7 hl h00
        obtain ⟨m0, m1⟩ := two_cells hz.own
        have f0 := hz.own.frozenAt 0
        have f1 := hz.own.frozenAt 1
        subst hv hcv
        refine wpOp_plain rfl rfl ?_
        clear hdep h0 hz
        unfold Oper.wp frNetWithin netV
        go_simp
        exact ⟨_, _, _, _, _, _, _, _, _, _, _, _, rfl, Hh.out.store8 h00 hl⟩
      · obtain rfl := Option.some.inj ho
        have hl := hdep ⟨8, .data⟩ (by simp) rfl
        have hv := (Hh.out.p8 hl).1
        have hcv := Hh.out.e5 (hdep ⟨5, .data⟩ (by simp) rfl)
        have hz := Hh.out.z8 hl h00
        obtain ⟨m0, m1⟩ := two_cells hz.own
        have f0 := hz.own.frozenAt 0
        have f1 := hz.own.frozenAt 1
        subst hv hcv
        refine wpOp_plain rfl rfl ?_
        clear hdep h0 hz
        unfold Oper.wp frNetWithin netV
        go_simp
        exact ⟨_, _, _, _, _, _, _, _, _, _, _, _, rfl, Hh.out.store9 h00 hl⟩
  case rest =>
    obtain ⟨g1, g2, g3, rfl, rfl, rfl, HN⟩ := hcut
    obtain ⟨wb, hwb⟩ : ∃ wb, wb = wc := ⟨_, rfl⟩
    subst hwb
    have Hc : Hid (∀ W, Below wb.heap.size wb W → (W.cell? ⟨g1, 0, none⟩ = some (.int .u32 (A : Int)) ∧ W.cell? ⟨g1, 1, none⟩ = some (.int .i64 (p : Int))) ∧ (W.cell? ⟨g2, 0, none⟩ = some (.int .u32 (B : Int)) ∧ W.cell? ⟨g2, 1, none⟩ = some (.int .i64 (q : Int))) ∧ (W.cell? ⟨g3, 0, none⟩ = some (.int .u32 (C : Int)) ∧ W.cell? ⟨g3, 1, none⟩ = some (.int .i64 (r : Int)))) :=
      Lib.hid fun W hW => ⟨net_cells HN.out.1 hW, net_cells HN.out.2.1 hW, net_cells HN.out.2.2.1 hW⟩
    obtain ⟨lA, lp, eA⟩ := G1.out
    obtain ⟨lB, lq, eB⟩ := G2.out
    obtain ⟨lC, lr, eC⟩ := G3.out
    have H4 := Lib.hid (fun W => net_Holds A (p : Int) A (p : Int) W lA lA (by omega) (by omega) (by omega) (by omega))
    rw [Nt.holds_self eA] at H4
    have H5 : Hid (∀ W, Calls Try.prog 13 #[.agg #[.int .u32 0, .int .i64 0], .int .u32 5] W fun e W' => e = .returned (.bool true) ∧ Below W.heap.size W W') := Lib.hid (fun W => net_Has 0 0 5 W (by decide) (by decide) (by decide) (by decide))
    have H6 : Hid (∀ W, Calls Try.prog 14 #[.agg #[.int .u32 167837696, .int .i64 16], .agg #[.int .u32 167772160, .int .i64 8]] W fun e W' => e = .returned (.bool false) ∧ Below W.heap.size W W') := Lib.hid (fun W => net_Holds 167837696 16 167772160 8 W (by decide) (by decide) (by decide) (by decide) (by decide) (by decide))
    have HNets := Lib.hid (fun W => keep_Nets W)
    have H7 := Lib.hid (fun W => net_Holds A (p : Int) B (q : Int) W lA lB (by omega) (by omega) (by omega) (by omega))
    have H8 := Lib.hid (fun W => net_Holds B (q : Int) C (r : Int) W lB lC (by omega) (by omega) (by omega) (by omega))
    have H9 := Lib.hid (fun W => net_Holds A (p : Int) C (r : Int) W lA lC (by omega) (by omega) (by omega) (by omega))
    have H10 := Lib.hid (fun W => net_Holds B (q : Int) A (p : Int) W lB lA (by omega) (by omega) (by omega) (by omega))
    have H11 := Lib.hid (fun W => net_Has A (p : Int) B W lA lB (by omega) (by omega))
    have HT := Lib.hid (fun x y => Nt.holds_trans (n := A) (b := (p : Int)) (m := B) (c := (q : Int)) (p := C) (d := (r : Int)) x y)
    have HA := Lib.hid (fun x y => Nt.holds_anti (n := A) (b := (p : Int)) (m := B) (c := (q : Int)) x y)
    have HO := Lib.hid (fun x => Nt.holds_or (n := A) (b := (p : Int)) (m := B) (c := (q : Int)) eA eB x)
    have HBc := Lib.hid HN.out.2.2.2
    clear HS H1 H2 H3 G1 G2 G3 lA lB lC eA eB eC HN hA hz1 lp lq lr
    unfold netV at H4 H7 H8 H9 H10 H11
    go_upto_region 2 with fail
    go_cut [33] (fun v wx => v = .bool false ∧ Hid (Below wb.heap.size wb wx))
    case first =>
      have hN := usedCells_size
      obtain ⟨n4, n5⟩ := used_at 2 (by decide)
      obtain ⟨n2, n3⟩ := used_at 1 (by decide)
      obtain ⟨⟨m0, m1⟩, _, _⟩ := Hc.out wb (Below.refl _ _)
      have n4' : usedCells[4]? = some (.int .u32 167837696) := n4
      have n5' : usedCells[5]? = some (.int .i64 16) := n5
      have n2' : usedCells[2]? = some (.int .u32 167772160) := n2
      have n3' : usedCells[3]? = some (.int .i64 8) := n3
      clear n2 n3 n4 n5
      generalize usedCells = N at *
      clear H7 H8 H9 H10 H11 HT HA HO HBc Hc hN
      go_region_with (first
        | (go_at_call_of 14 (Value.agg #[.int .u32 (A : Int), .int .i64 (p : Int)]); refine (H4.out _).mono ?_; rintro e x1 ⟨rfl, y1⟩)
        | (go_at_call_of 14 (Value.agg #[.int .u32 167837696, .int .i64 16]); refine (H6.out _).mono ?_; rintro e x4 ⟨rfl, y4⟩)
        | (go_at_call 13; refine (H5.out _).mono ?_; rintro e x2 ⟨rfl, y2⟩)
        | (go_at_call 22; refine (HNets.out _).mono ?_; rintro e x3 ⟨rfl, rfl⟩))
      all_goals
        have b1 : Below wb.heap.size wb x1 := ((Below.refl _ _).drew).trans (y1.mono (Nat.le_refl _))
        have b2 := b1.trans (y2.mono b1.size)
        have b3 := b2.alloc b2.size (.cells N 24)
        have b4 := b3.alloc b3.size (.cells N 24)
        have HB := Lib.hid (b4.trans (y4.mono b4.size))
        clear y1 y2 y4 b1 b2 b3 b4
        go_wp2_with fail
        go_meet
        case rel => exact ⟨rfl, HB⟩
    case rest =>
      obtain ⟨rfl, HB0⟩ := hcut
      have BB := HB0.out
      obtain ⟨⟨m0, m1⟩, ⟨m2, m3⟩, ⟨m4, m5⟩⟩ := Hc.out wc BB
      clear H4 H5 H6 HNets
      by_cases x1 : Nt.holds A (p : Int) B (q : Int) = true
      · rw [x1] at H7
        by_cases x2 : Nt.holds B (q : Int) C (r : Int) = true
        · rw [x2] at H8
          rw [HT.out x1 x2] at H9
          by_cases x4 : Nt.holds B (q : Int) A (p : Int) = true
          · rw [x4] at H10
            obtain ⟨e1, e2⟩ := HA.out x1 x4
            have e3 : p = q := by omega
            subst e1 e3
            clear x1 x2 x4 HT HA HO e2
            go_wp2_with fail
            refine (H7.out _).mono ?_
            rintro e z1 ⟨rfl, b1⟩
            have B1 := BB.trans (b1.mono BB.size)
            clear m0 m1 m2 m3 m4 m5
            obtain ⟨⟨m0, m1⟩, ⟨m2, m3⟩, ⟨m4, m5⟩⟩ := Hc.out z1 B1
            go_wp2_with fail
            refine (H8.out _).mono ?_
            rintro e z2 ⟨rfl, b2⟩
            have B2 := B1.trans (b2.mono B1.size)
            clear m0 m1 m2 m3 m4 m5
            obtain ⟨⟨m0, m1⟩, ⟨m2, m3⟩, ⟨m4, m5⟩⟩ := Hc.out z2 B2
            go_wp2_with fail
            refine (H9.out _).mono ?_
            rintro e z3 ⟨rfl, b3⟩
            have B3 := B2.trans (b3.mono B2.size)
            clear m0 m1 m2 m3 m4 m5
            obtain ⟨⟨m0, m1⟩, ⟨m2, m3⟩, ⟨m4, m5⟩⟩ := Hc.out z3 B3
            go_wp2_with fail
            refine (H7.out _).mono ?_
            rintro e z4 ⟨rfl, b4⟩
            have B4 := B3.trans (b4.mono B3.size)
            clear m0 m1 m2 m3 m4 m5
            obtain ⟨⟨m0, m1⟩, ⟨m2, m3⟩, ⟨m4, m5⟩⟩ := Hc.out z4 B4
            go_wp2_with fail
            refine (H10.out _).mono ?_
            rintro e z5 ⟨rfl, b5⟩
            have B5 := B4.trans (b5.mono B4.size)
            clear m0 m1 m2 m3 m4 m5
            obtain ⟨⟨m0, m1⟩, ⟨m2, m3⟩, ⟨m4, m5⟩⟩ := Hc.out z5 B5
            go_wp2_with fail
            refine (H7.out _).mono ?_
            rintro e z6 ⟨rfl, b6⟩
            have B6 := B5.trans (b6.mono B5.size)
            clear m0 m1 m2 m3 m4 m5
            obtain ⟨⟨m0, m1⟩, ⟨m2, m3⟩, ⟨m4, m5⟩⟩ := Hc.out z6 B6
            clear m0 m1 m2 m3 m4 m5
            go_wp2
            go_ret
            exact ⟨by simp, HBc.out.trans (B6.mono HBc.out.size)⟩
          · rw [show Nt.holds B (q : Int) A (p : Int) = false by simpa using x4] at H10
            clear x1 x2 x4 HT HA HO
            go_wp2_with fail
            refine (H7.out _).mono ?_
            rintro e z7 ⟨rfl, b7⟩
            have B7 := BB.trans (b7.mono BB.size)
            clear m0 m1 m2 m3 m4 m5
            obtain ⟨⟨m0, m1⟩, ⟨m2, m3⟩, ⟨m4, m5⟩⟩ := Hc.out z7 B7
            go_wp2_with fail
            refine (H8.out _).mono ?_
            rintro e z8 ⟨rfl, b8⟩
            have B8 := B7.trans (b8.mono B7.size)
            clear m0 m1 m2 m3 m4 m5
            obtain ⟨⟨m0, m1⟩, ⟨m2, m3⟩, ⟨m4, m5⟩⟩ := Hc.out z8 B8
            go_wp2_with fail
            refine (H9.out _).mono ?_
            rintro e z9 ⟨rfl, b9⟩
            have B9 := B8.trans (b9.mono B8.size)
            clear m0 m1 m2 m3 m4 m5
            obtain ⟨⟨m0, m1⟩, ⟨m2, m3⟩, ⟨m4, m5⟩⟩ := Hc.out z9 B9
            go_wp2_with fail
            refine (H7.out _).mono ?_
            rintro e z10 ⟨rfl, b10⟩
            have B10 := B9.trans (b10.mono B9.size)
            clear m0 m1 m2 m3 m4 m5
            obtain ⟨⟨m0, m1⟩, ⟨m2, m3⟩, ⟨m4, m5⟩⟩ := Hc.out z10 B10
            go_wp2_with fail
            refine (H10.out _).mono ?_
            rintro e z11 ⟨rfl, b11⟩
            have B11 := B10.trans (b11.mono B10.size)
            clear m0 m1 m2 m3 m4 m5
            obtain ⟨⟨m0, m1⟩, ⟨m2, m3⟩, ⟨m4, m5⟩⟩ := Hc.out z11 B11
            go_wp2_with fail
            refine (H7.out _).mono ?_
            rintro e z12 ⟨rfl, b12⟩
            have B12 := B11.trans (b12.mono B11.size)
            clear m0 m1 m2 m3 m4 m5
            obtain ⟨⟨m0, m1⟩, ⟨m2, m3⟩, ⟨m4, m5⟩⟩ := Hc.out z12 B12
            clear m0 m1 m2 m3 m4 m5
            go_wp2
            go_ret
            exact ⟨by simp, HBc.out.trans (B12.mono HBc.out.size)⟩
        · rw [show Nt.holds B (q : Int) C (r : Int) = false by simpa using x2] at H8
          by_cases x4 : Nt.holds B (q : Int) A (p : Int) = true
          · rw [x4] at H10
            obtain ⟨e1, e2⟩ := HA.out x1 x4
            have e3 : p = q := by omega
            subst e1 e3
            clear x1 x2 x4 HT HA HO e2
            go_wp2_with fail
            refine (H7.out _).mono ?_
            rintro e z13 ⟨rfl, b13⟩
            have B13 := BB.trans (b13.mono BB.size)
            clear m0 m1 m2 m3 m4 m5
            obtain ⟨⟨m0, m1⟩, ⟨m2, m3⟩, ⟨m4, m5⟩⟩ := Hc.out z13 B13
            go_wp2_with fail
            refine (H8.out _).mono ?_
            rintro e z14 ⟨rfl, b14⟩
            have B14 := B13.trans (b14.mono B13.size)
            clear m0 m1 m2 m3 m4 m5
            obtain ⟨⟨m0, m1⟩, ⟨m2, m3⟩, ⟨m4, m5⟩⟩ := Hc.out z14 B14
            go_wp2_with fail
            refine (H7.out _).mono ?_
            rintro e z15 ⟨rfl, b15⟩
            have B15 := B14.trans (b15.mono B14.size)
            clear m0 m1 m2 m3 m4 m5
            obtain ⟨⟨m0, m1⟩, ⟨m2, m3⟩, ⟨m4, m5⟩⟩ := Hc.out z15 B15
            go_wp2_with fail
            refine (H10.out _).mono ?_
            rintro e z16 ⟨rfl, b16⟩
            have B16 := B15.trans (b16.mono B15.size)
            clear m0 m1 m2 m3 m4 m5
            obtain ⟨⟨m0, m1⟩, ⟨m2, m3⟩, ⟨m4, m5⟩⟩ := Hc.out z16 B16
            go_wp2_with fail
            refine (H7.out _).mono ?_
            rintro e z17 ⟨rfl, b17⟩
            have B17 := B16.trans (b17.mono B16.size)
            clear m0 m1 m2 m3 m4 m5
            obtain ⟨⟨m0, m1⟩, ⟨m2, m3⟩, ⟨m4, m5⟩⟩ := Hc.out z17 B17
            clear m0 m1 m2 m3 m4 m5
            go_wp2
            go_ret
            exact ⟨by simp, HBc.out.trans (B17.mono HBc.out.size)⟩
          · rw [show Nt.holds B (q : Int) A (p : Int) = false by simpa using x4] at H10
            clear x1 x2 x4 HT HA HO
            go_wp2_with fail
            refine (H7.out _).mono ?_
            rintro e z18 ⟨rfl, b18⟩
            have B18 := BB.trans (b18.mono BB.size)
            clear m0 m1 m2 m3 m4 m5
            obtain ⟨⟨m0, m1⟩, ⟨m2, m3⟩, ⟨m4, m5⟩⟩ := Hc.out z18 B18
            go_wp2_with fail
            refine (H8.out _).mono ?_
            rintro e z19 ⟨rfl, b19⟩
            have B19 := B18.trans (b19.mono B18.size)
            clear m0 m1 m2 m3 m4 m5
            obtain ⟨⟨m0, m1⟩, ⟨m2, m3⟩, ⟨m4, m5⟩⟩ := Hc.out z19 B19
            go_wp2_with fail
            refine (H7.out _).mono ?_
            rintro e z20 ⟨rfl, b20⟩
            have B20 := B19.trans (b20.mono B19.size)
            clear m0 m1 m2 m3 m4 m5
            obtain ⟨⟨m0, m1⟩, ⟨m2, m3⟩, ⟨m4, m5⟩⟩ := Hc.out z20 B20
            go_wp2_with fail
            refine (H10.out _).mono ?_
            rintro e z21 ⟨rfl, b21⟩
            have B21 := B20.trans (b21.mono B20.size)
            clear m0 m1 m2 m3 m4 m5
            obtain ⟨⟨m0, m1⟩, ⟨m2, m3⟩, ⟨m4, m5⟩⟩ := Hc.out z21 B21
            go_wp2_with fail
            refine (H7.out _).mono ?_
            rintro e z22 ⟨rfl, b22⟩
            have B22 := B21.trans (b22.mono B21.size)
            clear m0 m1 m2 m3 m4 m5
            obtain ⟨⟨m0, m1⟩, ⟨m2, m3⟩, ⟨m4, m5⟩⟩ := Hc.out z22 B22
            clear m0 m1 m2 m3 m4 m5
            go_wp2
            go_ret
            exact ⟨by simp, HBc.out.trans (B22.mono HBc.out.size)⟩
      · by_cases x4 : Nt.holds B (q : Int) A (p : Int) = true
        · rw [x4] at H10
          rw [show Nt.holds A (p : Int) B (q : Int) = false by simpa using x1] at H7
          clear x1 x4 HT HA HO
          go_wp2_with fail
          refine (H7.out _).mono ?_
          rintro e z23 ⟨rfl, b23⟩
          have B23 := BB.trans (b23.mono BB.size)
          clear m0 m1 m2 m3 m4 m5
          obtain ⟨⟨m0, m1⟩, ⟨m2, m3⟩, ⟨m4, m5⟩⟩ := Hc.out z23 B23
          go_wp2_with fail
          refine (H7.out _).mono ?_
          rintro e z24 ⟨rfl, b24⟩
          have B24 := B23.trans (b24.mono B23.size)
          clear m0 m1 m2 m3 m4 m5
          obtain ⟨⟨m0, m1⟩, ⟨m2, m3⟩, ⟨m4, m5⟩⟩ := Hc.out z24 B24
          go_wp2_with fail
          refine (H7.out _).mono ?_
          rintro e z25 ⟨rfl, b25⟩
          have B25 := B24.trans (b25.mono B24.size)
          clear m0 m1 m2 m3 m4 m5
          obtain ⟨⟨m0, m1⟩, ⟨m2, m3⟩, ⟨m4, m5⟩⟩ := Hc.out z25 B25
          go_wp2_with fail
          refine (H10.out _).mono ?_
          rintro e z26 ⟨rfl, b26⟩
          have B26 := B25.trans (b26.mono B25.size)
          clear m0 m1 m2 m3 m4 m5
          obtain ⟨⟨m0, m1⟩, ⟨m2, m3⟩, ⟨m4, m5⟩⟩ := Hc.out z26 B26
          clear m0 m1 m2 m3 m4 m5
          go_wp2
          go_ret
          exact ⟨by simp, HBc.out.trans (B26.mono HBc.out.size)⟩
        · have hh : Nt.has A (p : Int) B = false := by
            cases hx : Nt.has A (p : Int) B
            · rfl
            · rcases HO.out hx with h | h
              · exact absurd h x1
              · exact absurd h x4
          rw [show Nt.holds B (q : Int) A (p : Int) = false by simpa using x4] at H10
          rw [show Nt.holds A (p : Int) B (q : Int) = false by simpa using x1] at H7
          rw [hh] at H11
          clear x1 x4 HT HA HO hh
          go_wp2_with fail
          refine (H7.out _).mono ?_
          rintro e z27 ⟨rfl, b27⟩
          have B27 := BB.trans (b27.mono BB.size)
          clear m0 m1 m2 m3 m4 m5
          obtain ⟨⟨m0, m1⟩, ⟨m2, m3⟩, ⟨m4, m5⟩⟩ := Hc.out z27 B27
          go_wp2_with fail
          refine (H7.out _).mono ?_
          rintro e z28 ⟨rfl, b28⟩
          have B28 := B27.trans (b28.mono B27.size)
          clear m0 m1 m2 m3 m4 m5
          obtain ⟨⟨m0, m1⟩, ⟨m2, m3⟩, ⟨m4, m5⟩⟩ := Hc.out z28 B28
          go_wp2_with fail
          refine (H7.out _).mono ?_
          rintro e z29 ⟨rfl, b29⟩
          have B29 := B28.trans (b29.mono B28.size)
          clear m0 m1 m2 m3 m4 m5
          obtain ⟨⟨m0, m1⟩, ⟨m2, m3⟩, ⟨m4, m5⟩⟩ := Hc.out z29 B29
          go_wp2_with fail
          refine (H10.out _).mono ?_
          rintro e z30 ⟨rfl, b30⟩
          have B30 := B29.trans (b30.mono B29.size)
          clear m0 m1 m2 m3 m4 m5
          obtain ⟨⟨m0, m1⟩, ⟨m2, m3⟩, ⟨m4, m5⟩⟩ := Hc.out z30 B30
          go_wp2_with fail
          refine (H11.out _).mono ?_
          rintro e z31 ⟨rfl, b31⟩
          have B31 := B30.trans (b31.mono B30.size)
          clear m0 m1 m2 m3 m4 m5
          obtain ⟨⟨m0, m1⟩, ⟨m2, m3⟩, ⟨m4, m5⟩⟩ := Hc.out z31 B31
          clear m0 m1 m2 m3 m4 m5
          go_wp2
          go_ret
          exact ⟨by simp, HBc.out.trans (B31.mono HBc.out.size)⟩
end Go.Proofs.Ythcdebdohlffpaa
