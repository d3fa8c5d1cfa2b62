/- The contract of the program's wire.read. -/
import Derived.Test.YtfgkodgdoplpbabWireCode3
namespace Go.Proofs.Ytfgkodgdoplpbab
open Go.RowKit

theorem Wr.sgn_short (l : List UInt8) (m : Nat) (hm : m ≤ 4) : Wr.sgn (Wr.num (l.take m)) = (Wr.num (l.take m) : Int) := by
  refine Wr.sgn_small _ ?_
  have h1 := Wr.num_lt (l.take m)
  have h2 : 256 ^ (l.take m).length ≤ 256 ^ 4 := Nat.pow_le_pow_right (by decide) (by rw [List.length_take]; omega)
  have h3 : 256 ^ 4 = 4294967296 := by decide
  omega
theorem Wr.sz_four (k : Nat) : Wr.szS k ≤ 4 ∧ Wr.szR k ≤ 4 := by
  unfold Wr.szS Wr.szR
  refine ⟨?_, ?_⟩ <;> split <;> omega

set_option maxRecDepth 10000 in
set_option maxHeartbeats 4000000 in
theorem wire_read (b off n c : Nat) (bs : List UInt8) (w : World) (h : BytesAt w w.heap.size (some ⟨b, off, none⟩) n bs) (hc : n ≤ c) (hk : Wr.Known (Wr.kd bs)) (hn : Wr.head (Wr.kd bs) ≤ n) :
    Calls Try.prog 27 #[.slice (some ⟨b, off, none⟩) n c, .agg (shapeL (Wr.kd bs)).toArray] w fun e w' => ∃ off', e = .returned (messV (Wr.kd bs) (Wr.rs bs) (Wr.rr bs) (Wr.rc bs) (some ⟨b, off', none⟩) (n - Wr.head (Wr.kd bs)) (c - Wr.head (Wr.kd bs))) ∧
      BytesAt w' w.heap.size (some ⟨b, off', none⟩) (n - Wr.head (Wr.kd bs)) (Wr.rb bs) ∧ Below w.heap.size w w' := by
  obtain ⟨x0, x1, x2, ⟨e0, e1, e2⟩, hL⟩ := shapeL_known hk
  rw [Int.toNat_natCast] at e0 e1 e2 hL
  subst e0 e1 e2
  rw [hL]
  have hl := h.1
  have hhd := (Wr.head_sz (Wr.kd bs)).symm
  obtain ⟨z0, z1, z2⟩ := Wr.sz_le (Wr.kd bs)
  have hk0 : 4 ≤ n := by omega
  obtain ⟨b', o', e', b0⟩ := bytes_lt h (k := 0) (by omega)
  cases e'
  rw [Nat.add_zero] at b0
  have hbl : b < w.heap.size := by obtain ⟨_, _, e, hlt, _⟩ := h.2 (by omega); cases e; exact hlt
  obtain ⟨g, hg⟩ : ∃ g, g = w.heap.size := ⟨_, rfl⟩
  obtain ⟨sh, hsh⟩ : ∃ sh : List Value, sh = [.int .i64 (Wr.szS (Wr.kd bs) : Int), .int .i64 (Wr.szR (Wr.kd bs) : Int), .int .i64 (Wr.szC (Wr.kd bs) : Int), .int .i64 (Wr.least (Wr.kd bs) : Int), .int .i64 (Wr.most (Wr.kd bs) : Int)] := ⟨_, rfl⟩
  -- the three new blocks
  obtain ⟨w2, hw2⟩ : ∃ w2, w2 = ((w.alloc (.cells sh.toArray 45)).alloc (.cells #[.int .i64 0, .int .i64 0, .int .i64 0, .int .i64 0, .slice none 0 0] 24)).alloc (.cells #[.int .i64 (Wr.kd bs : Int), .int .i64 0, .int .i64 0, .int .i64 0, .slice none 0 0] 24) := ⟨_, rfl⟩
  have hA : Below g w w2 := by rw [hw2, hg]; exact (((Below.refl _ _).alloc (Nat.le_refl _) _).alloc (by simp) _).alloc (by simp; omega) _
  have hz2 : w2.heap.size = g + 3 := by rw [hw2, hg]; simp
  have B0 : Blk w2 g 45 sh := by
    have := ((Blk.new w 45 sh).kept ((Below.refl _ _).alloc (Nat.le_refl _) (.cells #[.int .i64 0, .int .i64 0, .int .i64 0, .int .i64 0, .slice none 0 0] 24))).kept ((Below.refl _ _).alloc (Nat.le_refl _) (.cells #[.int .i64 (Wr.kd bs : Int), .int .i64 0, .int .i64 0, .int .i64 0, .slice none 0 0] 24))
    rw [hw2, hg]; exact this
  have B1 : Blk w2 (g + 1) 24 [.int .i64 0, .int .i64 0, .int .i64 0, .int .i64 0, .slice none 0 0] := by
    have := (Blk.new (w.alloc (.cells sh.toArray 45)) 24 [.int .i64 0, .int .i64 0, .int .i64 0, .int .i64 0, .slice none 0 0]).kept ((Below.refl _ _).alloc (Nat.le_refl _) (.cells #[.int .i64 (Wr.kd bs : Int), .int .i64 0, .int .i64 0, .int .i64 0, .slice none 0 0] 24))
    rw [show (w.alloc (.cells sh.toArray 45)).heap.size = g + 1 by rw [hg]; simp] at this
    rw [hw2]; exact this
  have B2 : Blk w2 (g + 2) 24 [.int .i64 (Wr.kd bs : Int), .int .i64 0, .int .i64 0, .int .i64 0, .slice none 0 0] := by
    have := Blk.new ((w.alloc (.cells sh.toArray 45)).alloc (.cells #[.int .i64 0, .int .i64 0, .int .i64 0, .int .i64 0, .slice none 0 0] 24)) 24 [.int .i64 (Wr.kd bs : Int), .int .i64 0, .int .i64 0, .int .i64 0, .slice none 0 0]
    rw [show ((w.alloc (.cells sh.toArray 45)).alloc (.cells #[.int .i64 0, .int .i64 0, .int .i64 0, .int .i64 0, .slice none 0 0] 24)).heap.size = g + 2 by rw [hg]; simp] at this
    rw [hw2]; exact this
  -- the bytes behind the first four
  obtain ⟨o4, ho4, hb4⟩ : ∃ o4, (if c = 4 then (some ⟨b, off, none⟩ : Option Addr) else some ⟨b, off + 4, none⟩) = some ⟨b, o4, none⟩ ∧ BytesAt w w.heap.size (some ⟨b, o4, none⟩) (n - 4) (bs.drop 4) := by
    by_cases hc4 : c = 4
    · exact ⟨off, if_pos hc4, by rw [List.length_drop, hl], fun h => absurd h (by omega)⟩
    · exact ⟨off + 4, if_neg hc4, h.part hk0⟩
  rw [← hg] at hb4
  subst hsh
  have s0 := B0.cell 0 rfl
  have HB0 := Lib.hid B0
  have HB1 := Lib.hid B1
  have HB2 := Lib.hid B2
  have HA := Lib.hid hA
  have HW := Lib.hid hw2
  have HG := Lib.hid hg
  have Hz := Lib.hid hz2
  have Hl := Lib.hid hl
  have Hb4 := Lib.hid hb4
  have Hhd := Lib.hid hhd
  have HN := Lib.hid hn
  have hx := (bs.getD 0 0).toNat_lt
  have i4 : (4 : Int) ≤ (n : Int) := by omega
  have inc : (n : Int) ≤ (c : Int) := by omega
  have i0 : 0 < n := by omega
  have HR1 := Lib.hid (Wr.sgn_short (bs.drop 4) _ (Wr.sz_four (Wr.kd bs)).1)
  have HR2 := Lib.hid (Wr.sgn_short (bs.drop (4 + Wr.szS (Wr.kd bs))) _ (Wr.sz_four (Wr.kd bs)).2)
  have D1 : Hid ((bs.drop 4).drop (Wr.szS (Wr.kd bs)) = bs.drop (4 + Wr.szS (Wr.kd bs))) := Lib.hid List.drop_drop
  have D2 : Hid ((bs.drop (4 + Wr.szS (Wr.kd bs))).drop (Wr.szR (Wr.kd bs)) = bs.drop (4 + Wr.szS (Wr.kd bs) + Wr.szR (Wr.kd bs))) := Lib.hid List.drop_drop
  have D3 : Hid ((bs.drop (4 + Wr.szS (Wr.kd bs) + Wr.szR (Wr.kd bs))).drop (Wr.szC (Wr.kd bs)) = Wr.rb bs) := Lib.hid (by rw [List.drop_drop]; rfl)
  have Hkd : Hid ((bs.getD 0 0).toNat = Wr.kd bs) := Lib.hid rfl
  clear B0 B1 B2 hA hw2 hz2 hl hb4 hhd hL hk h hg
  rw [Hkd.out] at b0 hx
  go_enter Try.func27, Try.ntmps27
  go_upto_region 3 with fail
  rw [← HW.out, ← HG.out]
  obtain ⟨G, hG⟩ : ∃ G, G = g + 1 + 1 := ⟨_, rfl⟩
  rw [← hG]
  have gG : g < G := by omega
  have HGG := Lib.hid hG
  rw [show g + 2 = G by omega] at HB2
  clear hG
  clear b0 hbl
  have Hst : Hid (∀ (W : World) (v : List Value) i (u : Value), Blk W (G) 24 v → v.length = 5 → Blk W g 45 [.int .i64 (Wr.szS (Wr.kd bs) : Int), .int .i64 (Wr.szR (Wr.kd bs) : Int), .int .i64 (Wr.szC (Wr.kd bs) : Int), .int .i64 (Wr.least (Wr.kd bs) : Int), .int .i64 (Wr.most (Wr.kd bs) : Int)] → Below g w2 W →
      Blk (W.setCell ⟨G, i, none⟩ u) (G) 24 (v.set i u) ∧ Blk (W.setCell ⟨G, i, none⟩ u) g 45 [.int .i64 (Wr.szS (Wr.kd bs) : Int), .int .i64 (Wr.szR (Wr.kd bs) : Int), .int .i64 (Wr.szC (Wr.kd bs) : Int), .int .i64 (Wr.least (Wr.kd bs) : Int), .int .i64 (Wr.most (Wr.kd bs) : Int)] ∧ Below g w2 (W.setCell ⟨G, i, none⟩ u)) := Lib.hid (fun W v i u hv hl hs hb =>
    ⟨hv.set (by rw [hl]; decide) i u, hs.other (by omega) u, hb.setCell (by show g ≤ G; omega) u⟩)
  have F1 : Hid (Wr.sgn (Wr.num ((bs.drop 4).take (Wr.szS (Wr.kd bs)))) = (Wr.rs bs : Int)) := HR1
  have F2 : Hid (Wr.sgn (Wr.num ((bs.drop (4 + Wr.szS (Wr.kd bs))).take (Wr.szR (Wr.kd bs)))) = (Wr.rr bs : Int)) := HR2
  have F3 : Hid (Wr.sgn (Wr.num ((bs.drop (4 + Wr.szS (Wr.kd bs) + Wr.szR (Wr.kd bs))).take (Wr.szC (Wr.kd bs)))) = Wr.rc bs) := Lib.hid rfl
  generalize hSe : Wr.rs bs = S at *
  have ES := Lib.hid hSe
  clear hSe
  generalize hRe : Wr.rr bs = R at *
  have ER := Lib.hid hRe
  clear hRe
  generalize hCe : Wr.rc bs = C at *
  have EC := Lib.hid hCe
  clear hCe
  generalize hke : Wr.kd bs = k at *
  have Ek := Lib.hid hke
  clear hke
  generalize Wr.least k = lo at *
  generalize Wr.most k = hi at *
  generalize hhde : Wr.head k = hd at *
  have Ehd := Lib.hid hhde
  clear hhde
  generalize Wr.szS k = p at *
  generalize Wr.szR k = r at *
  generalize Wr.szC k = t at *
  go_wp2_with fail
  refine (wire_takeNumber b o4 (n - 4) (c - 4) p g (bs.drop 4) _ (Hb4.out.below HA.out) z0 (by have := Hhd.out; have := HN.out; omega) (by omega)).mono ?_
  rintro e V0 ⟨o5, rfl, hb5, q1, rfl⟩
  rw [F1.out, D1.out] at *
  have T0 := Hst.out _ _ 1 (.int .i64 (S : Int)) (HB2.out.kept (belowDrewN' (Below.refl _ _) q1)) rfl (HB0.out.kept (belowDrewN' (Below.refl _ _) q1)) (belowDrewN' (Below.refl g w2) q1)
  have hv := HB2.out.kept (belowDrewN' (Below.refl _ w2) q1)
  have f0 := hv.frozen (by show 5 ≤ maxLen; decide) 1
  have m0 := hv.cell 1 rfl
  have R0 := Lib.hid ((HB1.out.kept (belowDrewN' (Below.refl _ w2) q1)).other (i := 1) (k := G) (by have := HGG.out; omega) (.int .i64 (S : Int)))
  clear s0 hv
  generalize w2.drewN q1 = V0 at *
  have s1 := T0.2.1.cell 1 rfl
  have HT0 := Lib.hid T0
  clear T0
  have n1 : g ≠ G := by omega
  go_wp2_with fail
  clear f0 m0 s1
  have H1 := Lib.hid (wire_takeNumber b o5 (n - 4 - p) (c - 4 - p) r g (bs.drop (4 + p)) _ (hb5.below HT0.out.2.2) z1 (by have := Hhd.out; have := HN.out; omega) (by omega))
  obtain ⟨V1, hV1⟩ : ∃ V1, V1 = V0.setCell ⟨G, 1, none⟩ (.int .i64 (S : Int)) := ⟨_, rfl⟩
  rw [← hV1] at HT0 R0 H1
  rw [← hV1]
  clear hV1 hb5
  have HT1 : Hid (Blk V1 G 24 [.int .i64 (k : Int), .int .i64 (S : Int), .int .i64 0, .int .i64 0, .slice none 0 0] ∧ Blk V1 g 45 [.int .i64 (p : Int), .int .i64 (r : Int), .int .i64 (t : Int), .int .i64 (lo : Int), .int .i64 (hi : Int)] ∧ Below g w2 V1) := HT0
  clear HT0
  refine H1.out.mono ?_
  rintro e V2 ⟨o6, rfl, hb6, q2, rfl⟩
  rw [F2.out, D2.out] at *
  have hd2 : Below V1.heap.size V1 (V1.drewN q2) := belowDrewN' (Below.refl _ V1) q2
  have hv := HT1.out.1.kept hd2
  have T0 := Hst.out _ _ 2 (.int .i64 (R : Int)) hv rfl (HT1.out.2.1.kept hd2) (belowDrewN' HT1.out.2.2 q2)
  have f0 := hv.frozen (by show 5 ≤ maxLen; decide) 2
  have m0 := hv.cell 2 rfl
  have R1 := Lib.hid ((R0.out.kept hd2).other (i := 2) (k := G) (by have := HGG.out; omega) (.int .i64 (R : Int)))
  have hb6' := hb6.below (belowDrewN' (Below.refl g V1) q2)
  clear hv hd2 R0 H1 HT1 hb6
  generalize V1.drewN q2 = V2 at *
  have s1 := T0.2.1.cell 2 rfl
  have HT0 := Lib.hid T0
  clear T0
  go_wp2_with fail
  clear f0 m0 s1
  have hb6s : BytesAt (V2.setCell ⟨G, 2, none⟩ (.int .i64 (R : Int))) g (some ⟨b, o6, none⟩) (n - 4 - p - r) (bs.drop (4 + p + r)) := hb6'.below ((Below.refl g V2).setCell (by show g ≤ G; omega) _)
  have H1 := Lib.hid (wire_takeNumber b o6 (n - 4 - p - r) (c - 4 - p - r) t g (bs.drop (4 + p + r)) _ hb6s z2 (by have := Hhd.out; have := HN.out; omega) (by omega))
  obtain ⟨V3, hV3⟩ : ∃ V3, V3 = V2.setCell ⟨G, 2, none⟩ (.int .i64 (R : Int)) := ⟨_, rfl⟩
  rw [← hV3] at HT0 R1 H1
  rw [← hV3]
  clear hV3 hb6s hb6'
  have HT1 : Hid (Blk V3 G 24 [.int .i64 (k : Int), .int .i64 (S : Int), .int .i64 (R : Int), .int .i64 0, .slice none 0 0] ∧ Blk V3 g 45 [.int .i64 (p : Int), .int .i64 (r : Int), .int .i64 (t : Int), .int .i64 (lo : Int), .int .i64 (hi : Int)] ∧ Below g w2 V3) := HT0
  clear HT0
  refine H1.out.mono ?_
  rintro e V4 ⟨o7, rfl, hb7, q3, rfl⟩
  rw [F3.out, D3.out] at *
  have hd2 : Below V3.heap.size V3 (V3.drewN q3) := belowDrewN' (Below.refl _ V3) q3
  have hv := HT1.out.1.kept hd2
  have hb7' := hb7.below (belowDrewN' (Below.refl g V3) q3)
  have A4 := belowDrewN' HT1.out.2.2 q3
  have hr := R1.out.kept hd2
  have hsum : n - 4 - p - r - t = n - hd := by have := Hhd.out; omega
  have hcap : c - 4 - p - r - t = c - hd := by have := Hhd.out; omega
  rw [hsum] at hb7'
  rw [hsum, hcap]
  clear R1 H1 HT1 hb7 hd2 hsum hcap
  generalize V3.drewN q3 = V4 at *
  have f3 := hv.frozen (by show 5 ≤ maxLen; decide) 3
  have m3 := hv.cell 3 rfl
  have hv3 := hv.set (by show 5 ≤ maxLen; decide) 3 (.int .i64 C)
  have f4 := hv3.frozen (by show 5 ≤ maxLen; decide) 4
  have m4 := hv3.cell 4 rfl
  have hv4 := hv3.set (by show 5 ≤ maxLen; decide) 4 (.slice (some ⟨b, o7, none⟩) (n - hd) (c - hd))
  have c0 := hv4.cell 0 rfl
  have c1 := hv4.cell 1 rfl
  have c2 := hv4.cell 2 rfl
  have c3 := hv4.cell 3 rfl
  have c4 := hv4.cell 4 rfl
  have hne : g + 1 ≠ G := by have := HGG.out; omega
  have hr4 := (hr.other (i := 3) hne (.int .i64 C)).other (i := 4) hne (.slice (some ⟨b, o7, none⟩) (n - hd) (c - hd))
  have A5 : Below g w2 ((V4.setCell ⟨G, 3, none⟩ (.int .i64 C)).setCell ⟨G, 4, none⟩ (.slice (some ⟨b, o7, none⟩) (n - hd) (c - hd))) := (A4.setCell (by show g ≤ G; omega) (.int .i64 C)).setCell (by show g ≤ G; omega) (.slice (some ⟨b, o7, none⟩) (n - hd) (c - hd))
  have hb7s : BytesAt ((V4.setCell ⟨G, 3, none⟩ (.int .i64 C)).setCell ⟨G, 4, none⟩ (.slice (some ⟨b, o7, none⟩) (n - hd) (c - hd))) g (some ⟨b, o7, none⟩) (n - hd) (Wr.rb bs) := (hb7'.below ((Below.refl g V4).setCell (by show g ≤ G; omega) (.int .i64 C))).below ((Below.refl g _).setCell (by show g ≤ G; omega) (.slice (some ⟨b, o7, none⟩) (n - hd) (c - hd)))
  clear hv hv3 hv4 hr A4 hb7'
  go_upto_region 6 with fail
  clear f3 m3 f4 m4
  generalize (V4.setCell ⟨G, 3, none⟩ (.int .i64 C)).setCell ⟨G, 4, none⟩ (.slice (some ⟨b, o7, none⟩) (n - hd) (c - hd)) = V5 at *
  have HRr := Lib.hid hr4
  have r0 := hr4.cell 0 rfl
  have r1 := hr4.cell 1 rfl
  have r2 := hr4.cell 2 rfl
  have r3 := hr4.cell 3 rfl
  have r4 := hr4.cell 4 rfl
  have f0 := hr4.frozen (by show 5 ≤ maxLen; decide) 0
  have f1 := hr4.frozen (by show 5 ≤ maxLen; decide) 1
  have f2 := hr4.frozen (by show 5 ≤ maxLen; decide) 2
  have f3 := hr4.frozen (by show 5 ≤ maxLen; decide) 3
  have f4 := hr4.frozen (by show 5 ≤ maxLen; decide) 4
  have h5 : 5 ≤ maxLen := by decide
  have Hres := Lib.hid (((((hr4.set h5 0 (.int .i64 (k : Int))).set h5 1 (.int .i64 (S : Int))).set h5 2 (.int .i64 (R : Int))).set h5 3 (.int .i64 C)).set h5 4 (.slice (some ⟨b, o7, none⟩) (n - hd) (c - hd)))
  have HA5 := Lib.hid (HA.out.trans A5)
  have Hb7 := Lib.hid hb7s
  clear A5 hb7s hr4 h5
  go_wp2
  have hfin : Below g V5 (((((V5.setCell ⟨g + 1, 0, none⟩ (.int .i64 (k : Int))).setCell ⟨g + 1, 1, none⟩ (.int .i64 (S : Int))).setCell ⟨g + 1, 2, none⟩ (.int .i64 (R : Int))).setCell ⟨g + 1, 3, none⟩ (.int .i64 C)).setCell ⟨g + 1, 4, none⟩ (.slice (some ⟨b, o7, none⟩) (n - hd) (c - hd))) := ((((((Below.refl g V5).setCell (by show g ≤ g + 1; omega) _).setCell (by show g ≤ g + 1; omega) _).setCell (by show g ≤ g + 1; omega) _).setCell (by show g ≤ g + 1; omega) _).setCell (by show g ≤ g + 1; omega) _)
  have hlo := load_mess Hres.out rfl
  refine bodyPost_ret (ret_cell1 (g := g + 1) hlo Try.results27 (by rfl)) rfl ⟨o7, by rw [ES.out, ER.out, EC.out, Ek.out, Ehd.out]; rfl, ?_, ?_⟩
  · rw [← HG.out, Ek.out, Ehd.out]; exact Hb7.out.below hfin
  · rw [← HG.out]; exact HA5.out.trans hfin
end Go.Proofs.Ytfgkodgdoplpbab
