/- The contract of the program's wire.Encode. -/
import Derived.Test.YtfgkodgdoplpbabWireCode2
import Derived.Deep.DeepCutAuto
import Derived.Deep.RegionWith
import Derived.IntWalk
namespace Go.Proofs.Ytfgkodgdoplpbab
open Go.RowKit

theorem alloc_at (w : World) (o : Obj) (g : Nat) (h : g = w.heap.size) : (w.alloc o).heap[g]? = some o := by subst h; exact heap_alloc_last w o
theorem make8_run (M : Nat) (hM : M ≤ 1000000) : ∀ W, (Instr.makeSlice 22 (.int .i64 0) (.int .i64 (M : Int))).run Try.prog W = .ok (.slice (some ⟨W.heap.size, 0, none⟩) 0 M) (W.alloc (.cells (bcells (List.replicate M 0)).toArray 5)) := fun W => by
  obtain ⟨i, hi, hz0, hz1, hz2⟩ := info_u8
  have hr := run_make (P := Try.prog) W 22 5 i (.int .u8 0) Try.underlying22 hi hz0 .i64 .i64 0 M (by omega) (by omega) (by rw [hz2]; omega) (by omega)
  simp only [Int.toNat_natCast, hz1, Nat.mul_one] at hr
  have e : (madeCells (Value.int .u8 0).cells M) = (bcells (List.replicate M 0)).toArray := by
    rw [bcells_zero, ← toList_madeCells_one]; rfl
  rw [e] at hr
  exact hr
theorem Wr.head_sz (k : Nat) : 4 + Wr.szS k + Wr.szR k + Wr.szC k = Wr.head k := rfl
theorem Wr.encOut_zero {k s r c : Nat} {bs : List UInt8} (h : Wr.err k s r c bs.length = 0) : Wr.encOut k s r c bs = Wr.enc k s r c bs := by
  unfold Wr.encOut
  rw [if_pos h]
  rfl
theorem Wr.sz_le (k : Nat) : Wr.szS k ≤ 8 ∧ Wr.szR k ≤ 8 ∧ Wr.szC k ≤ 8 := by
  unfold Wr.szS Wr.szR Wr.szC
  refine ⟨?_, ?_, ?_⟩ <;> split <;> omega

set_option maxRecDepth 10000 in
set_option maxHeartbeats 4000000 in
theorem wire_Encode_ok (k s r c : Nat) (a : Option Addr) (n cap : Nat) (bs : List UInt8) (w : World) (h : BytesAt w w.heap.size a n bs) (hnil : a = none → n = 0 ∧ cap = 0) (he : Wr.err k s r c n = 0) :
    Calls Try.prog 9 #[messV k s r c a n cap] w (SlicePost 0 (Wr.enc k s r c bs) w) := by
  have hl := h.1
  obtain ⟨hk, _, hoff, _, hmost⟩ := Wr.err_zero.1 he
  have hk' : k = 1 ∨ k = 2 ∨ k = 4 := by unfold Wr.Known at hk; omega
  have hn : n ≤ 236 := by
    have : Wr.most (k : Int).toNat ≤ 236 := by unfold Wr.most; split <;> (try split) <;> omega
    omega
  have hsx : s ≤ 4294967295 ∧ r ≤ 4294967295 ∧ c ≤ 1099511627776 := by unfold Wr.Off at hoff; omega
  obtain ⟨hsx, hrx, hcx⟩ := hsx
  obtain ⟨z0, z1, z2'⟩ := Wr.sz_le k
  obtain ⟨x0, x1, x2, ⟨e0, e1, e2⟩, hL⟩ := shapeL_known hk
  rw [Int.toNat_natCast] at e0 e1 e2
  have hhead : Wr.head k ≤ 24 := by rw [← Wr.head_sz]; unfold Wr.szS Wr.szR Wr.szC; split <;> split <;> omega
  have HS : Hid (∀ W, Calls Try.prog 20 #[.int .i64 k] W fun e w' => e = .returned (.tuple #[.agg #[.int .i64 (Wr.szS k : Int), .int .i64 (Wr.szR k : Int), .int .i64 (Wr.szC k : Int), .int .i64 (Wr.least k : Int), .int .i64 (Wr.most k : Int)], .bool true]) ∧ Below W.heap.size W w') := Lib.hid (fun W => by
    have := wire_shapeOf k W
    rw [hL, decide_eq_true hk, e0, e1, e2] at this
    exact this)
  have HH : Hid (∀ W, Calls Try.prog 23 #[.agg #[.int .i64 (Wr.szS k : Int), .int .i64 (Wr.szR k : Int), .int .i64 (Wr.szC k : Int), .int .i64 (Wr.least k : Int), .int .i64 (Wr.most k : Int)]] W fun e w' => e = .returned (.int .i64 (Wr.head k : Int)) ∧ w' = W.alloc (.cells #[.int .i64 (Wr.szS k : Int), .int .i64 (Wr.szR k : Int), .int .i64 (Wr.szC k : Int), .int .i64 (Wr.least k : Int), .int .i64 (Wr.most k : Int)] 45)) := Lib.hid (fun W => by
    have := wire_headSize k hk' W
    rw [hL, e0, e1, e2] at this
    exact this)
  have HC : Hid (∀ W, Calls Try.prog 8 #[.agg #[.int .i64 k, .int .i64 s, .int .i64 r, .int .i64 c, .slice a n cap]] W fun e w' => e = .returned (.int .i64 0) ∧ Below W.heap.size W w') := Lib.hid (fun W => by
    have := wire_Check k s r c a n cap W
    rw [he] at this
    exact this)
  have hg := Blk.new w 24 [.int .i64 k, .int .i64 s, .int .i64 r, .int .i64 c, .slice a n cap]
  have hA : Below w.heap.size w (w.alloc (.cells #[.int .i64 k, .int .i64 s, .int .i64 r, .int .i64 c, .slice a n cap] 24)) := (Below.refl _ _).alloc (Nat.le_refl _) _
  have m0 := hg.cell 0 rfl
  have m1 := hg.cell 1 rfl
  have m2 := hg.cell 2 rfl
  have m3 := hg.cell 3 rfl
  have m4 := hg.cell 4 rfl
  have HG := Lib.hid hg
  have HA := Lib.hid hA
  have HZ : Hid ((w.alloc (.cells #[.int .i64 k, .int .i64 s, .int .i64 r, .int .i64 c, .slice a n cap] 24)).heap.size = w.heap.size + 1) := Lib.hid (by simp)
  have Hb := Lib.hid h
  have Hn := Lib.hid hnil
  have Hl := Lib.hid hl
  have HE := Lib.hid (show Wr.enc k s r c bs = [UInt8.ofNat k, 0, 0, 0] ++ Wr.leL s (Wr.szS k) ++ Wr.leL r (Wr.szR k) ++ Wr.leL c (Wr.szC k) ++ bs from rfl)
  have Hhd := Lib.hid (Wr.head_sz k)
  have hu8 := u8_of k
  clear hg hA h hnil hl hk hk' hoff hmost he hL e0 e1 e2
  generalize Wr.enc k s r c bs = OUT at *
  generalize Wr.szS k = p at *
  generalize Wr.szR k = q at *
  generalize Wr.szC k = t at *
  generalize Wr.least k = lo at *
  generalize Wr.most k = hi at *
  generalize Wr.head k = hd at *
  unfold messV
  go_enter Try.func9, Try.ntmps9
  go_wp2_with fail
  refine (HC.out _).mono ?_
  rintro e w1 ⟨rfl, hb1⟩
  have hg1 := HG.out.kept hb1
  have HB1 := Lib.hid (HA.out.trans (hb1.mono HA.out.size))
  clear m0 m1 m2 m3 m4 hb1
  have m0 := hg1.cell 0 rfl
  have HG1 := Lib.hid hg1
  clear hg1
  go_wp2_with fail
  refine (HS.out _).mono ?_
  rintro e w2 ⟨rfl, hb2⟩
  have hg2 := HG1.out.kept hb2
  have hs3 := Blk.new w2 45 [.int .i64 (p : Int), .int .i64 (q : Int), .int .i64 (t : Int), .int .i64 (lo : Int), .int .i64 (hi : Int)]
  have hb3 : Below w2.heap.size w2 (w2.alloc (.cells #[.int .i64 (p : Int), .int .i64 (q : Int), .int .i64 (t : Int), .int .i64 (lo : Int), .int .i64 (hi : Int)] 45)) := (Below.refl _ _).alloc (Nat.le_refl _) _
  have hg3 := hg2.kept hb3
  have hB3 := HB1.out.trans ((hb2.trans (hb3.mono hb2.size)).mono HB1.out.size)
  have hgl := hg2.lt
  obtain ⟨w3, hw3⟩ : ∃ w3, w3 = w2.alloc (.cells #[.int .i64 (p : Int), .int .i64 (q : Int), .int .i64 (t : Int), .int .i64 (lo : Int), .int .i64 (hi : Int)] 45) := ⟨_, rfl⟩
  have hz3 : w3.heap.size = w2.heap.size + 1 := by rw [hw3]; simp
  rw [← hw3] at hs3 hg3 hB3
  have HW3 := Lib.hid hw3
  have HG3 := Lib.hid hg3
  have HS3 := Lib.hid hs3
  have HB3 := Lib.hid hB3
  clear m0 hg2 hb2 hb3 hB3 hw3
  have m4 := hg3.cell 4 rfl
  have s0 := hs3.cell 0 rfl
  have s1 := hs3.cell 1 rfl
  have s2 := hs3.cell 2 rfl
  have s3 := hs3.cell 3 rfl
  have s4 := hs3.cell 4 rfl
  clear hg3 hs3
  obtain ⟨M, hM⟩ : ∃ M, M = hd + n := ⟨_, rfl⟩
  have hsum : (hd : Int) + (n : Int) = (M : Int) := by omega
  have hM2 : M ≤ 1000 := by omega
  have hmk := make8_run M (by omega)
  have hwM : IntKind.i64.wrap (M : Int) = (M : Int) := IntWalk.i64_in _ (by omega)
  have HM := Lib.hid hM
  have l1 : w.heap.size < w3.heap.size := by omega
  have l2 : w2.heap.size < w3.heap.size := by omega
  have Hz3 := Lib.hid hz3
  clear hM hz3
  go_upto_region 5 with fail
  rw [← HW3.out]
  go_cut [7] (fun v7 wx => ∃ g, v7 = .slice (some ⟨g, 0, none⟩) 0 M ∧ Hid (w3.heap.size ≤ g ∧ wx.heap[g]? = some (.cells (bcells (List.replicate M 0)).toArray 5 (0, 0)) ∧ Below w3.heap.size w3 wx))
  case first =>
    go_region_with (first | (go_at_call 23; refine (HH.out _).mono ?_; rintro e w' ⟨rfl, rfl⟩))
    all_goals
      go_wp2_with fail
      go_meet
      case rel =>
        refine ⟨_, rfl, Lib.hid ⟨?_, alloc_at _ _ _ (by simp), ?_⟩⟩
        · simp
        · exact (((Below.refl _ _).alloc (Nat.le_refl _) _).drew).alloc (by simp) _
  case rest =>
    obtain ⟨g, rfl, HR⟩ := hcut
    obtain ⟨hBg, hgc, hk2⟩ := HR.out
    have ho2 := ownsRow_base (own_zero hgc (by unfold maxLen; omega)) hBg
    have z2 := hk2.size
    have hg4 := HG3.out.below hk2 l1
    have hs4 := HS3.out.below hk2 l2
    clear m4 s0 s1 s2 s3 s4 hgc HR
    have m0 := hg4.cell 0 rfl
    clear hg4 hs4
    obtain ⟨B, hBe⟩ : ∃ B, B = w3.heap.size := ⟨_, rfl⟩
    have HBe := Lib.hid hBe
    rw [← hBe] at ho2 hk2 z2
    clear hBe hBg
    go_wp2_with (at_builtin; refine wpL_append8 _ rfl _ _ rfl B _ 0 _ _ rfl (ho2.alloc _) _ 4 _ [.int .u8 ((UInt8.ofNat k).toNat : Int), .int .u8 0, .int .u8 0, .int .u8 0] rfl rfl (by intro h; cases h) (fun ad h => by cases h; exact news_row _ _ _) (by simp [Value.oneCell']) (by omega) (by simp; omega) ?_)
    intro a3 c3 w4 ho4 hg4
    have hk4 : Below B w3 w4 := below_own (hk2.alloc (by omega) _) (ho2.alloc _) hg4 (Nat.le_refl _) (by simp; omega)
    have ho4' : w4.ownsRow B 5 1 (.slice a3 4 c3) 4 (bcells [UInt8.ofNat k, 0, 0, 0]) := ho4
    clear ho4 hg4 ho2 hk2 z2
    have z4 : B ≤ w4.heap.size := by rw [HBe.out]; exact hk4.size
    have hg4 := HG3.out.below hk4 (by rw [HBe.out]; exact l1)
    have hs4 := HS3.out.below hk4 (by rw [HBe.out]; exact l2)
    clear m0
    have m1 := hg4.cell 1 rfl
    have s0 := hs4.cell 0 rfl
    clear hg4 hs4
    go_wp2_with fail
    refine (wire_appendNumber B 4 c3 a3 _ s p _ ho4' (by omega) z0 (by omega) z4).mono ?_
    rintro e w5 ⟨a5, c5, rfl, ho5, hb5⟩
    have hk5 := hk4.trans (hb5.mono (Nat.le_refl _))
    have z5 : B ≤ w5.heap.size := by rw [HBe.out]; exact hk5.size
    have hg5 := HG3.out.below hk5 (by rw [HBe.out]; exact l1)
    have hs5 := HS3.out.below hk5 (by rw [HBe.out]; exact l2)
    clear m1 s0 ho4' hk4 z4 hb5
    have m2 := hg5.cell 2 rfl
    have s1 := hs5.cell 1 rfl
    clear hg5 hs5
    go_wp2_with fail
    refine (wire_appendNumber B (4 + p) c5 a5 _ r q _ ho5 (by omega) z1 (by omega) z5).mono ?_
    rintro e w6 ⟨a6, c6, rfl, ho6, hb6⟩
    have hk6 := hk5.trans (hb6.mono (Nat.le_refl _))
    have z6 : B ≤ w6.heap.size := by rw [HBe.out]; exact hk6.size
    have hg6 := HG3.out.below hk6 (by rw [HBe.out]; exact l1)
    have hs6 := HS3.out.below hk6 (by rw [HBe.out]; exact l2)
    clear m2 s1 ho5 hk5 z5 hb6
    have m3 := hg6.cell 3 rfl
    have s2 := hs6.cell 2 rfl
    clear hg6 hs6
    go_wp2_with fail
    refine (wire_appendNumber B (4 + p + q) c6 a6 _ c t _ ho6 (by omega) z2' (by omega) z6).mono ?_
    rintro e w7 ⟨a7, c7, rfl, ho7, hb7⟩
    have hk7 := hk6.trans (hb7.mono (Nat.le_refl _))
    have z7 : B ≤ w7.heap.size := by rw [HBe.out]; exact hk7.size
    have hg7 := HG3.out.below hk7 (by rw [HBe.out]; exact l1)
    clear m3 s2 ho6 hk6 z6 hb7
    have m4 := hg7.cell 4 rfl
    clear hg7
    have Hk7 := Lib.hid hk7
    have Ho7 := Lib.hid ho7
    have Hb7 := Lib.hid (Hb.out.below (HB3.out.trans (hk7.mono (by rw [HBe.out]; omega))))
    clear ho7 hk7
    go_wp2_with (at_builtin; refine wpL_append8 _ rfl _ _ rfl B _ (4 + p + q + t) _ _ rfl Ho7.out _ n _ (bcells bs) rfl (by rw [bcells_length]; exact Hl.out) Hn.out Hb7.out.news (bcells_one _) (by omega) z7 ?_)
    intro a8 c8 w8 ho8 hg8
    have hk8 : Below B w3 w8 := below_own Hk7.out Ho7.out hg8 (Nat.le_refl _) z7
    have Ho8 := Lib.hid ho8
    have Hk8 := Lib.hid hk8
    clear ho8 hg8 hk8
    go_wp2
    go_ret2
    rw [HE.out]
    refine ⟨a8, 4 + p + q + t + n, c8, rfl, ?_, HB3.out.trans (Hk8.out.mono (by rw [HBe.out]; omega))⟩
    rw [bcells_append, List.length_append, Hl.out]
    have hlen : ([UInt8.ofNat k, 0, 0, 0] ++ Wr.leL s p ++ Wr.leL r q ++ Wr.leL c t).length = 4 + p + q + t := by simp [Wr.leL_length]; omega
    rw [hlen, show [UInt8.ofNat k, 0, 0, 0] ++ Wr.leL s p ++ Wr.leL r q ++ Wr.leL c t = UInt8.ofNat k :: 0 :: 0 :: 0 :: (Wr.leL s p ++ (Wr.leL r q ++ Wr.leL c t)) by simp]
    have hle : w.heap.size ≤ B := by rw [HBe.out]; omega
    exact ownsRow_base Ho8.out hle

set_option maxHeartbeats 800000 in
theorem wire_Encode (k s r c : Int) (a : Option Addr) (n cap : Nat) (bs : List UInt8) (w : World) (h : BytesAt w w.heap.size a n bs) (hnil : a = none → n = 0 ∧ cap = 0) :
    Calls Try.prog 9 #[messV k s r c a n cap] w (SlicePost (Wr.err k s r c n) (Wr.encOut k s r c bs) w) := by
  have hl := h.1
  by_cases he : Wr.err k s r c n = 0
  · obtain ⟨hk, hla, hoff, _, _⟩ := Wr.err_zero.1 he
    have hk0 : 0 ≤ k := by unfold Wr.Known at hk; omega
    have ho : 0 ≤ s ∧ 0 ≤ r ∧ 0 ≤ c := by unfold Wr.Off at hoff; omega
    obtain ⟨kn, rfl⟩ := Int.eq_ofNat_of_zero_le hk0
    obtain ⟨sn, rfl⟩ := Int.eq_ofNat_of_zero_le ho.1
    obtain ⟨rn, rfl⟩ := Int.eq_ofNat_of_zero_le ho.2.1
    obtain ⟨cn, rfl⟩ := Int.eq_ofNat_of_zero_le ho.2.2
    rw [Wr.encOut_zero (by rw [hl]; exact he), he]
    exact wire_Encode_ok kn sn rn cn a n cap bs w h hnil he
  · have HE := Lib.hid (show Wr.encOut k s r c bs = [] by unfold Wr.encOut; rw [hl, if_neg he])
    have hA : Below w.heap.size w (w.alloc (.cells #[.int .i64 k, .int .i64 s, .int .i64 r, .int .i64 c, .slice a n cap] 24)) := (Below.refl _ _).alloc (Nat.le_refl _) _
    have hg := Blk.new w 24 [.int .i64 k, .int .i64 s, .int .i64 r, .int .i64 c, .slice a n cap]
    have m0 := hg.cell 0 rfl
    have m1 := hg.cell 1 rfl
    have m2 := hg.cell 2 rfl
    have m3 := hg.cell 3 rfl
    have m4 := hg.cell 4 rfl
    have HC := Lib.hid (fun W => wire_Check k s r c a n cap W)
    have HA := Lib.hid hA
    have hne : ¬ (Wr.err k s r c n : Int) = 0 := by omega
    clear h hnil hl hA hg
    unfold messV at HC ⊢
    generalize Wr.err k s r c n = E at *
    go_enter Try.func9, Try.ntmps9
    go_wp2_with fail
    refine (HC.out _).mono ?_
    rintro e w1 ⟨rfl, hb1⟩
    have HB1 := Lib.hid (HA.out.trans (hb1.mono HA.out.size))
    clear m0 m1 m2 m3 m4 hb1
    go_wp2
    go_ret2
    rw [HE.out]
    exact slicePost_none HB1.out
end Go.Proofs.Ytfgkodgdoplpbab
