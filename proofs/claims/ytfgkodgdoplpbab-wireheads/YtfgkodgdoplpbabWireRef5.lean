/- The contract of the reference's WireOf. -/
import Derived.Test.YtfgkodgdoplpbabWireRef1
import Derived.Test.YtfgkodgdoplpbabWireRef4
import Derived.Test.YtfgkodgdoplpbabWireCode6
import Derived.Test.YtfgkodgdoplpbabStructStore
import Derived.Laws.StructEq
import Derived.Deep.CutBlock
namespace Go.Proofs.Ytfgkodgdoplpbab
open Go.RowKit

theorem Wr.three {bs : List UInt8} (h : 4 ≤ bs.length) : (bs.drop 1).take 3 = [bs.getD 1 0, bs.getD 2 0, bs.getD 3 0] := by
  obtain ⟨a, b, c, d, l, rfl⟩ : ∃ a b c d l, bs = a :: b :: c :: d :: l := by
    match bs, h with
    | a :: b :: c :: d :: l, _ => exact ⟨a, b, c, d, l, rfl⟩
  rfl
theorem Wr.zeros {bs : List UInt8} (h : 4 ≤ bs.length) : (bs.drop 1).take 3 = [0, 0, 0] ↔ ¬ (bs.getD 1 0 ≠ 0 ∨ bs.getD 2 0 ≠ 0 ∨ bs.getD 3 0 ≠ 0) := by
  rw [Wr.three h]
  simp only [List.cons.injEq, and_true]
  constructor
  · rintro ⟨h1, h2, h3⟩ (h | h | h)
    · exact h h1
    · exact h h2
    · exact h h3
  · intro h
    refine ⟨?_, ?_, ?_⟩
    · exact Classical.not_not.1 fun e => h (.inl e)
    · exact Classical.not_not.1 fun e => h (.inr (.inl e))
    · exact Classical.not_not.1 fun e => h (.inr (.inr e))

theorem Wr.head_ge (k : Nat) : 8 ≤ Wr.head k := by
  unfold Wr.head Wr.szS Wr.szR Wr.szC
  split <;> (try split) <;> omega
theorem Wr.nums1 {bs : List UInt8} (h : Wr.kd bs = 1) : Wr.rs bs = Wr.num ((bs.drop 4).take 4) ∧ Wr.rr bs = 0 ∧ Wr.rc bs = 0 := by
  unfold Wr.rc Wr.rn Wr.rs Wr.rr
  rw [h]
  exact ⟨rfl, rfl, rfl⟩
theorem Wr.nums2 {bs : List UInt8} (h : Wr.kd bs = 2) : Wr.rs bs = Wr.num ((bs.drop 4).take 4) ∧ Wr.rr bs = Wr.num ((bs.drop 8).take 4) ∧ Wr.rc bs = 0 := by
  unfold Wr.rc Wr.rn Wr.rs Wr.rr
  rw [h]
  exact ⟨rfl, rfl, rfl⟩
theorem Wr.nums4 {bs : List UInt8} (h : Wr.kd bs = 4) : Wr.rs bs = 0 ∧ Wr.rr bs = Wr.num ((bs.drop 4).take 4) ∧ Wr.rc bs = Wr.sgn (Wr.num ((bs.drop 8).take 8)) := by
  unfold Wr.rc Wr.rn Wr.rs Wr.rr
  rw [h]
  exact ⟨rfl, rfl, rfl⟩

set_option maxRecDepth 10000 in
set_option maxHeartbeats 8000000 in
theorem ref_WireOf_late (b off n c : Nat) (bs : List UInt8) (w : World) (h : BytesAt w w.heap.size (some ⟨b, off, none⟩) n bs) (hc : n ≤ c) (hn : n ≤ 140737488355328) (h4 : 4 ≤ n) (hk : Wr.Known (Wr.kd bs)) (hz : (bs.drop 1).take 3 = [0, 0, 0]) (hh : Wr.head (Wr.kd bs) ≤ n) :
    Calls Try.prog 14 #[.slice (some ⟨b, off, none⟩) n c] w (MessPost (Wr.decErr bs) (Wr.dk bs) (Wr.ds bs) (Wr.dr bs) (Wr.dc bs) (Wr.db bs) w) := by
  have hl := h.1
  obtain ⟨_, _, e', b0⟩ := bytes_lt h (k := 0) (by omega)
  cases e'
  rw [Nat.add_zero] at b0
  have hbl : b < w.heap.size := by obtain ⟨_, _, e, hlt, _⟩ := h.2 (by omega); cases e; exact hlt
  have hx := (bs.getD 0 0).toNat_lt
  have Hkd : Hid ((bs.getD 0 0).toNat = Wr.kd bs) := Lib.hid rfl
  rw [Hkd.out] at b0 hx
  obtain ⟨hd1, hd0⟩ := Wr.hd_known hk
  -- the worlds: the result's block, the message's, the map
  obtain ⟨w1, hw1⟩ : ∃ w1, w1 = (w.alloc (.cells #[.int .i64 0, .int .i64 0, .int .i64 0, .int .i64 0, .slice none 0 0] 24)).alloc (.cells #[.int .i64 (Wr.kd bs : Int), .int .i64 0, .int .i64 0, .int .i64 0, .slice none 0 0] 24) := ⟨_, rfl⟩
  have hz1 : w1.heap.size = w.heap.size + 1 + 1 := by rw [hw1]; simp
  have hA1 : Below w.heap.size w w1 := by rw [hw1]; exact ((Below.refl _ _).alloc (Nat.le_refl _) _).alloc (by simp) _
  have hP1 : Blk w1 w.heap.size 24 [.int .i64 0, .int .i64 0, .int .i64 0, .int .i64 0, .slice none 0 0] := by
    rw [hw1]; exact (Blk.new w 24 [.int .i64 0, .int .i64 0, .int .i64 0, .int .i64 0, .slice none 0 0]).kept ((Below.refl _ _).alloc (Nat.le_refl _) _)
  have hM1 : Blk w1 (w.heap.size + 1) 24 [.int .i64 (Wr.kd bs : Int), .int .i64 0, .int .i64 0, .int .i64 0, .slice none 0 0] := by
    have := Blk.new (w.alloc (.cells #[.int .i64 0, .int .i64 0, .int .i64 0, .int .i64 0, .slice none 0 0] 24)) 24 [.int .i64 (Wr.kd bs : Int), .int .i64 0, .int .i64 0, .int .i64 0, .slice none 0 0]
    rw [show (w.alloc (.cells #[.int .i64 0, .int .i64 0, .int .i64 0, .int .i64 0, .slice none 0 0] 24)).heap.size = w.heap.size + 1 by simp] at this
    rw [hw1]; exact this
  obtain ⟨W1, W2, W3, r1, r2, r3, r4, hB3⟩ := head_map w1 (Wr.kd bs) hx
  have r0 := run_makeMap (P := Try.prog) 56 w1
  rw [hz1] at r0 r1 r2 r3 r4
  rw [hw1] at r0 r1
  have hP3 := hP1.kept hB3
  have hM3 := hM1.kept hB3
  have HB3 := Lib.hid (hA1.trans (hB3.mono hA1.size))
  have hby := h.below HB3.out
  have m0 := hM3.cell 0 rfl
  rw [hd1] at r4
  have hd0' : ¬ Wr.head (Wr.kd bs) = 0 := by rw [← hd1]; exact hd0
  have h13 : BytesAt W3 w.heap.size (some ⟨b, off + 1, none⟩) 3 [0, 0, 0] := by
    have := (hby.part (m := 1) (by omega)).cut (m := 3) (by omega)
    rw [hz] at this
    exact this
  have cv := conv_bytes (P := Try.prog) h13 22 5 9 (c - 1) Try.underlying22 Try.underlying5 Try.underlying9
  rw [show strOf [0, 0, 0] = (⟨#[0, 0, 0]⟩ : ByteArray) from rfl] at cv
  have HP3 := Lib.hid hP3
  have HM3 := Lib.hid hM3
  have Hby := Lib.hid hby
  have Hl := Lib.hid hl
  have HK := Lib.hid hk
  have HZ := Lib.hid hz
  have hcc : ¬ c - 1 = 0 := by omega
  have hc1 : ¬ c = 1 := by omega
  have i0 : 0 < n := by omega
  have i4 : (4 : Int) ≤ (n : Int) := by omega
  have i4' : ¬ (n : Int) < 4 := by omega
  have inc : (n : Int) ≤ (c : Int) := by omega
  have ihd : ¬ n < Wr.head (Wr.kd bs) := by omega
  have hge := Wr.head_ge (Wr.kd bs)
  have Hrb := Lib.hid (show Wr.rb bs = bs.drop (Wr.head (Wr.kd bs)) from rfl)
  have Hlate := Lib.hid (Wr.late (bs := bs) (by rw [hl]; exact h4) hk ((Wr.zeros (by rw [hl]; exact h4)).1 hz) (by rw [hl]; exact hh))
  have HHk := Lib.hid (show (Wr.kd bs = 2 → Wr.head (Wr.kd bs) = 12) ∧ (Wr.kd bs = 4 → Wr.head (Wr.kd bs) = 16) from ⟨fun e => by rw [e]; rfl, fun e => by rw [e]; rfl⟩)
  have Hx := Lib.hid (Wr.dec_err bs)
  clear hl h hA1 hP1 hM1 hB3 hP3 hM3 hby h13 hk hz hd1 hd0 hz1 hw1
  generalize Wr.head (Wr.kd bs) = hd at *
  go_enter Try.func14, Try.ntmps14
  go_upto_block 0 with fail
  clear r0 r1 r2 r3 r4 cv b0
  have F1 : Hid (∀ W, Below w.heap.size W3 W → Calls Try.prog 29 #[.slice (some ⟨b, off + 4, none⟩) 4 (c - 4)] W fun e w' => e = .returned (.int .i64 (Wr.num ((bs.drop 4).take 4) : Int)) ∧ W = w') := Lib.hid (fun W hW => by
    have := ref_numberOf b (off + 4) 4 (c - 4) w.heap.size _ W (((Hby.out.below hW).part (m := 4) (by omega)).cut (m := 4) (by omega)) (by decide)
    rw [Wr.sgn_short _ 4 (by decide)] at this
    exact this)
  have F2 : Hid (∀ W, 12 ≤ n → Below w.heap.size W3 W → Calls Try.prog 29 #[.slice (some ⟨b, off + 8, none⟩) 4 (c - 8)] W fun e w' => e = .returned (.int .i64 (Wr.num ((bs.drop 8).take 4) : Int)) ∧ W = w') := Lib.hid (fun W hn12 hW => by
    have := ref_numberOf b (off + 8) 4 (c - 8) w.heap.size _ W (((Hby.out.below hW).part (m := 8) (by omega)).cut (m := 4) (by omega)) (by decide)
    rw [Wr.sgn_short _ 4 (by decide)] at this
    exact this)
  have F3 : Hid (∀ W, 16 ≤ n → Below w.heap.size W3 W → Calls Try.prog 29 #[.slice (some ⟨b, off + 8, none⟩) 8 (c - 8)] W fun e w' => e = .returned (.int .i64 (Wr.sgn (Wr.num ((bs.drop 8).take 8)))) ∧ W = w') := Lib.hid (fun W hn16 hW =>
    ref_numberOf b (off + 8) 8 (c - 8) w.heap.size _ W (((Hby.out.below hW).part (m := 8) (by omega)).cut (m := 8) (by omega)) (by decide))
  have h5 : 5 ≤ maxLen := by decide
  have H5 := Lib.hid h5
  have q4 : ¬ c = 4 := by omega
  have q8 : 8 ≤ n := by omega
  have j8 : (8 : Int) ≤ (n : Int) := by omega
  have f1 := HM3.out.frozen h5 1
  have f2 := HM3.out.frozen h5 2
  have f3 := HM3.out.frozen h5 3
  have m1 := HM3.out.cell 1 rfl
  have m2 := HM3.out.cell 2 rfl
  have m3 := HM3.out.cell 3 rfl
  clear h5
  go_cut [35] (fun _ wx => Hid (Blk wx (w.heap.size + 1) 24 [.int .i64 (Wr.kd bs : Int), .int .i64 (Wr.rs bs : Int), .int .i64 (Wr.rr bs : Int), .int .i64 (Wr.rc bs), .slice none 0 0] ∧ Blk wx w.heap.size 24 [.int .i64 0, .int .i64 0, .int .i64 0, .int .i64 0, .slice none 0 0] ∧ Below w.heap.size W3 wx))
  case first =>
    have hk' : Wr.kd bs = 1 ∨ Wr.kd bs = 2 ∨ Wr.kd bs = 4 := by have := HK.out; unfold Wr.Known at this; omega
    have Hne : Hid (w.heap.size ≠ w.heap.size + 1) := Lib.hid (by omega)
    rcases hk' with hk | hk | hk
    · obtain ⟨n1, n2, n3⟩ := Wr.nums1 hk
      have HN := Lib.hid (And.intro n1 (And.intro n2 n3))
      have HKK := Lib.hid hk
      clear n1 n2 n3
      rw [hk] at m0 HM3
      rw [hk]
      have HF1 := Lib.hid (F1.out W3 (Below.refl _ _))
      clear hk
      go_wp2_with (go_at_call 29; refine HF1.out.mono ?_; rintro e w' ⟨rfl, rfl⟩)
      go_meet
      case rel =>
        rw [HN.out.1, HN.out.2.1, HN.out.2.2, HKK.out]
        exact Lib.hid ⟨HM3.out.set H5.out 1 _, HP3.out.other Hne.out _, (Below.refl _ _).setCell (by show w.heap.size ≤ w.heap.size + 1; omega) _⟩
    · obtain ⟨n1, n2, n3⟩ := Wr.nums2 hk
      have HN := Lib.hid (And.intro n1 (And.intro n2 n3))
      have HKK := Lib.hid hk
      have q12 : 12 ≤ n := by have := HHk.out.1 hk; omega
      clear n1 n2 n3
      rw [hk] at m0 HM3
      rw [hk]
      have j12 : (12 : Int) ≤ (n : Int) := by omega
      have c8 : ¬ c = 8 := by omega
      have hd1 : Below w.heap.size W3 W3.drew := (Below.refl _ _).drew
      have HF1 := Lib.hid (F1.out _ hd1)
      have HF2 := Lib.hid (F2.out _ q12 hd1)
      have hMd := HM3.out.kept (Below.refl W3.heap.size W3).drew
      have hPd := HP3.out.kept (Below.refl W3.heap.size W3).drew
      have HMd := Lib.hid hMd
      have HPd := Lib.hid hPd
      obtain ⟨p4, hp4⟩ : ∃ p, off + 4 = p := ⟨_, rfl⟩
      obtain ⟨p8, hp8⟩ : ∃ p, off + 8 = p := ⟨_, rfl⟩
      obtain ⟨e4, he4⟩ : ∃ p, c - 4 = p := ⟨_, rfl⟩
      obtain ⟨e8, he8⟩ : ∃ p, c - 8 = p := ⟨_, rfl⟩
      rw [hp4, he4] at HF1
      rw [hp8, he8] at HF2
      obtain ⟨X, hX⟩ : ∃ X, X = Wr.num ((bs.drop 4).take 4) := ⟨_, rfl⟩
      obtain ⟨Y, hY⟩ : ∃ Y, Y = Wr.num ((bs.drop 8).take 4) := ⟨_, rfl⟩
      rw [← hX] at HF1 HN
      rw [← hY] at HF2 HN
      clear hk hX hY F1 F2 F3 hMd hPd
      go_upto_region 15 with fail
      go_region_with (first
        | (go_at_call_of 29 (Value.slice (some { block := b, off := p4 }) 4 e4); refine HF1.out.mono ?_; rintro e w' ⟨rfl, rfl⟩)
        | (go_at_call_of 29 (Value.slice (some { block := b, off := p8 }) 4 e8); refine HF2.out.mono ?_; rintro e w' ⟨rfl, rfl⟩))
      all_goals
        go_wp2_with fail
        go_meet
        case rel =>
          rw [HN.out.1, HN.out.2.1, HN.out.2.2, HKK.out]
          have hle : w.heap.size ≤ w.heap.size + 1 := by omega
          first
            | exact Lib.hid ⟨(HMd.out.set H5.out 1 _).set H5.out 2 _, (HPd.out.other Hne.out _).other Hne.out _, (hd1.setCell hle _).setCell hle _⟩
            | exact Lib.hid ⟨(HMd.out.set H5.out 2 _).set H5.out 1 _, (HPd.out.other Hne.out _).other Hne.out _, (hd1.setCell hle _).setCell hle _⟩
    · obtain ⟨n1, n2, n3⟩ := Wr.nums4 hk
      have HN := Lib.hid (And.intro n1 (And.intro n2 n3))
      have HKK := Lib.hid hk
      have q12 : 16 ≤ n := by have := HHk.out.2 hk; omega
      clear n1 n2 n3
      rw [hk] at m0 HM3
      rw [hk]
      have j12 : (16 : Int) ≤ (n : Int) := by omega
      have c8 : ¬ c = 8 := by omega
      have hd1 : Below w.heap.size W3 W3.drew := (Below.refl _ _).drew
      have HF1 := Lib.hid (F1.out _ hd1)
      have HF2 := Lib.hid (F3.out _ q12 hd1)
      have hMd := HM3.out.kept (Below.refl W3.heap.size W3).drew
      have hPd := HP3.out.kept (Below.refl W3.heap.size W3).drew
      have HMd := Lib.hid hMd
      have HPd := Lib.hid hPd
      obtain ⟨p4, hp4⟩ : ∃ p, off + 4 = p := ⟨_, rfl⟩
      obtain ⟨p8, hp8⟩ : ∃ p, off + 8 = p := ⟨_, rfl⟩
      obtain ⟨e4, he4⟩ : ∃ p, c - 4 = p := ⟨_, rfl⟩
      obtain ⟨e8, he8⟩ : ∃ p, c - 8 = p := ⟨_, rfl⟩
      rw [hp4, he4] at HF1
      rw [hp8, he8] at HF2
      obtain ⟨X, hX⟩ : ∃ X, X = Wr.num ((bs.drop 4).take 4) := ⟨_, rfl⟩
      obtain ⟨Y, hY⟩ : ∃ Y, Y = Wr.sgn (Wr.num ((bs.drop 8).take 8)) := ⟨_, rfl⟩
      rw [← hX] at HF1 HN
      rw [← hY] at HF2 HN
      clear hk hX hY F1 F2 F3 hMd hPd
      go_upto_region 17 with fail
      go_region_with (first
        | (go_at_call_of 29 (Value.slice (some { block := b, off := p4 }) 4 e4); refine HF1.out.mono ?_; rintro e w' ⟨rfl, rfl⟩)
        | (go_at_call_of 29 (Value.slice (some { block := b, off := p8 }) 8 e8); refine HF2.out.mono ?_; rintro e w' ⟨rfl, rfl⟩))
      all_goals
        go_wp2_with fail
        go_meet
        case rel =>
          rw [HN.out.1, HN.out.2.1, HN.out.2.2, HKK.out]
          have hle : w.heap.size ≤ w.heap.size + 1 := by omega
          first
            | exact Lib.hid ⟨(HMd.out.set H5.out 2 _).set H5.out 3 _, (HPd.out.other Hne.out _).other Hne.out _, (hd1.setCell hle _).setCell hle _⟩
            | exact Lib.hid ⟨(HMd.out.set H5.out 3 _).set H5.out 2 _, (HPd.out.other Hne.out _).other Hne.out _, (hd1.setCell hle _).setCell hle _⟩
  case rest =>
    obtain ⟨hM, hP, hB⟩ := hcut.out
    have hBw := HB3.out.trans hB
    have hzc : w.heap.size + 1 < wc.heap.size := hM.lt
    have hby := Hby.out.below hB
    obtain ⟨o7, ho7, hb7⟩ : ∃ o7, (if c = hd then (some ⟨b, off, none⟩ : Option Addr) else some ⟨b, off + hd, none⟩) = some ⟨b, o7, none⟩ ∧ BytesAt wc w.heap.size (some ⟨b, o7, none⟩) (n - hd) (Wr.rb bs) := by
      rw [Hrb.out]
      by_cases hcz : c = hd
      · exact ⟨off, if_pos hcz, by rw [List.length_drop, Hl.out], fun h => absurd h (by omega)⟩
      · exact ⟨off + hd, if_neg hcz, hby.part (by omega)⟩
    have hrl : (Wr.rb bs).length = n - hd := hb7.1
    have ihn : (hd : Int) ≤ (n : Int) := by omega
    have Hb7 := Lib.hid hb7
    have HMc := Lib.hid hM
    have HPc := Lib.hid hP
    have HBc := Lib.hid hBw
    have Hrl := Lib.hid hrl
    clear m0 m1 m2 m3 f1 f2 f3 F1 F2 F3 hcut hM hP hB hBw hby hb7 hrl
    go_wp2_with (at_builtin; refine wpL_append8 _ rfl _ _ rfl wc.heap.size _ 0 0 [] rfl (World.ownsRow_nil _ _ _ _) _ (n - hd) _ (bcells (Wr.rb bs)) rfl (by rw [bcells_length]; exact Hrl.out) (by intro h; cases h) Hb7.out.news (bcells_one _) (by omega) (Nat.le_refl _) ?_)
    intro a8 c8 w8 ho8 hg8
    have hb8 : Below wc.heap.size wc w8 := below_own (e := 5) (Below.refl _ _) (World.ownsRow_nil _ _ _ _) hg8 (Nat.le_refl _) (Nat.le_refl _)
    clear hg8
    have h5 := H5.out
    have hP8 := HPc.out.kept hb8
    have hM8 := HMc.out.kept hb8
    have hB8 := HBc.out.trans (hb8.mono HBc.out.size)
    have m4 := hM8.cell 4 rfl
    have f4 := hM8.frozen h5 4
    have hM9 := hM8.set h5 4 (.slice a8 (n - hd) c8)
    have hne : w.heap.size ≠ w.heap.size + 1 := by omega
    have hP9 := hP8.other (i := 4) (k := w.heap.size + 1) hne (.slice a8 (n - hd) c8)
    have Ho9 := own_beside (i := 4) ho8 hM8 h5 hzc (.slice a8 (n - hd) c8)
    have HB9 : Below w.heap.size w (w8.setCell ⟨w.heap.size + 1, 4, none⟩ (.slice a8 (n - hd) c8)) := hB8.setCell (by show w.heap.size ≤ w.heap.size + 1; omega) _
    have Hnn := Lib.hid (own_none ho8)
    have Hcp := Lib.hid ((own_cap ho8).1)
    clear hP8 hM8 hB8 hb8 ho8
    go_upto_region 19 with fail
    clear m4 f4
    obtain ⟨w9, hw9⟩ : ∃ w9, w9 = w8.setCell ⟨w.heap.size + 1, 4, none⟩ (.slice a8 (n - hd) c8) := ⟨_, rfl⟩
    rw [← hw9] at hM9 hP9 Ho9 HB9 ⊢
    clear hw9
    obtain ⟨m0, m1, m2, m3, m4⟩ := hM9.facts5.1
    have HC := Lib.hid (ref_WireFault (Wr.kd bs) (Wr.rs bs) (Wr.rr bs) (Wr.rc bs) a8 (n - hd) c8 w9)
    have HM9 := Lib.hid hM9
    have HP9 := Lib.hid hP9
    have HO9 := Lib.hid Ho9
    have HB9' := Lib.hid HB9
    rw [Hrl.out] at Hlate
    unfold messV at HC
    clear hM9 hP9 Ho9 HB9 h5
    go_wp2_with fail
    refine HC.out.mono ?_
    rintro e w10 ⟨rfl, hb10⟩
    have hP10 := HP9.out.kept hb10
    have hM10 := HM9.out.kept hb10
    have hO10 := own_below HO9.out hb10
    have hB10 := HB9'.out.trans (hb10.mono HB9'.out.size)
    clear m0 m1 m2 m3 m4 hb10 HC
    by_cases he0 : Wr.decErr bs = 0
    · have he1 : Wr.err (Wr.kd bs) (Wr.rs bs) (Wr.rr bs) (Wr.rc bs) (n - hd) = 0 := Hlate.out.symm.trans he0
      rw [he1]
      have HDs : Hid (Wr.dk bs = Wr.kd bs ∧ Wr.ds bs = Wr.rs bs ∧ Wr.dr bs = Wr.rr bs ∧ Wr.dc bs = Wr.rc bs ∧ Wr.db bs = Wr.rb bs) := Lib.hid ⟨if_pos he0, if_pos he0, if_pos he0, if_pos he0, if_pos he0⟩
      have He0 := Lib.hid he0
      clear he1 he0
      obtain ⟨m0, m1, m2, m3, m4⟩ := hM10.facts5.1
      have HP10 := Lib.hid hP10
      have HO10 := Lib.hid hO10
      have HB10 := Lib.hid hB10
      have z10 := hB10.size
      clear hP10 hM10 hO10 hB10
      go_wp2_with (refine wpL_storeBlk (o := ⟨none, _, _, _, _, _⟩) rfl 24 (.tmp 2) (.tmp 73) rfl w.heap.size _ [.int .i64 (Wr.kd bs : Int), .int .i64 (Wr.rs bs : Int), .int .i64 (Wr.rr bs : Int), .int .i64 (Wr.rc bs), .slice a8 (n - hd) c8] rfl rfl HP10.out size_mess rfl rfl ?_)
      intro w11 hk11 hg11 hz11
      have HK11 := Lib.hid hk11
      have HO11 := Lib.hid (own_beside_row HO10.out hg11 (by omega))
      have HB11 := Lib.hid (below_row HB10.out hg11 z10 (Nat.le_refl _))
      clear hk11 hg11 hz11 m0 m1 m2 m3 m4
      go_wp2
      refine bodyPost_ret (ret_cell (load_mess HK11.out rfl) Try.results14 rfl rfl) rfl ?_
      rw [He0.out, HDs.out.1, HDs.out.2.1, HDs.out.2.2.1, HDs.out.2.2.2.1, HDs.out.2.2.2.2]
      have hby11 := BytesAt.own (show World.ownsRow _ wc.heap.size 5 1 (.slice a8 (n - hd) c8) (Wr.rb bs).length (bcells (Wr.rb bs)) by rw [Hrl.out]; exact HO11.out)
      exact ⟨a8, n - hd, c8, rfl, hby11, Hnn.out, Hcp.out, HB11.out⟩
    · have hne0 : ¬ (Wr.err (Wr.kd bs) (Wr.rs bs) (Wr.rr bs) (Wr.rc bs) (n - hd) : Int) = 0 := fun e => he0 (Hlate.out.trans (by omega))
      have Hx' := Lib.hid (Hx.out he0)
      have He := Lib.hid Hlate.out.symm
      have HB10 := Lib.hid hB10
      have HP10 := Lib.hid hP10
      have z10 := hB10.size
      clear hP10 hB10 hM10 hO10 he0 Hlate Hx Hl Hrl
      generalize hEe : Wr.err (Wr.kd bs) (Wr.rs bs) (Wr.rr bs) (Wr.rc bs) (n - hd) = E at *
      have hEd := Lib.hid He.out
      clear hEe He
      go_wp2_with (refine wpL_storeBlk (o := ⟨none, _, _, _, _, _⟩) rfl 24 (.tmp 2) (.tmp 71) rfl w.heap.size _ [.int .i64 0, .int .i64 0, .int .i64 0, .int .i64 0, .slice none 0 0] rfl rfl HP10.out size_mess rfl rfl ?_)
      intro w11 hk11 hg11 hz11
      have HK11 := Lib.hid hk11
      have HB11 := Lib.hid (below_row HB10.out hg11 z10 (Nat.le_refl _))
      clear hk11 hg11 hz11
      go_wp2
      exact bodyPost_ret (ret_cell (load_mess HK11.out rfl) Try.results14 rfl rfl) rfl (by rw [Hx'.out.1, Hx'.out.2.1, Hx'.out.2.2.1, Hx'.out.2.2.2.1, Hx'.out.2.2.2.2, ← hEd.out]; exact messPost_none HB11.out)
end Go.Proofs.Ytfgkodgdoplpbab
