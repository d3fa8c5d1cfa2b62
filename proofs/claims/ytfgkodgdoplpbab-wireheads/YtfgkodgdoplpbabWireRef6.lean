/- The contract of the reference's WireOf: what comes ahead of the fields. -/
import Derived.Test.YtfgkodgdoplpbabWireRef5
import Derived.Test.YtfgkodgdoplpbabSame2
namespace Go.Proofs.Ytfgkodgdoplpbab
open Go.RowKit

set_option maxRecDepth 10000 in
set_option maxHeartbeats 8000000 in
theorem ref_WireOf_early (a : Option Addr) (n c : Nat) (bs : List UInt8) (w : World) (h : BytesAt w w.heap.size a n bs) (hc : n ≤ c) (he : n < 4 ∨ ¬ Wr.Known (Wr.kd bs) ∨ (bs.drop 1).take 3 ≠ [0, 0, 0] ∨ n < Wr.head (Wr.kd bs)) :
    Calls Try.prog 14 #[.slice a n c] w (MessPost (Wr.decErr bs) (Wr.dk bs) (Wr.ds bs) (Wr.dr bs) (Wr.dc bs) (Wr.db bs) w) := by
  have hl := h.1
  by_cases h4 : n < 4
  · have hA : Below w.heap.size w (w.alloc (.cells #[.int .i64 0, .int .i64 0, .int .i64 0, .int .i64 0, .slice none 0 0] 24)) := (Below.refl _ _).alloc (Nat.le_refl _) _
    have hP := Blk.new w 24 [.int .i64 0, .int .i64 0, .int .i64 0, .int .i64 0, .slice none 0 0]
    have he : Wr.decErr bs = 8 := by unfold Wr.decErr; rw [if_pos (by omega)]
    have Hx := Lib.hid (Wr.dec_err bs (by rw [he]; decide))
    have He := Lib.hid he
    have HA := Lib.hid hA
    have HP := Lib.hid hP
    clear he hl h hP hA
    go_enter Try.func14, Try.ntmps14
    go_wp2
    exact bodyPost_ret (ret_cell (load_mess HP.out rfl) Try.results14 rfl rfl) rfl (by rw [He.out, Hx.out.1, Hx.out.2.1, Hx.out.2.2.1, Hx.out.2.2.2.1, Hx.out.2.2.2.2]; exact messPost_none (err := 8) HA.out)
  · obtain ⟨b, off, rfl, b0⟩ := bytes_lt h (k := 0) (by omega)
    rw [Nat.add_zero] at b0
    have hbl : b < w.heap.size := by obtain ⟨_, _, e, hlt, _⟩ := h.2 (by omega); cases e; exact hlt
    have hx := (bs.getD 0 0).toNat_lt
    have Hkd : Hid ((bs.getD 0 0).toNat = Wr.kd bs) := Lib.hid rfl
    rw [Hkd.out] at b0 hx
    obtain ⟨w1, hw1⟩ : ∃ w1, w1 = (w.alloc (.cells #[.int .i64 0, .int .i64 0, .int .i64 0, .int .i64 0, .slice none 0 0] 24)).alloc (.cells #[.int .i64 (Wr.kd bs : Int), .int .i64 0, .int .i64 0, .int .i64 0, .slice none 0 0] 24) := ⟨_, rfl⟩
    have hz1 : w1.heap.size = w.heap.size + 1 + 1 := by rw [hw1]; simp
    have hA1 : Below w.heap.size w w1 := by rw [hw1]; exact ((Below.refl _ _).alloc (Nat.le_refl _) _).alloc (by simp) _
    have hP1 : Blk w1 w.heap.size 24 [.int .i64 0, .int .i64 0, .int .i64 0, .int .i64 0, .slice none 0 0] := by
      rw [hw1]; exact (Blk.new w 24 [.int .i64 0, .int .i64 0, .int .i64 0, .int .i64 0, .slice none 0 0]).kept ((Below.refl _ _).alloc (Nat.le_refl _) _)
    have hM1 : Blk w1 (w.heap.size + 1) 24 [.int .i64 (Wr.kd bs : Int), .int .i64 0, .int .i64 0, .int .i64 0, .slice none 0 0] := by
      have := Blk.new (w.alloc (.cells #[.int .i64 0, .int .i64 0, .int .i64 0, .int .i64 0, .slice none 0 0] 24)) 24 [.int .i64 (Wr.kd bs : Int), .int .i64 0, .int .i64 0, .int .i64 0, .slice none 0 0]
      rw [show (w.alloc (.cells #[.int .i64 0, .int .i64 0, .int .i64 0, .int .i64 0, .slice none 0 0] 24)).heap.size = w.heap.size + 1 by simp] at this
      rw [hw1]; exact this
    obtain ⟨W1, W2, W3, r1, r2, r3, r4, hB3⟩ := head_map w1 (Wr.kd bs) hx
    have r0 := run_makeMap (P := Try.prog) 56 w1
    rw [hz1] at r0 r1 r2 r3 r4
    rw [hw1] at r0 r1
    have hP3 := hP1.kept hB3
    have hM3 := hM1.kept hB3
    have HB3 := Lib.hid (hA1.trans (hB3.mono hA1.size))
    have hby := h.below HB3.out
    have m0 := hM3.cell 0 rfl
    have HP3 := Lib.hid hP3
    have Hx := Lib.hid (Wr.dec_err bs)
    have HE := Lib.hid (fun e => Wr.early (bs := bs) (by rw [hl]; omega) e)
    have i0 : 0 < n := by omega
    have i4 : (4 : Int) ≤ (n : Int) := by omega
    have i4' : ¬ (n : Int) < 4 := by omega
    have inc : (n : Int) ≤ (c : Int) := by omega
    by_cases hk : Wr.Known (Wr.kd bs)
    · obtain ⟨hd1, hd0⟩ := Wr.hd_known hk
      rw [hd1] at r4 hd0
      have hcc : ¬ c - 1 = 0 := by omega
      have hc1 : ¬ c = 1 := by omega
      have h13 : BytesAt W3 w.heap.size (some ⟨b, off + 1, none⟩) 3 ((bs.drop 1).take 3) := (hby.part (m := 1) (by omega)).cut (m := 3) (by omega)
      have cv := conv_bytes (P := Try.prog) h13 22 5 9 (c - 1) Try.underlying22 Try.underlying5 Try.underlying9
      by_cases hz : (bs.drop 1).take 3 = [0, 0, 0]
      · rw [hz] at cv
        rw [show strOf [0, 0, 0] = (⟨#[0, 0, 0]⟩ : ByteArray) from rfl] at cv
        have hhd : n < Wr.head (Wr.kd bs) := by
          rcases he with he | he | he | he
          · exact absurd he h4
          · exact absurd hk he
          · exact absurd hz he
          · exact he
        have he : Wr.decErr bs = 8 := HE.out 8 (.inr (.inr ⟨hk, (Wr.zeros (by rw [hl]; omega)).1 hz, by rw [hl]; exact hhd, rfl⟩))
        have Hx' := Lib.hid (Hx.out (by rw [he]; decide))
        have He := Lib.hid he
        clear he hl h hA1 hP1 hM1 hB3 hP3 hM3 hby h13 hk hz hd1 hw1 hz1 Hx HE
        go_enter Try.func14, Try.ntmps14
        go_wp2_with (refine wpL_storeBlk (o := ⟨none, _, _, _, _, _⟩) rfl 24 (.tmp 2) (.tmp 33) rfl w.heap.size _ [.int .i64 0, .int .i64 0, .int .i64 0, .int .i64 0, .slice none 0 0] rfl rfl HP3.out size_mess rfl rfl ?_)
        intro w11 hk11 hg11 hz11
        have HK11 := Lib.hid hk11
        have HB11 := Lib.hid (below_row HB3.out hg11 HB3.out.size (Nat.le_refl _))
        clear hk11 hg11 hz11
        go_wp2
        exact bodyPost_ret (ret_cell (load_mess HK11.out rfl) Try.results14 rfl rfl) rfl (by rw [He.out, Hx'.out.1, Hx'.out.2.1, Hx'.out.2.2.1, Hx'.out.2.2.2.1, Hx'.out.2.2.2.2]; exact messPost_none (err := 8) HB11.out)
      · have he : Wr.decErr bs = 3 := HE.out 3 (.inr (.inl ⟨hk, Classical.not_not.1 (fun e => hz ((Wr.zeros (by rw [hl]; omega)).2 e)), rfl⟩))
        have Hx' := Lib.hid (Hx.out (by rw [he]; decide))
        have He := Lib.hid he
        have hq : ((strOf ((bs.drop 1).take 3)).toList == [0, 0, 0]) = false := by
          have h3 := strOf_beq ((bs.drop 1).take 3) [0, 0, 0]
          rw [show (strOf [0, 0, 0]).toList = [0, 0, 0] by decide +kernel] at h3
          rw [h3]
          exact decide_eq_false hz
        clear he hl h hA1 hP1 hM1 hB3 hP3 hM3 hby h13 hk hz hd1 hw1 hz1 Hx HE
        generalize strOf ((bs.drop 1).take 3) = X at *
        go_enter Try.func14, Try.ntmps14
        go_wp2_with (refine wpL_storeBlk (o := ⟨none, _, _, _, _, _⟩) rfl 24 (.tmp 2) (.tmp 28) rfl w.heap.size _ [.int .i64 0, .int .i64 0, .int .i64 0, .int .i64 0, .slice none 0 0] rfl rfl HP3.out size_mess rfl rfl ?_)
        intro w11 hk11 hg11 hz11
        have HK11 := Lib.hid hk11
        have HB11 := Lib.hid (below_row HB3.out hg11 HB3.out.size (Nat.le_refl _))
        clear hk11 hg11 hz11
        go_wp2
        exact bodyPost_ret (ret_cell (load_mess HK11.out rfl) Try.results14 rfl rfl) rfl (by rw [He.out, Hx'.out.1, Hx'.out.2.1, Hx'.out.2.2.1, Hx'.out.2.2.2.1, Hx'.out.2.2.2.2]; exact messPost_none (err := 3) HB11.out)
    · have he : Wr.decErr bs = 2 := HE.out 2 (.inl ⟨hk, rfl⟩)
      have Hx' := Lib.hid (Hx.out (by rw [he]; decide))
      have He := Lib.hid he
      rw [Wr.hd_unknown hk] at r4
      clear he hl h hA1 hP1 hM1 hB3 hP3 hM3 hby hk hw1 hz1 Hx HE
      go_enter Try.func14, Try.ntmps14
      go_wp2_with (refine wpL_storeBlk (o := ⟨none, _, _, _, _, _⟩) rfl 24 (.tmp 2) (.tmp 23) rfl w.heap.size _ [.int .i64 0, .int .i64 0, .int .i64 0, .int .i64 0, .slice none 0 0] rfl rfl HP3.out size_mess rfl rfl ?_)
      intro w11 hk11 hg11 hz11
      have HK11 := Lib.hid hk11
      have HB11 := Lib.hid (below_row HB3.out hg11 HB3.out.size (Nat.le_refl _))
      clear hk11 hg11 hz11
      go_wp2
      exact bodyPost_ret (ret_cell (load_mess HK11.out rfl) Try.results14 rfl rfl) rfl (by rw [He.out, Hx'.out.1, Hx'.out.2.1, Hx'.out.2.2.1, Hx'.out.2.2.2.1, Hx'.out.2.2.2.2]; exact messPost_none (err := 2) HB11.out)

theorem ref_WireOf (a : Option Addr) (n c : Nat) (bs : List UInt8) (w : World) (h : BytesAt w w.heap.size a n bs) (hc : n ≤ c) (hn : n ≤ 140737488355328) :
    Calls Try.prog 14 #[.slice a n c] w (MessPost (Wr.decErr bs) (Wr.dk bs) (Wr.ds bs) (Wr.dr bs) (Wr.dc bs) (Wr.db bs) w) := by
  by_cases he : n < 4 ∨ ¬ Wr.Known (Wr.kd bs) ∨ (bs.drop 1).take 3 ≠ [0, 0, 0] ∨ n < Wr.head (Wr.kd bs)
  · exact ref_WireOf_early a n c bs w h hc he
  · have h4 : ¬ n < 4 := fun e => he (.inl e)
    have hk := Classical.not_not.1 (fun e => he (.inr (.inl e)))
    have hz := Classical.not_not.1 (fun e => he (.inr (.inr (.inl e))))
    have hh : ¬ n < Wr.head (Wr.kd bs) := fun e => he (.inr (.inr (.inr e)))
    obtain ⟨b, off, rfl, _⟩ := bytes_lt h (k := 0) (by omega)
    exact ref_WireOf_late b off n c bs w h hc hn (by omega) hk hz (by omega)
theorem wire_Decode (a : Option Addr) (n c : Nat) (bs : List UInt8) (w : World) (h : BytesAt w w.heap.size a n bs) (hc : n ≤ c) :
    Calls Try.prog 13 #[.slice a n c] w (MessPost (Wr.decErr bs) (Wr.dk bs) (Wr.ds bs) (Wr.dr bs) (Wr.dc bs) (Wr.db bs) w) := by
  by_cases he : n < 4 ∨ ¬ Wr.Known (Wr.kd bs)
  · exact wire_Decode_early a n c bs w h he
  · have h4 : ¬ n < 4 := fun e => he (.inl e)
    have hk := Classical.not_not.1 (fun e => he (.inr e))
    obtain ⟨b, off, rfl, _⟩ := bytes_lt h (k := 0) (by omega)
    exact wire_Decode_known b off n c bs w h hc (by omega) hk
end Go.Proofs.Ytfgkodgdoplpbab
