/- What the calls of chapter 12 hand back. -/
import Derived.Test.YthlagpmacnijfaaDoorBatchTabs
import Derived.Test.YthlagpmacnijfaaDoorBatchBits
import Derived.Test.YthlagpmacnijfaaDoorBatchPlain3
import Derived.Test.YthlagpmacnijfaaDoorSk01
import Derived.Test.YthlagpmacnijfaaDoorStructStore
import Derived.Test.YthlagpmacnijfaaDoorBatchCode5
import Derived.Test.YthlagpmacnijfaaDoorLineMem
import Derived.Test.YthlagpmacnijfaaDoorStructMem
import Derived.Shelf.Abstract
import Derived.Test.YthlagpmacnijfaaDoorLibText
import Derived.Test.YthlagpmacnijfaaDoorMem2
import Derived.Test.YthlagpmacnijfaaDoorLineBlk
import Derived.Test.YthlagpmacnijfaaDoorLinePlain2
import Derived.Laws.MakeOwn
import Derived.Laws.OwnMore
import Derived.Test.YthlagpmacnijfaaDoorBatchSetBlk
import Derived.Laws.CopyRow
import Derived.Test.YthlagpmacnijfaaDoorBatchMem
import Derived.Test.YthlagpmacnijfaaDoorBatchPlain4
namespace Go.Proofs.YthlagpmacnijfaaDoor
open Go.RowKit

def Bt.shapeC : List Value := (List.range 11).flatMap fun k => [.string (Bt.nameOf k), .int .i64 (Bt.fld (k : Int) : Int)]
theorem Bt.shapeC_get (k : Nat) (h : k < 11) : Bt.shapeC[k * 2]? = some (.string (Bt.nameOf k)) ∧ Bt.shapeC[k * 2 + 1]? = some (.int .i64 (Bt.fld (k : Int) : Int)) := by
  have : k = 0 ∨ k = 1 ∨ k = 2 ∨ k = 3 ∨ k = 4 ∨ k = 5 ∨ k = 6 ∨ k = 7 ∨ k = 8 ∨ k = 9 ∨ k = 10 := by omega
  rcases this with rfl | rfl | rfl | rfl | rfl | rfl | rfl | rfl | rfl | rfl | rfl <;> exact ⟨rfl, rfl⟩
theorem Bt.shapeC_len : Bt.shapeC.length = 22 := rfl
theorem Bt.shapeC_part (k : Nat) (h : k < 11) : (List.take 2 (List.drop (k * 2) Bt.shapeC)).toArray = #[.string (Bt.nameOf k), .int .i64 (Bt.fld (k : Int) : Int)] := by
  have : k = 0 ∨ k = 1 ∨ k = 2 ∨ k = 3 ∨ k = 4 ∨ k = 5 ∨ k = 6 ∨ k = 7 ∨ k = 8 ∨ k = 9 ∨ k = 10 := by omega
  rcases this with rfl | rfl | rfl | rfl | rfl | rfl | rfl | rfl | rfl | rfl | rfl <;> rfl
theorem load_shapes {w : World} (h : ShapeTab w) : (loadVar 55 ⟨0, 0, none⟩).run Tryd.prog w = .ok (.agg Bt.shapeC.toArray) w := by
  have hL : (loadCells ⟨0, 0, none⟩ Bt.shapeC.length).run Tryd.prog w = .ok Bt.shapeC.toArray w :=
    run_loadCells_list (P := Tryd.prog) w ⟨0, 0, none⟩ Bt.shapeC (fun j v hv => by
      have hj : j < 22 := by have := (List.getElem?_eq_some_iff.1 hv).1; rwa [Bt.shapeC_len] at this
      rw [Addr.add_lit, Nat.zero_add]
      obtain ⟨g1, g2⟩ := Bt.shapeC_get (j / 2) (by omega)
      obtain ⟨c1, c2⟩ := h.2 (j / 2) (by omega)
      rcases Nat.mod_two_eq_zero_or_one j with hm | hm
      · have e : j = j / 2 * 2 := by omega
        rw [← e] at g1 c1
        rw [c1, ← g1, hv]
      · have e : j = j / 2 * 2 + 1 := by omega
        rw [← e] at g2 c2
        rw [c2, ← g2, hv])
  rw [Bt.shapeC_len] at hL
  obtain ⟨i, hq, hs⟩ : ∃ i, Tryd.prog.info? 55 = some i ∧ i.size = 22 := by
    cases hq : Tryd.prog.info? 55 with
    | none =>
      have := show (Tryd.prog.info? 55).map (·.size) = some 22 by kernel_rfl
      simp [hq] at this
    | some i =>
      have := show (Tryd.prog.info? 55).map (·.size) = some 22 by kernel_rfl
      exact ⟨i, rfl, by simpa [hq] using this⟩
  have hagg : (isAgg 55).run Tryd.prog w = .ok true w := by simp [isAgg, run_underlying Tryd.underlying55]
  simp only [loadVar, Sem.run_bind, hagg, Result.andThen_ok, if_true]
  simp [sizeOf, typeInfo, hq, hs, hL]
theorem index_shapes (k : Nat) (w : World) (hk : k < 11) : (Instr.index 55 (.agg Bt.shapeC.toArray) (.int .i64 (k : Int))).run Tryd.prog w = .ok (.agg #[.string (Bt.nameOf k), .int .i64 (Bt.fld (k : Int) : Int)]) w := by
  obtain ⟨i0, hi, hz0, hz1, hz2⟩ := info_parts (P := Tryd.prog) (e := 54) (z := .agg #[.string ByteArray.empty, .int .i64 0]) (size := 2) (bytes := 24) (by kernel_rfl)
  have hx := Bt.shapeC_part k hk
  simp [Instr.index, asIntOf, run_underlying Tryd.underlying55, run_underlying Tryd.underlying54, part, isAgg, sizeOf, typeInfo, hi, hz1]
  rw [if_pos hk, hx]
/-- A load whose run is known. -/
theorem wpL_load_at {w : World} {ops : Array Oper} {rest : List Oper} {o : Oper} {a : Act} {Q : Exit → Act → World → Prop} (hgd : o.guard = none) (t : TypeId) (x : Operand) (ho : o.op = .load t x) (ad : Addr) (v : Value) (hx : a.eval x = .pointer (some ad)) (hr : (loadVar t ad).run Tryd.prog w = .ok v w)
    (h : wpList Tryd.prog ops Q rest (a.put o.dst v) w) : wpList Tryd.prog ops Q (o :: rest) a w := by
  refine wpList_plain hgd fun K hK => ?_
  unfold Oper.wp execOp
  simp only [ho, hx, Instr.loadAt, Instr.sureAddr, Sem.run_bind, Sem.run_pure, Result.andThen_ok, hr]
  exact hK _ _ h
set_option maxRecDepth 20000 in
set_option maxHeartbeats 4000000 in
theorem batch_kindOf (K : ByteArray) (w : World) (hT : ShapeTab w) :
    Calls Tryd.prog 41 #[.string K] w fun e w' => e = .returned (.tuple #[.int .i64 (Bt.kindOf K : Int), .bool (decide (Bt.kindOf K ≠ 0))]) ∧ Below w.heap.size w w' := by
  have Hload := Lib.hid (load_shapes hT)
  clear hT
  obtain ⟨S, hS⟩ : ∃ S : Value, S = .agg Bt.shapeC.toArray := ⟨_, rfl⟩
  rw [← hS] at Hload
  have HS := Lib.hid hS
  clear hS
  go_enter Tryd.func41, Tryd.ntmps41
  go_wp2_with (with_reducible refine wpL_load_at (o := ⟨some 6, _, _, _, _, _⟩) rfl 55 _ rfl _ _ rfl Hload.out ?_)
  go_loopw [7] (fun i wr => ∃ k : Nat, k ≤ 11 ∧ i = .int .i64 (k : Int) ∧ Hid (∀ j, 1 ≤ j → j < k → Bt.nameOf j ≠ K) ∧ Hid (Below w.heap.size w wr)) (fun i _ => 11 - (intOf i).toNat)
  case atStart => exact ⟨0, by decide, rfl, Lib.hid (fun j h1 h2 => by omega), Lib.hid (Below.refl _ _)⟩
  case round =>
    obtain ⟨k, hk, rfl, Ha, HBr⟩ := hrel
    obtain ⟨wo, hwo⟩ : ∃ wo, wo = wr := ⟨_, rfl⟩
    subst hwo
    by_cases hlt : k < 11
    · have i11 : (k : Int) < 11 := by omega
      obtain ⟨X, hX⟩ : ∃ X, X = Bt.nameOf k := ⟨_, rfl⟩
      obtain ⟨F, hF⟩ : ∃ F, F = (Bt.fld (k : Int) : Int) := ⟨_, rfl⟩
      have HX := Lib.hid hX
      have HF := Lib.hid hF
      have HBn := Lib.hid (HBr.out.alloc HBr.out.size (.cells #[.string X, .int .i64 F] 54))
      have hI : ∀ W, (Instr.index 55 S (.int .i64 (k : Int))).run Tryd.prog W = .ok (.agg #[.string X, .int .i64 F]) W := fun W => by rw [HS.out, hX, hF]; exact index_shapes k W hlt
      clear hX hF
      by_cases h0 : k = 0
      · have q0 : decide ((0 : Int) < (k : Int)) = false := decide_eq_false (by omega)
        have Hn := Lib.hid (show ∀ j, 1 ≤ j → j < k + 1 → Bt.nameOf j ≠ K from fun j h1 h2 => by omega)
        have q1 : ¬ 0 < k := by omega
        rcases text_eq X K with hXK | q2
        · subst hXK
          clear h0
          go_wp2
          go_roundw
          case rel => exact ⟨k + 1, by omega, by go_num, Hn, HBn⟩
          case measure => simp [intOf]; omega
        · clear h0
          go_wp2
          go_roundw
          case rel => exact ⟨k + 1, by omega, by go_num, Hn, HBn⟩
          case measure => simp [intOf]; omega
      · have q0 : decide ((0 : Int) < (k : Int)) = true := decide_eq_true (by omega)
        have q1 : 0 < k := by omega
        rcases text_eq X K with hXK | q2
        · have HK := Lib.hid (Bt.kind_some q1 (by omega) (HX.out.symm.trans hXK))
          subst hXK
          clear h0
          go_wp2
          go_ret2
          exact ⟨by rw [HK.out, decide_eq_true (by omega : k ≠ 0)]; rfl, HBn.out⟩
        · have Hn := Lib.hid (show ∀ j, 1 ≤ j → j < k + 1 → Bt.nameOf j ≠ K from fun j h1 h2 => by
            by_cases hj : j < k
            · exact Ha.out j h1 hj
            · obtain rfl : j = k := by omega
              rw [← HX.out]
              intro e
              subst e
              simp at q2)
          clear h0
          go_wp2
          go_roundw
          case rel => exact ⟨k + 1, by omega, by go_num, Hn, HBn⟩
          case measure => simp [intOf]; omega
    · obtain rfl : k = 11 := by omega
      have HK := Lib.hid (Bt.kind_none (key := K) fun j h1 h2 => Ha.out j h1 (by omega))
      rw [show ((11 : Nat) : Int) = (11 : Int) from rfl]
      go_wp2
      go_ret2
      exact ⟨by rw [HK.out]; rfl, HBr.out⟩
end Go.Proofs.YthlagpmacnijfaaDoor

namespace Go.Proofs.YthlagpmacnijfaaDoor
open Go.RowKit

set_option maxRecDepth 20000 in
set_option maxHeartbeats 8000000 in
theorem batch_Read (l : Ln.L) (w : World) (hs : l.v.size ≤ 1048576) (hT : BTabs w) :
    Calls Tryd.prog 16 #[lineV l] w fun e w' => e = .returned (.tuple #[setV (Bt.ofLine l).1, .int .i64 ((Bt.ofLine l).2 : Int)]) ∧ Below w.heap.size w w' := by
  rw [Bt.of_guess l hs]
  obtain ⟨K, V⟩ := l
  simp only at hs ⊢
  have hS := set_beside w (Ln.lineC ⟨K, V⟩) zeroC 30 26
  obtain ⟨w1, hw1⟩ : ∃ w1, w1 = (w.alloc (.cells (Ln.lineC ⟨K, V⟩).toArray 30)).alloc (.cells zeroC.toArray 26) := ⟨_, rfl⟩
  rw [← hw1] at hS
  obtain ⟨hA, hG, hR⟩ := hS
  have HA := Lib.hid hA
  have HG := Lib.hid hG
  have HR := Lib.hid hR
  have hgl := hG.lt
  have hrl := hR.lt
  have HK := Lib.hid (batch_kindOf K w1 (hT.2.below hA))
  have HT := Lib.hid hT
  have hw1' : w1 = (w.alloc (.cells #[.string K, .string V] 30)).alloc (.cells #[.int .i64 0, .string ⟨#[]⟩, .int .i64 0, .int .u32 0, .int .i64 0] 26) := hw1
  have g0 := hG.cell 0 rfl
  have g1 := hG.cell 1 rfl
  unfold lineV
  rcases Bt.kindOf_cases K with hk | ⟨hk1, hk2, -⟩
  · rw [hk] at HK ⊢
    rw [decide_eq_false (by omega : ¬ (0 : Nat) ≠ 0)] at HK
    rw [if_pos rfl]
    clear hk hT hA hG hR hw1 hs
    unfold setV
    go_enter Tryd.func16, Tryd.ntmps16
    go_upto_region 1 with fail
    rw [← hw1']
    clear hw1'
    go_wp2_with fail
    refine HK.out.mono ?_
    rintro e w2 ⟨rfl, hb2⟩
    have HR2 := Lib.hid (HR.out.kept hb2)
    have HB2 := Lib.hid (HA.out.trans (hb2.mono HA.out.size))
    clear hb2 g0 g1
    go_wp2_with (refine wpL_storeBlk (o := ⟨none, _, _, _, _, _⟩) rfl 26 (.tmp 2) (.tmp 17) rfl (w.heap.size + 1) zeroC [.int .i64 0, .string ⟨#[]⟩, .int .i64 0, .int .u32 0, .int .i64 0] rfl rfl HR2.out size_set rfl rfl ?_)
    intro w9 hR9 hg9 hz9
    have hB9 := below_row HB2.out hg9 (by have := HB2.out.size; omega) (Nat.le_succ _)
    go_wp2
    exact bodyPost_ret (ret_cell (load_set hR9 rfl) Tryd.results16 rfl rfl) rfl ⟨rfl, hB9⟩
  · obtain ⟨k, hkk⟩ : ∃ k, k = Bt.kindOf K := ⟨_, rfl⟩
    rw [← hkk] at hk1 hk2 HK ⊢
    rw [if_neg (by omega)]
    rw [decide_eq_true (by omega : k ≠ 0)] at HK
    have HGu := Lib.hid (fun W hW => batch_guess (k : Int) V W (by omega) (by omega) hs (HT.out.below hW))
    have hgo := Bt.guess_ok (k : Int) V hs
    generalize Bt.guess (k : Int) V = s at *
    have HL := Lib.hid (fun W hW => batch_Line s W hgo.1 hgo.2.1 hgo.2.2.1 hgo.2.2.2 (HT.out.below hW))
    clear hkk hT hA hG hR hw1 hs hgo
    obtain ⟨L, hLL⟩ : ∃ L, L = Bt.line s := ⟨_, rfl⟩
    rw [← hLL] at HL ⊢
    obtain ⟨X, Y⟩ := L
    unfold lineV at HL
    by_cases he : Bt.err s = 0
    · rcases line_parts X K Y V with ⟨rfl, rfl⟩ | z0 | ⟨rfl, z0⟩
      · rw [if_pos ⟨he, rfl⟩]
        rw [he] at HL
        clear he hLL
        obtain ⟨sk, st, sn, sa, sb⟩ := s
        unfold setV at HGu HL ⊢
        go_enter Tryd.func16, Tryd.ntmps16
        go_upto_region 1 with fail
        rw [← hw1']
        clear hw1'
        go_wp2_with fail
        refine HK.out.mono ?_
        rintro e w2 ⟨rfl, hb2⟩
        have hG2 := HG.out.kept hb2
        have HG2 := Lib.hid hG2
        have HR2 := Lib.hid (HR.out.kept hb2)
        have HB2 := Lib.hid (HA.out.trans (hb2.mono HA.out.size))
        have k1 := hG2.cell 1 rfl
        clear hb2 g0 g1 hG2
        go_wp2_with fail
        refine (HGu.out w2 HB2.out).mono ?_
        rintro e w3 ⟨rfl, hb3⟩
        obtain ⟨w4, hw4⟩ : ∃ w4, w4 = w3.alloc (.cells #[.int .i64 sk, .string st, .int .i64 sn, .int .u32 (sa : Int), .int .i64 sb] 26) := ⟨_, rfl⟩
        have hA4 : Below w3.heap.size w3 w4 := by rw [hw4]; exact (Below.refl _ _).alloc (Nat.le_refl _) _
        have HS4 := Lib.hid (show Blk w4 w3.heap.size 26 [.int .i64 sk, .string st, .int .i64 sn, .int .u32 (sa : Int), .int .i64 sb] by rw [hw4]; exact Blk.new _ _ _)
        have hB24 := hb3.trans (hA4.mono hb3.size)
        have HG4 := Lib.hid (HG2.out.kept hB24)
        have HR4 := Lib.hid (HR2.out.kept hB24)
        have HB4 := Lib.hid (HB2.out.trans (hB24.mono HB2.out.size))
        have hg3 : w.heap.size + 1 < w3.heap.size := Nat.lt_of_lt_of_le HR2.out.lt hb3.size
        clear hA4 hB24 hb3 k1
        go_upto_region 5 with fail
        rw [← hw4]
        clear hw4
        obtain ⟨⟨s0, s1, s2, s3, s4⟩, -⟩ := HS4.out.facts5
        go_wp2_with fail
        refine (HL.out w4 HB4.out).mono ?_
        rintro e w5 ⟨rfl, hb5⟩
        obtain ⟨w6, hw6⟩ : ∃ w6, w6 = w5.alloc (.cells #[.string X, .string Y] 30) := ⟨_, rfl⟩
        have hA6 : Below w5.heap.size w5 w6 := by rw [hw6]; exact (Below.refl _ _).alloc (Nat.le_refl _) _
        have hM := show Blk w6 w5.heap.size 30 [.string X, .string Y] by rw [hw6]; exact Blk.new _ _ _
        have hB46 := hb5.trans (hA6.mono hb5.size)
        have hG6 := HG4.out.kept hB46
        have HR6 := Lib.hid (HR4.out.kept hB46)
        have hS6 := HS4.out.kept hB46
        have HB6 := Lib.hid (HB4.out.trans (hB46.mono HB4.out.size))
        obtain ⟨⟨s0, s1, s2, s3, s4⟩, -⟩ := hS6.facts5
        have k0 := hG6.cell 0 rfl
        have k1 := hG6.cell 1 rfl
        have m0 := hM.cell 0 rfl
        have m1 := hM.cell 1 rfl
        clear hA6 hB46 hb5 hM hG6 hS6
        go_upto_region 6 with fail
        rw [← hw6]
        clear hw6
        go_wp2_with (refine wpL_storeBlk (o := ⟨none, _, _, _, _, _⟩) rfl 26 (.tmp 2) (.tmp 35) rfl (w.heap.size + 1) zeroC [.int .i64 sk, .string st, .int .i64 sn, .int .u32 (sa : Int), .int .i64 sb] rfl rfl HR6.out size_set rfl rfl ?_)
        intro w9 hR9 hg9 hz9
        have hB9 := below_row HB6.out hg9 (by have := HB6.out.size; omega) (Nat.le_succ _)
        go_wp2
        exact bodyPost_ret (ret_cell (load_set hR9 rfl) Tryd.results16 rfl rfl) rfl ⟨rfl, hB9⟩
      · rw [if_neg (fun h => by have := h.2; injection this with e1 e2; subst e1; simp at z0)]
        rw [he] at HL
        clear he hLL
        obtain ⟨sk, st, sn, sa, sb⟩ := s
        unfold setV at HGu HL ⊢
        go_enter Tryd.func16, Tryd.ntmps16
        go_upto_region 1 with fail
        rw [← hw1']
        clear hw1'
        go_wp2_with fail
        refine HK.out.mono ?_
        rintro e w2 ⟨rfl, hb2⟩
        have hG2 := HG.out.kept hb2
        have HG2 := Lib.hid hG2
        have HR2 := Lib.hid (HR.out.kept hb2)
        have HB2 := Lib.hid (HA.out.trans (hb2.mono HA.out.size))
        have k1 := hG2.cell 1 rfl
        clear hb2 g0 g1 hG2
        go_wp2_with fail
        refine (HGu.out w2 HB2.out).mono ?_
        rintro e w3 ⟨rfl, hb3⟩
        obtain ⟨w4, hw4⟩ : ∃ w4, w4 = w3.alloc (.cells #[.int .i64 sk, .string st, .int .i64 sn, .int .u32 (sa : Int), .int .i64 sb] 26) := ⟨_, rfl⟩
        have hA4 : Below w3.heap.size w3 w4 := by rw [hw4]; exact (Below.refl _ _).alloc (Nat.le_refl _) _
        have HS4 := Lib.hid (show Blk w4 w3.heap.size 26 [.int .i64 sk, .string st, .int .i64 sn, .int .u32 (sa : Int), .int .i64 sb] by rw [hw4]; exact Blk.new _ _ _)
        have hB24 := hb3.trans (hA4.mono hb3.size)
        have HG4 := Lib.hid (HG2.out.kept hB24)
        have HR4 := Lib.hid (HR2.out.kept hB24)
        have HB4 := Lib.hid (HB2.out.trans (hB24.mono HB2.out.size))
        have hg3 : w.heap.size + 1 < w3.heap.size := Nat.lt_of_lt_of_le HR2.out.lt hb3.size
        clear hA4 hB24 hb3 k1
        go_upto_region 5 with fail
        rw [← hw4]
        clear hw4
        obtain ⟨⟨s0, s1, s2, s3, s4⟩, -⟩ := HS4.out.facts5
        go_wp2_with fail
        refine (HL.out w4 HB4.out).mono ?_
        rintro e w5 ⟨rfl, hb5⟩
        obtain ⟨w6, hw6⟩ : ∃ w6, w6 = w5.alloc (.cells #[.string X, .string Y] 30) := ⟨_, rfl⟩
        have hA6 : Below w5.heap.size w5 w6 := by rw [hw6]; exact (Below.refl _ _).alloc (Nat.le_refl _) _
        have hM := show Blk w6 w5.heap.size 30 [.string X, .string Y] by rw [hw6]; exact Blk.new _ _ _
        have hB46 := hb5.trans (hA6.mono hb5.size)
        have hG6 := HG4.out.kept hB46
        have HR6 := Lib.hid (HR4.out.kept hB46)
        have hS6 := HS4.out.kept hB46
        have HB6 := Lib.hid (HB4.out.trans (hB46.mono HB4.out.size))
        obtain ⟨⟨s0, s1, s2, s3, s4⟩, -⟩ := hS6.facts5
        have k0 := hG6.cell 0 rfl
        have k1 := hG6.cell 1 rfl
        have m0 := hM.cell 0 rfl
        have m1 := hM.cell 1 rfl
        clear hA6 hB46 hb5 hM hG6 hS6
        go_upto_region 6 with fail
        rw [← hw6]
        clear hw6
        go_wp2_with (refine wpL_storeBlk (o := ⟨none, _, _, _, _, _⟩) rfl 26 (.tmp 2) (.tmp 34) rfl (w.heap.size + 1) zeroC [.int .i64 0, .string ⟨#[]⟩, .int .i64 0, .int .u32 0, .int .i64 0] rfl rfl HR6.out size_set rfl rfl ?_)
        intro w9 hR9 hg9 hz9
        have hB9 := below_row HB6.out hg9 (by have := HB6.out.size; omega) (Nat.le_succ _)
        go_wp2
        exact bodyPost_ret (ret_cell (load_set hR9 rfl) Tryd.results16 rfl rfl) rfl ⟨rfl, hB9⟩
      · rw [if_neg (fun h => by have := h.2; injection this with e1 e2; subst e2; simp at z0)]
        rw [he] at HL
        clear he hLL
        obtain ⟨sk, st, sn, sa, sb⟩ := s
        unfold setV at HGu HL ⊢
        go_enter Tryd.func16, Tryd.ntmps16
        go_upto_region 1 with fail
        rw [← hw1']
        clear hw1'
        go_wp2_with fail
        refine HK.out.mono ?_
        rintro e w2 ⟨rfl, hb2⟩
        have hG2 := HG.out.kept hb2
        have HG2 := Lib.hid hG2
        have HR2 := Lib.hid (HR.out.kept hb2)
        have HB2 := Lib.hid (HA.out.trans (hb2.mono HA.out.size))
        have k1 := hG2.cell 1 rfl
        clear hb2 g0 g1 hG2
        go_wp2_with fail
        refine (HGu.out w2 HB2.out).mono ?_
        rintro e w3 ⟨rfl, hb3⟩
        obtain ⟨w4, hw4⟩ : ∃ w4, w4 = w3.alloc (.cells #[.int .i64 sk, .string st, .int .i64 sn, .int .u32 (sa : Int), .int .i64 sb] 26) := ⟨_, rfl⟩
        have hA4 : Below w3.heap.size w3 w4 := by rw [hw4]; exact (Below.refl _ _).alloc (Nat.le_refl _) _
        have HS4 := Lib.hid (show Blk w4 w3.heap.size 26 [.int .i64 sk, .string st, .int .i64 sn, .int .u32 (sa : Int), .int .i64 sb] by rw [hw4]; exact Blk.new _ _ _)
        have hB24 := hb3.trans (hA4.mono hb3.size)
        have HG4 := Lib.hid (HG2.out.kept hB24)
        have HR4 := Lib.hid (HR2.out.kept hB24)
        have HB4 := Lib.hid (HB2.out.trans (hB24.mono HB2.out.size))
        have hg3 : w.heap.size + 1 < w3.heap.size := Nat.lt_of_lt_of_le HR2.out.lt hb3.size
        clear hA4 hB24 hb3 k1
        go_upto_region 5 with fail
        rw [← hw4]
        clear hw4
        obtain ⟨⟨s0, s1, s2, s3, s4⟩, -⟩ := HS4.out.facts5
        go_wp2_with fail
        refine (HL.out w4 HB4.out).mono ?_
        rintro e w5 ⟨rfl, hb5⟩
        obtain ⟨w6, hw6⟩ : ∃ w6, w6 = w5.alloc (.cells #[.string X, .string Y] 30) := ⟨_, rfl⟩
        have hA6 : Below w5.heap.size w5 w6 := by rw [hw6]; exact (Below.refl _ _).alloc (Nat.le_refl _) _
        have hM := show Blk w6 w5.heap.size 30 [.string X, .string Y] by rw [hw6]; exact Blk.new _ _ _
        have hB46 := hb5.trans (hA6.mono hb5.size)
        have hG6 := HG4.out.kept hB46
        have HR6 := Lib.hid (HR4.out.kept hB46)
        have hS6 := HS4.out.kept hB46
        have HB6 := Lib.hid (HB4.out.trans (hB46.mono HB4.out.size))
        obtain ⟨⟨s0, s1, s2, s3, s4⟩, -⟩ := hS6.facts5
        have k0 := hG6.cell 0 rfl
        have k1 := hG6.cell 1 rfl
        have m0 := hM.cell 0 rfl
        have m1 := hM.cell 1 rfl
        clear hA6 hB46 hb5 hM hG6 hS6
        go_upto_region 6 with fail
        rw [← hw6]
        clear hw6
        go_wp2_with (refine wpL_storeBlk (o := ⟨none, _, _, _, _, _⟩) rfl 26 (.tmp 2) (.tmp 34) rfl (w.heap.size + 1) zeroC [.int .i64 0, .string ⟨#[]⟩, .int .i64 0, .int .u32 0, .int .i64 0] rfl rfl HR6.out size_set rfl rfl ?_)
        intro w9 hR9 hg9 hz9
        have hB9 := below_row HB6.out hg9 (by have := HB6.out.size; omega) (Nat.le_succ _)
        go_wp2
        exact bodyPost_ret (ret_cell (load_set hR9 rfl) Tryd.results16 rfl rfl) rfl ⟨rfl, hB9⟩
    · rw [if_neg (fun h => he h.1)]
      have hn : ((Bt.err s : Int) != 0) = true := by simpa using he
      clear he hLL
      generalize Bt.err s = r at *
      obtain ⟨sk, st, sn, sa, sb⟩ := s
      unfold setV at HGu HL ⊢
      go_enter Tryd.func16, Tryd.ntmps16
      go_upto_region 1 with fail
      rw [← hw1']
      clear hw1'
      go_wp2_with fail
      refine HK.out.mono ?_
      rintro e w2 ⟨rfl, hb2⟩
      have hG2 := HG.out.kept hb2
      have HG2 := Lib.hid hG2
      have HR2 := Lib.hid (HR.out.kept hb2)
      have HB2 := Lib.hid (HA.out.trans (hb2.mono HA.out.size))
      have k1 := hG2.cell 1 rfl
      clear hb2 g0 g1 hG2
      go_wp2_with fail
      refine (HGu.out w2 HB2.out).mono ?_
      rintro e w3 ⟨rfl, hb3⟩
      obtain ⟨w4, hw4⟩ : ∃ w4, w4 = w3.alloc (.cells #[.int .i64 sk, .string st, .int .i64 sn, .int .u32 (sa : Int), .int .i64 sb] 26) := ⟨_, rfl⟩
      have hA4 : Below w3.heap.size w3 w4 := by rw [hw4]; exact (Below.refl _ _).alloc (Nat.le_refl _) _
      have HS4 := Lib.hid (show Blk w4 w3.heap.size 26 [.int .i64 sk, .string st, .int .i64 sn, .int .u32 (sa : Int), .int .i64 sb] by rw [hw4]; exact Blk.new _ _ _)
      have hB24 := hb3.trans (hA4.mono hb3.size)
      have HG4 := Lib.hid (HG2.out.kept hB24)
      have HR4 := Lib.hid (HR2.out.kept hB24)
      have HB4 := Lib.hid (HB2.out.trans (hB24.mono HB2.out.size))
      have hg3 : w.heap.size + 1 < w3.heap.size := Nat.lt_of_lt_of_le HR2.out.lt hb3.size
      clear hA4 hB24 hb3 k1
      go_upto_region 5 with fail
      rw [← hw4]
      clear hw4
      obtain ⟨⟨s0, s1, s2, s3, s4⟩, -⟩ := HS4.out.facts5
      go_wp2_with fail
      refine (HL.out w4 HB4.out).mono ?_
      rintro e w5 ⟨rfl, hb5⟩
      obtain ⟨w6, hw6⟩ : ∃ w6, w6 = w5.alloc (.cells #[.string X, .string Y] 30) := ⟨_, rfl⟩
      have hA6 : Below w5.heap.size w5 w6 := by rw [hw6]; exact (Below.refl _ _).alloc (Nat.le_refl _) _
      have hM := show Blk w6 w5.heap.size 30 [.string X, .string Y] by rw [hw6]; exact Blk.new _ _ _
      have hB46 := hb5.trans (hA6.mono hb5.size)
      have hG6 := HG4.out.kept hB46
      have HR6 := Lib.hid (HR4.out.kept hB46)
      have hS6 := HS4.out.kept hB46
      have HB6 := Lib.hid (HB4.out.trans (hB46.mono HB4.out.size))
      obtain ⟨⟨s0, s1, s2, s3, s4⟩, -⟩ := hS6.facts5
      have k0 := hG6.cell 0 rfl
      have k1 := hG6.cell 1 rfl
      have m0 := hM.cell 0 rfl
      have m1 := hM.cell 1 rfl
      clear hA6 hB46 hb5 hM hG6 hS6
      go_upto_region 6 with fail
      rw [← hw6]
      clear hw6
      go_wp2_with (refine wpL_storeBlk (o := ⟨none, _, _, _, _, _⟩) rfl 26 (.tmp 2) (.tmp 34) rfl (w.heap.size + 1) zeroC [.int .i64 0, .string ⟨#[]⟩, .int .i64 0, .int .u32 0, .int .i64 0] rfl rfl HR6.out size_set rfl rfl ?_)
      intro w9 hR9 hg9 hz9
      have hB9 := below_row HB6.out hg9 (by have := HB6.out.size; omega) (Nat.le_succ _)
      go_wp2
      exact bodyPost_ret (ret_cell (load_set hR9 rfl) Tryd.results16 rfl rfl) rfl ⟨rfl, hB9⟩
end Go.Proofs.YthlagpmacnijfaaDoor

namespace Go.Proofs.YthlagpmacnijfaaDoor
open Go.RowKit

/-- The function F tells of a byte what P tells. -/
def MayAt (F : Nat) (P : UInt8 → Bool) : Prop := (∀ (args : Array Value) (W : World), (callFunc F args).run Tryd.prog W = .ok (.enter F args) W) ∧ ∀ (c : UInt8) (W : World), Calls Tryd.prog F #[.int .u8 (c.toNat : Int)] W fun e W' => e = .returned (.bool (P c)) ∧ W' = W

set_option maxHeartbeats 400000 in
theorem line_inKey (c : UInt8) (w : World) : Calls Tryd.prog 83 #[.int .u8 (c.toNat : Int)] w fun e w' => e = .returned (.bool (Ln.inKey c)) ∧ w' = w := by
  have hc := c.toNat_lt
  by_cases h1 : 97 ≤ c.toNat
  · have d1 : decide ((97 : Int) ≤ (c.toNat : Int)) = true := decide_eq_true (by omega)
    by_cases h2 : c.toNat ≤ 122
    · have d2 : decide ((c.toNat : Int) ≤ 122) = true := decide_eq_true (by omega)
      have He := Lib.hid (show Ln.inKey c = true by unfold Ln.inKey; rw [decide_eq_true ⟨h1, h2⟩]; rfl)
      clear h1 h2
      go_enter Tryd.func83, Tryd.ntmps83
      go_wp2
      go_ret
      rw [He.out]
      exact ⟨rfl, rfl⟩
    · have d2 : decide ((c.toNat : Int) ≤ 122) = false := decide_eq_false (by omega)
      have d3 : ((c.toNat : Int) == 95) = false := by simp; omega
      have He := Lib.hid (show Ln.inKey c = false by unfold Ln.inKey; rw [decide_eq_false (by omega), decide_eq_false (by omega)]; rfl)
      clear h1 h2
      go_enter Tryd.func83, Tryd.ntmps83
      go_wp2
      go_ret
      rw [He.out]
      exact ⟨rfl, rfl⟩
  · have d1 : decide ((97 : Int) ≤ (c.toNat : Int)) = false := decide_eq_false (by omega)
    by_cases h2 : c.toNat = 95
    · have d3 : ((c.toNat : Int) == 95) = true := by simp; omega
      have He := Lib.hid (show Ln.inKey c = true by unfold Ln.inKey; rw [decide_eq_true h2, Bool.or_true])
      clear h1 h2
      go_enter Tryd.func83, Tryd.ntmps83
      go_wp2
      go_ret
      rw [He.out]
      exact ⟨rfl, rfl⟩
    · have d3 : ((c.toNat : Int) == 95) = false := by simp; omega
      have He := Lib.hid (show Ln.inKey c = false by unfold Ln.inKey; rw [decide_eq_false (by omega), decide_eq_false h2]; rfl)
      clear h1 h2
      go_enter Tryd.func83, Tryd.ntmps83
      go_wp2
      go_ret
      rw [He.out]
      exact ⟨rfl, rfl⟩
set_option maxHeartbeats 400000 in
theorem line_inValue (c : UInt8) (w : World) : Calls Tryd.prog 84 #[.int .u8 (c.toNat : Int)] w fun e w' => e = .returned (.bool (Ln.inVal c)) ∧ w' = w := by
  have hc := c.toNat_lt
  by_cases h1 : 33 ≤ c.toNat
  · have d1 : decide ((33 : Int) ≤ (c.toNat : Int)) = true := decide_eq_true (by omega)
    by_cases h2 : c.toNat ≤ 126
    · have d2 : decide ((c.toNat : Int) ≤ 126) = true := decide_eq_true (by omega)
      have He := Lib.hid (show Ln.inVal c = true by unfold Ln.inVal; rw [decide_eq_true ⟨h1, h2⟩])
      clear h1 h2
      go_enter Tryd.func84, Tryd.ntmps84
      go_wp2
      go_ret
      rw [He.out]
      exact ⟨rfl, rfl⟩
    · have d2 : decide ((c.toNat : Int) ≤ 126) = false := decide_eq_false (by omega)
      have He := Lib.hid (show Ln.inVal c = false by unfold Ln.inVal; rw [decide_eq_false (by omega)])
      clear h1 h2
      go_enter Tryd.func84, Tryd.ntmps84
      go_wp2
      go_ret
      rw [He.out]
      exact ⟨rfl, rfl⟩
  · have d1 : decide ((33 : Int) ≤ (c.toNat : Int)) = false := decide_eq_false (by omega)
    have He := Lib.hid (show Ln.inVal c = false by unfold Ln.inVal; rw [decide_eq_false (by omega)])
    clear h1
    go_enter Tryd.func84, Tryd.ntmps84
    go_wp2
    go_ret
    rw [He.out]
    exact ⟨rfl, rfl⟩
theorem may_inKey : MayAt 83 Ln.inKey := ⟨enters_of Tryd.func83 (by kernel_rfl) rfl, line_inKey⟩
theorem may_inValue : MayAt 84 Ln.inVal := ⟨enters_of Tryd.func84 (by kernel_rfl) rfl, line_inValue⟩

set_option maxHeartbeats 800000 in
theorem line_all (F : Nat) (P : UInt8 → Bool) (hF : MayAt F P) (s : ByteArray) (w : World) (hs : s.size ≤ 1000) :
    Calls Tryd.prog 82 #[.string s, .func (.func F) #[] #[]] w fun e w' => e = .returned (.bool (s.data.toList.all P)) ∧ w' = w := by
  have hent := hF.1
  have HF := Lib.hid hF.2
  have hsl : s.data.toList.length = s.size := by simp
  have Hsl := Lib.hid hsl
  clear hF hsl
  go_enter Tryd.func82, Tryd.ntmps82
  go_wp2
  go_loopw [8] (fun i wr => ∃ k : Nat, k ≤ s.size ∧ i = .int .i64 k ∧ Hid ((s.data.toList.take k).all P = true) ∧ wr = w) (fun i _ => s.size - (intOf i).toNat)
  case atStart => exact ⟨0, Nat.zero_le _, rfl, Lib.hid (by simp), rfl⟩
  case round =>
    obtain ⟨k, hk, rfl, Ha, hw⟩ := hrel
    have Hw := Lib.hid hw
    clear hw
    by_cases hlt : k < s.size
    · have hkl : k < s.data.toList.length := by rw [Hsl.out]; exact hlt
      have HC := Lib.hid (HF.out s[k] wr)
      have Ht : Hid (s.data.toList.take (k + 1) = s.data.toList.take k ++ [s[k]]) := Lib.hid (List.take_succ_eq_append_getElem hkl)
      have Hm : Hid (s[k] ∈ s.data.toList) := Lib.hid (List.getElem_mem hkl)
      cases hp : P s[k] with
      | true =>
        rw [hp] at HC
        have Hr := Lib.hid (show (s.data.toList.take (k + 1)).all P = true by rw [Ht.out, List.all_append, Ha.out]; simp [hp])
        clear hp
        go_wp2_with fail
        refine HC.out.mono ?_
        rintro e w2 ⟨rfl, rfl⟩
        go_wp2
        go_roundw
        case rel => exact ⟨k + 1, by omega, by go_num, Hr, Hw.out⟩
        case measure => simp [intOf]; omega
      | false =>
        rw [hp] at HC
        have Hr := Lib.hid (show s.data.toList.all P = false by rw [List.all_eq_false]; exact ⟨s[k], Hm.out, by simp [hp]⟩)
        clear hp
        go_wp2_with fail
        refine HC.out.mono ?_
        rintro e w2 ⟨rfl, rfl⟩
        go_wp2
        go_ret
        rw [Hr.out]
        exact ⟨rfl, Hw.out⟩
    · have Hr := Lib.hid (show s.data.toList.all P = true by
        have h := Ha.out
        rwa [List.take_of_length_le (by rw [Hsl.out]; omega)] at h)
      clear Ha
      go_wp2
      go_ret
      rw [Hr.out]
      exact ⟨rfl, Hw.out⟩

/-- The three tests of a line's sizes, as the walks meet them. -/
theorem sized_cases (x : Ln.L) : (Ln.sized x = false ∧ (x.k.toList.isEmpty = true ∨ (x.k.toList.isEmpty = false ∧ decide ((30 : Int) < (x.k.size : Int)) = true) ∨ (x.k.toList.isEmpty = false ∧ decide ((30 : Int) < (x.k.size : Int)) = false ∧ decide ((70 : Int) < (x.v.size : Int)) = true))) ∨
    (Ln.sized x = true ∧ x.k.toList.isEmpty = false ∧ decide ((30 : Int) < (x.k.size : Int)) = false ∧ decide ((70 : Int) < (x.v.size : Int)) = false ∧ x.k.size ≤ 30 ∧ x.v.size ≤ 70) := by
  have he : x.k.toList.isEmpty = decide (x.k.size = 0) := by
    rw [ByteArray.toList_eq]
    have : x.k.data.toList.length = x.k.size := by simp
    cases h : x.k.data.toList with
    | nil =>
      have hz : x.k.size = 0 := by rw [h] at this; exact this.symm
      rw [hz]; rfl
    | cons a r =>
      have hz : x.k.size ≠ 0 := by rw [h, List.length_cons] at this; omega
      rw [decide_eq_false hz]; rfl
  rw [he]
  unfold Ln.sized
  by_cases h1 : x.k.size = 0
  · exact .inl ⟨by simp [h1], .inl (by simp [h1])⟩
  by_cases h2 : x.k.size ≤ 30
  · by_cases h3 : x.v.size ≤ 70
    · exact .inr ⟨by simp [h2, h3]; omega, by simp [h1], by simp; omega, by simp; omega, h2, h3⟩
    · exact .inl ⟨by simp [h3], .inr (.inr ⟨by simp [h1], by simp; omega, by simp; omega⟩)⟩
  · exact .inl ⟨by simp [h2], .inr (.inl ⟨by simp [h1], by simp; omega⟩)⟩

set_option maxHeartbeats 800000 in
theorem line_Check (x : Ln.L) (w : World) : Calls Tryd.prog 63 #[lineV x] w fun e w' => e = .returned (.int .i64 (Ln.err x : Int)) ∧ Below w.heap.size w w' := by
  obtain ⟨k, v⟩ := x
  have HC := Lib.hid (sized_cases ⟨k, v⟩)
  obtain ⟨w1, hw1⟩ : ∃ w1, w1 = w.alloc (.cells #[.string k, .string v] 30) := ⟨_, rfl⟩
  have hB : Below w.heap.size w w1 := by rw [hw1]; exact (Below.refl _ _).alloc (Nat.le_refl _) _
  have HB := Lib.hid hB
  have hb : Blk w1 w.heap.size 30 [.string k, .string v] := by rw [hw1]; exact Blk.new _ _ _
  have c0 := hb.cell 0 rfl
  have c1 := hb.cell 1 rfl
  clear hB hb
  unfold lineV
  rcases HC.out with ⟨hz, h⟩ | ⟨hz, d0, d1, d2, z1, z2⟩
  · have Hr := Lib.hid (Ln.err_size hz)
    clear HC hz
    rcases h with d0 | ⟨d0, d1⟩ | ⟨d0, d1, d2⟩
    all_goals
      go_enter Tryd.func63, Tryd.ntmps63
      go_wp2
      rw [← hw1]
      go_ret
      rw [Hr.out]
      exact ⟨rfl, HB.out⟩
  · clear HC
    have HK := Lib.hid (line_all _ _ may_inKey k w1 (Nat.le_trans z1 (by decide)))
    have HV := Lib.hid (line_all _ _ may_inValue v w1 (Nat.le_trans z2 (by decide)))
    cases hk : k.data.toList.all Ln.inKey with
    | false =>
      have Hr := Lib.hid (Ln.err_form hz (show Ln.formed ⟨k, v⟩ = false by unfold Ln.formed; rw [hk]; rfl))
      rw [hk] at HK
      clear hz hk HV
      go_enter Tryd.func63, Tryd.ntmps63
      go_wp2_with fail
      rw [← hw1]
      clear hw1
      refine HK.out.mono ?_
      rintro e w2 ⟨rfl, rfl⟩
      go_wp2
      go_ret
      rw [Hr.out]
      exact ⟨rfl, HB.out⟩
    | true =>
      rw [hk] at HK
      cases hv : v.data.toList.all Ln.inVal with
      | false =>
        have Hr := Lib.hid (Ln.err_form hz (show Ln.formed ⟨k, v⟩ = false by unfold Ln.formed; rw [hv, Bool.and_false]))
        rw [hv] at HV
        clear hz hk hv
        go_enter Tryd.func63, Tryd.ntmps63
        go_wp2_with fail
        rw [← hw1]
        clear hw1
        refine HK.out.mono ?_
        rintro e w2 ⟨rfl, rfl⟩
        go_wp2_with fail
        refine HV.out.mono ?_
        rintro e w2 ⟨rfl, rfl⟩
        go_wp2
        go_ret
        rw [Hr.out]
        exact ⟨rfl, HB.out⟩
      | true =>
        have Hr := Lib.hid (Ln.err_ok hz (show Ln.formed ⟨k, v⟩ = true by unfold Ln.formed; rw [hk, hv]; rfl))
        rw [hv] at HV
        clear hz hk hv
        go_enter Tryd.func63, Tryd.ntmps63
        go_wp2_with fail
        rw [← hw1]
        clear hw1
        refine HK.out.mono ?_
        rintro e w2 ⟨rfl, rfl⟩
        go_wp2_with fail
        refine HV.out.mono ?_
        rintro e w2 ⟨rfl, rfl⟩
        go_wp2
        go_ret
        rw [Hr.out]
        exact ⟨rfl, HB.out⟩
end Go.Proofs.YthlagpmacnijfaaDoor

namespace Go.Proofs.YthlagpmacnijfaaDoor
open Go.RowKit

theorem lib_CutAt (s : ByteArray) (c : UInt8) (w : World) (hs : s.size ≤ 1048576) (hM : MaxTab w) :
    Calls Tryd.prog 49 #[.string s, .string ⟨#[c]⟩] w fun e w' => e = .returned (.tuple #[.string ⟨(Lib.cut s.data.toList [c]).1.toArray⟩, .string ⟨(Lib.cut s.data.toList [c]).2.1.toArray⟩, .bool (Lib.cut s.data.toList [c]).2.2]) ∧ Below w.heap.size w w' := by
  obtain ⟨m, hm⟩ := hM
  refine (Tryd.strings_Cut s ⟨#[c]⟩ m w (by omega) hm).mono ?_
  rintro e w' ⟨rfl, n, rfl⟩
  exact ⟨rfl, below_drewN (Below.refl _ _) n⟩
end Go.Proofs.YthlagpmacnijfaaDoor

namespace Go.Proofs.YthlagpmacnijfaaDoor
open Go.RowKit

/-- A line, where its piece is right; else none. -/
def Ln.pLine (p : ByteArray) : Ln.L := if Ln.pErr p = 0 then Ln.line p else ⟨⟨#[]⟩, ⟨#[]⟩⟩
theorem cut_line (p : ByteArray) (h : 0 ≤ Ln.at_ p) : (⟨(Lib.cut p.data.toList [61]).1.toArray⟩ : ByteArray) = (Ln.line p).k ∧ (⟨(Lib.cut p.data.toList [61]).2.1.toArray⟩ : ByteArray) = (Ln.line p).v ∧ (Lib.cut p.data.toList [61]).2.2 = true := by
  rw [cut_some 61 _ h]
  refine ⟨?_, ?_, rfl⟩
  · apply WideShapes.bytes_inj
    show (p.data.toList.take (Ln.at_ p).toNat) = (p.extract 0 (Ln.at_ p).toNat).data.toList
    rw [Lib.extract_from_zero]
  · apply WideShapes.bytes_inj
    show (p.data.toList.drop ((Ln.at_ p).toNat + 1)) = (p.extract ((Ln.at_ p).toNat + 1) p.size).data.toList
    rw [Lib.extract_to_end]
set_option maxRecDepth 20000 in
set_option maxHeartbeats 1600000 in
theorem line_parse (p : ByteArray) (w : World) (hs : p.size ≤ 1048576) (hM : MaxTab w) :
    Calls Tryd.prog 65 #[.string p] w fun e w' => e = .returned (.tuple #[lineV (Ln.pLine p), .int .i64 (Ln.pErr p : Int)]) ∧ Below w.heap.size w w' := by
  obtain ⟨w1, hw1⟩ : ∃ w1, w1 = w.alloc (.cells #[.string ⟨#[]⟩, .string ⟨#[]⟩] 30) := ⟨_, rfl⟩
  have hB : Below w.heap.size w w1 := by rw [hw1]; exact (Below.refl _ _).alloc (Nat.le_refl _) _
  have HB := Lib.hid hB
  have HG := Lib.hid (show Blk w1 w.heap.size 30 [.string ⟨#[]⟩, .string ⟨#[]⟩] by rw [hw1]; exact Blk.new _ _ _)
  have HI := lib_CutAt p 61 w1 hs (hM.below hB)
  clear hB hM
  by_cases h0 : Ln.at_ p < 0
  · have Hr : Hid (Ln.pErr p = 3 ∧ Ln.pLine p = ⟨⟨#[]⟩, ⟨#[]⟩⟩) := Lib.hid (by
      have e : Ln.pErr p = 3 := by unfold Ln.pErr; rw [if_pos h0]
      exact ⟨e, by unfold Ln.pLine; rw [if_neg (by rw [e]; decide)]⟩)
    rw [cut_none 61 _ h0] at HI
    clear h0
    generalize (⟨p.data.toList.toArray⟩ : ByteArray) = q at *
    go_enter Tryd.func65, Tryd.ntmps65
    go_wp2_with fail
    rw [← hw1]
    clear hw1
    refine HI.mono ?_
    rintro e w2 ⟨rfl, hb2⟩
    have hG2 := HG.out.kept hb2
    have HG2 := Lib.hid hG2
    have c0 := hG2.cell 0 rfl
    have c1 := hG2.cell 1 rfl
    have f0 := hG2.frozen (by decide) 0
    have f1 := hG2.frozen (by decide) 1
    have HB2 := Lib.hid (HB.out.trans (hb2.mono HB.out.size))
    have HE := Lib.hid (hG2.set2 (.string ⟨#[]⟩) (.string ⟨#[]⟩))
    clear hG2 hb2 HI
    go_wp2
    exact bodyPost_ret (ret_cell (load_line HE.out rfl) Tryd.results65 rfl rfl) rfl ⟨by rw [Hr.out.1, Hr.out.2]; rfl, (HB2.out.setCell (Nat.le_refl _) _).setCell (Nat.le_refl _) _⟩
  · have h0' : 0 ≤ Ln.at_ p := by omega
    obtain ⟨e1, e2, e3⟩ := cut_line p h0'
    rw [e1, e2, e3] at HI
    have Hp : Hid (Ln.pErr p = Ln.err (Ln.line p)) := Lib.hid (by unfold Ln.pErr; rw [if_neg h0])
    have Hl : Hid (Ln.pLine p = if Ln.err (Ln.line p) = 0 then Ln.line p else ⟨⟨#[]⟩, ⟨#[]⟩⟩) := Lib.hid (by unfold Ln.pLine; rw [Hp.out])
    clear e1 e2 e3 h0 h0'
    generalize Ln.line p = L at *
    have HC := Lib.hid (fun W => line_Check L W)
    obtain ⟨X, Y⟩ := L
    unfold lineV at HC
    have HD : Hid (∀ W, Below w1.heap.size w1 W → (Blk (W.alloc (.cells #[.string X, .string Y] 30)) W.heap.size 30 [.string X, .string Y] ∧ Below W.heap.size W (W.alloc (.cells #[.string X, .string Y] 30)))) := Lib.hid (fun W _ => ⟨Blk.new W 30 [.string X, .string Y], (Below.refl _ _).alloc (Nat.le_refl _) _⟩)
    by_cases he : Ln.err ⟨X, Y⟩ = 0
    · rw [he] at HC Hp
      rw [if_pos he] at Hl
      clear he
      go_enter Tryd.func65, Tryd.ntmps65
      go_wp2_with fail
      rw [← hw1]
      clear hw1
      refine HI.mono ?_
      rintro e w2 ⟨rfl, hb2⟩
      go_wp2_with fail
      refine (HC.out _).mono ?_
      rintro e w3 ⟨rfl, hb3⟩
      obtain ⟨hN, hA⟩ := HD.out w2 hb2
      have hG3 := ((HG.out.kept hb2).kept hA).kept hb3
      have hN3 := hN.kept hb3
      have c0 := hG3.cell 0 rfl
      have c1 := hG3.cell 1 rfl
      have f0 := hG3.frozen (by decide) 0
      have f1 := hG3.frozen (by decide) 1
      have n0 := hN3.cell 0 rfl
      have n1 := hN3.cell 1 rfl
      have HB3 := Lib.hid ((HB.out.trans (hb2.mono HB.out.size)).trans ((hA.trans (hb3.mono hA.size)).mono (Nat.le_trans HB.out.size hb2.size)))
      have HE := Lib.hid (hG3.set2 (.string X) (.string Y))
      have hlt : w.heap.size < w2.heap.size := Nat.lt_of_lt_of_le HG.out.lt hb2.size
      clear hG3 hN3 hN hA hb2 hb3 HI HC HD HG
      go_wp2
      exact bodyPost_ret (ret_cell (load_line HE.out rfl) Tryd.results65 rfl rfl) rfl ⟨by rw [Hp.out, Hl.out]; rfl, (HB3.out.setCell (Nat.le_refl _) _).setCell (Nat.le_refl _) _⟩
    · rw [if_neg he] at Hl
      have hn : ((Ln.err ⟨X, Y⟩ : Int) != 0) = true := by simpa using he
      clear he
      generalize Ln.err ⟨X, Y⟩ = r at *
      go_enter Tryd.func65, Tryd.ntmps65
      go_wp2_with fail
      rw [← hw1]
      clear hw1
      refine HI.mono ?_
      rintro e w2 ⟨rfl, hb2⟩
      go_wp2_with fail
      refine (HC.out _).mono ?_
      rintro e w3 ⟨rfl, hb3⟩
      obtain ⟨hN, hA⟩ := HD.out w2 hb2
      have hG3 := ((HG.out.kept hb2).kept hA).kept hb3
      have c0 := hG3.cell 0 rfl
      have c1 := hG3.cell 1 rfl
      have f0 := hG3.frozen (by decide) 0
      have f1 := hG3.frozen (by decide) 1
      have HB3 := Lib.hid ((HB.out.trans (hb2.mono HB.out.size)).trans ((hA.trans (hb3.mono hA.size)).mono (Nat.le_trans HB.out.size hb2.size)))
      have HE := Lib.hid (hG3.set2 (.string ⟨#[]⟩) (.string ⟨#[]⟩))
      clear hG3 hN hA hb2 hb3 HI HC HD HG
      go_wp2
      exact bodyPost_ret (ret_cell (load_line HE.out rfl) Tryd.results65 rfl rfl) rfl ⟨by rw [Hp.out, Hl.out]; rfl, (HB3.out.setCell (Nat.le_refl _) _).setCell (Nat.le_refl _) _⟩
end Go.Proofs.YthlagpmacnijfaaDoor

namespace Go.Proofs.YthlagpmacnijfaaDoor
open Go.RowKit

/-- The cells of n lines, the first ones written. -/
def lcells (done : List Ln.L) (n : Nat) : List Value := Ln.linesC done ++ List.replicate ((n - done.length) * 2) (.string ⟨#[]⟩)
theorem lcells_length (done : List Ln.L) (n : Nat) (h : done.length ≤ n) : (lcells done n).length = n * 2 := by unfold lcells; rw [List.length_append, Ln.linesC_length, List.length_replicate]; omega
theorem lcells_old (done : List Ln.L) (n : Nat) (h : done.length < n) : (lcells done n)[done.length * 2]? = some (.string ⟨#[]⟩) ∧ (lcells done n)[done.length * 2 + 1]? = some (.string ⟨#[]⟩) := by
  unfold lcells
  rw [List.getElem?_append_right (by rw [Ln.linesC_length]; exact Nat.le_refl _), List.getElem?_append_right (by rw [Ln.linesC_length]; omega), Ln.linesC_length, List.getElem?_replicate, List.getElem?_replicate, if_pos (by omega), if_pos (by omega)]
  exact ⟨rfl, rfl⟩
theorem lcells_set (done : List Ln.L) (n : Nat) (h : done.length < n) (x : Ln.L) : ((lcells done n).set (done.length * 2) (.string x.k)).set (done.length * 2 + 1) (.string x.v) = lcells (done ++ [x]) n := by
  unfold lcells
  rw [List.set_append_right (h := by rw [Ln.linesC_length]; exact Nat.le_refl _), List.set_append_right (h := by rw [Ln.linesC_length]; omega), Ln.linesC_length, Nat.sub_self, show done.length * 2 + 1 - done.length * 2 = 1 by omega, Ln.linesC_append, List.append_assoc]
  congr 1
  obtain ⟨m, hm⟩ : ∃ m, n - done.length = m + 1 := ⟨n - done.length - 1, by omega⟩
  rw [hm, show (m + 1) * 2 = m * 2 + 1 + 1 by omega, List.replicate_succ, List.replicate_succ, List.set_cons_zero, List.set_cons_succ, List.set_cons_zero, List.length_append, List.length_singleton]
  rw [show n - (done.length + 1) = m by omega]
  rfl
theorem lcells_full (done : List Ln.L) (n : Nat) (h : done.length = n) : lcells done n = Ln.linesC done := by
  unfold lcells
  rw [show n - done.length = 0 by omega]
  simp
theorem made_two (a : Value) (n : Nat) : madeCells #[a, a] n = (List.replicate n a).toArray := by
  apply Array.toList_inj.1
  apply List.ext_getElem?
  intro j
  unfold madeCells
  by_cases hj : j < n
  · have hm : j % 2 = 0 ∨ j % 2 = 1 := by omega
    simp only [Array.toList_map, List.getElem?_map, Array.toList_range, List.getElem?_range hj, Option.map_some, List.getElem?_replicate, hj, if_true]
    have h2 : (#[a, a] : Array Value).size = 2 := rfl
    rw [h2]
    rcases hm with h | h <;> rw [h] <;> rfl
  · simp [hj]
theorem make_lines (n : Nat) (hn : n ≤ 2000000) : ∀ W, (Instr.makeSlice 70 (.int .i64 (n : Int)) (.int .i64 (n : Int))).run Tryd.prog W = .ok (.slice (some ⟨W.heap.size, 0, none⟩) n n) (W.alloc (.cells (lcells [] n).toArray 30)) := fun W => by
  obtain ⟨i, hi, hz0, hz1, hz2⟩ := info_line
  have hr := run_make (P := Tryd.prog) W 70 30 i _ Tryd.underlying70 hi hz0 .i64 .i64 n n (by omega) (by omega) (by rw [hz2]; omega) (by omega)
  simp only [Int.toNat_natCast, hz1] at hr
  have e : madeCells (Value.agg #[Value.string ByteArray.empty, Value.string ByteArray.empty]).cells (n * 2) = (lcells [] n).toArray := by
    show madeCells #[Value.string ByteArray.empty, Value.string ByteArray.empty] (n * 2) = _
    rw [made_two]
    rfl
  rw [e] at hr
  exact hr
theorem Blk.set_at {w : World} {g : Nat} {t : TypeId} {done : List Ln.L} {n k : Nat} (h : Blk w g t (lcells done n)) (hn : n ≤ 2000000) (hk : done.length = k) (hlt : k < n) (x : Ln.L) :
    Blk ((w.setCell ⟨g, k * 2, none⟩ (.string x.k)).setCell ⟨g, k * 2 + 1, none⟩ (.string x.v)) g t (lcells (done ++ [x]) n) ∧ w.cell? ⟨g, k * 2, none⟩ = some (.string ⟨#[]⟩) ∧ w.cell? ⟨g, k * 2 + 1, none⟩ = some (.string ⟨#[]⟩) ∧ w.frozen? ⟨g, k * 2, none⟩ = false ∧ w.frozen? ⟨g, k * 2 + 1, none⟩ = false := by
  subst hk
  have hm : (lcells done n).length ≤ maxLen := by rw [lcells_length _ _ (by omega)]; unfold maxLen; omega
  have h1 := h.set hm (done.length * 2) (.string x.k)
  have h2 := h1.set (by rw [List.length_set]; exact hm) (done.length * 2 + 1) (.string x.v)
  rw [lcells_set done n hlt x] at h2
  exact ⟨h2, h.cell _ (lcells_old done n hlt).1, h.cell _ (lcells_old done n hlt).2, h.frozen hm _, h.frozen hm _⟩
theorem lines_blk {w : World} {g : Nat} {l : List Ln.L} {t : TypeId} {n : Nat} (h : Blk w g t (lcells l n)) (hl : l.length = n) : LinesAt w w.heap.size (some ⟨g, 0, none⟩) n l := by
  rw [lcells_full l n hl] at h
  have := lines_of_row h
  rwa [hl] at this
end Go.Proofs.YthlagpmacnijfaaDoor

namespace Go.Proofs.YthlagpmacnijfaaDoor
open Go.RowKit

/-- What Split hands back. -/
def SplitPost (s : ByteArray) (w : World) (e : Ending) (w' : World) : Prop :=
  (∃ a c, e = .returned (.tuple #[.slice a (Ln.sOut s).length c, .int .i64 ((Ln.sBad s).1 : Int), .int .i64 ((Ln.sBad s).2 : Int)]) ∧ LinesAt w' w'.heap.size a (Ln.sOut s).length (Ln.sOut s)) ∧ Below w.heap.size w w'
theorem splitPost_err {s : ByteArray} {w w' : World} {i r : Nat} (hb : Ln.sBad s = (i, r)) (ho : Ln.sOut s = []) (hB : Below w.heap.size w w') : SplitPost s w (.returned (.tuple #[.slice none 0 0, .int .i64 (i : Int), .int .i64 (r : Int)])) w' := by
  refine ⟨⟨none, 0, ?_, ?_⟩, hB⟩
  · rw [hb, ho]; rfl
  · rw [ho]; exact LinesAt.nil _ _ _
theorem sOut_err {s : ByteArray} {i r : Nat} (hb : Ln.sBad s = (i, r)) (hr : r ≠ 0) : Ln.sOut s = [] := by
  unfold Ln.sOut
  rw [hb, if_neg (fun e => hr e.1)]

set_option maxRecDepth 20000 in
set_option maxHeartbeats 1600000 in
theorem line_Split (s : ByteArray) (w : World) (hM : MaxTab w) : Calls Tryd.prog 38 #[.string s] w (SplitPost s w) := by
  by_cases h3 : 3000 < s.size
  · have hb : Ln.sBad s = (0, 1) := by unfold Ln.sBad; rw [if_pos h3]
    have Hr := Lib.hid (splitPost_err (w := w) hb (sOut_err hb (by decide)) (Below.refl _ _))
    clear hb
    go_enter Tryd.func38, Tryd.ntmps38
    go_wp2
    go_ret3
    exact Hr.out
  have hse : s.toList.isEmpty = decide (s.size = 0) := by
    rw [ByteArray.toList_eq]
    have : s.data.toList.length = s.size := by simp
    cases h : s.data.toList with
    | nil =>
      have hz : s.size = 0 := by rw [h] at this; exact this.symm
      rw [hz]; rfl
    | cons a r =>
      have hz : s.size ≠ 0 := by rw [h, List.length_cons] at this; omega
      rw [decide_eq_false hz]; rfl
  by_cases h0 : s.size = 0
  · have hb : Ln.sBad s = (0, 0) := by unfold Ln.sBad; rw [if_neg h3, if_pos h0]
    have Hr := Lib.hid (splitPost_err (w := w) hb (by unfold Ln.sOut; rw [if_neg (fun e => e.2 h0)]) (Below.refl _ _))
    rw [decide_eq_true h0] at hse
    clear hb h0
    go_enter Tryd.func38, Tryd.ntmps38
    go_wp2
    go_ret3
    exact Hr.out
  rw [decide_eq_false h0] at hse
  have HS := lib_Split s 10 w (by omega) hM
  have HM := Lib.hid hM
  have hs3 : s.size ≤ 3000 := by omega
  have H0 := Lib.hid h0
  clear hM h0
  go_enter Tryd.func38, Tryd.ntmps38
  go_wp2_with fail
  refine HS.mono ?_
  rintro e w1 ⟨ps, rfl, Hp, hl, hpl, hcell, hz1, hb1⟩
  have Hps := Lib.hid (Ln.pieces_of Hp.out)
  have Hc := Lib.hid hcell
  have Hpl := Lib.hid hpl
  have HM1 := Lib.hid (HM.out.below hb1)
  have HB1 := Lib.hid hb1
  have Hz1 := Lib.hid hz1
  clear hcell hpl hb1 HS Hp hl hz1
  by_cases h60 : 60 < ps.length
  · have hb : Ln.sBad s = (0, 1) := by unfold Ln.sBad; rw [if_neg h3, if_neg H0.out, ← Hps.out, if_pos h60]
    have Hr := Lib.hid (splitPost_err (w := w) hb (sOut_err hb (by decide)) HB1.out)
    clear hb
    go_wp2
    go_ret3
    exact Hr.out
  have hmk := make_lines ps.length (by omega)
  have Hb : Hid (Ln.sBad s = Ln.wrong 0 ps) := Lib.hid (by unfold Ln.sBad; rw [if_neg h3, if_neg H0.out, ← Hps.out, if_neg h60])
  obtain ⟨w2, hw2⟩ : ∃ w2, w2 = w1.alloc (.cells (lcells [] ps.length).toArray 30) := ⟨_, rfl⟩
  have HB2 := Lib.hid (show Below w1.heap.size w1 w2 by rw [hw2]; exact (Below.refl _ _).alloc (Nat.le_refl _) _)
  have HT := Lib.hid (show Blk w2 w1.heap.size 30 (lcells [] ps.length) by rw [hw2]; exact Blk.new _ _ _)
  go_wp2
  rw [← hw2]
  clear hmk hw2
  go_loopw [26] (fun i wr => ∃ k : Nat, k ≤ ps.length ∧ i = .int .i64 k ∧ Hid (∀ p ∈ ps.take k, Ln.pErr p = 0) ∧ Hid (Blk wr w1.heap.size 30 (lcells ((ps.take k).map Ln.line) ps.length)) ∧ Hid (Below w1.heap.size w1 wr)) (fun i _ => ps.length - (intOf i).toNat)
  case atStart => exact ⟨0, Nat.zero_le _, rfl, Lib.hid (fun x hx => by simp at hx), Lib.hid (by simpa using HT.out), HB2⟩
  case round =>
    obtain ⟨k, hk, rfl, Ha, Hbk, HBr⟩ := hrel
    obtain ⟨wo, hwo⟩ : ∃ wo, wo = wr := ⟨_, rfl⟩
    subst hwo
    by_cases hlt : k < ps.length
    · have hcell : wo.cell? ⟨w.heap.size, k, none⟩ = some (.string ps[k]) := by
        rw [HBr.out.cell (show (⟨w.heap.size, k, none⟩ : Addr).block < w1.heap.size by show w.heap.size < _; have := Hz1.out; omega)]
        exact Hc.out k hlt
      have hps := Hpl.out _ (List.getElem_mem hlt)
      have HC := Lib.hid (line_parse ps[k] wo (by omega) (HM1.out.below HBr.out))
      have Ht : Hid (ps.take (k + 1) = ps.take k ++ [ps[k]]) := Lib.hid (List.take_succ_eq_append_getElem hlt)
      have Htl : Hid ((ps.take k).length = k) := Lib.hid (by rw [List.length_take]; omega)
      have Hf := Lib.hid (fun hn => Ln.wrong_at ps 0 k hlt Ha.out hn)
      generalize ps[k] = p at *
      have hsz := HBr.out.size
      by_cases he : Ln.pErr p = 0
      · have Hn := Lib.hid (show ∀ y ∈ ps.take (k + 1), Ln.pErr y = 0 by
          intro y hy
          rw [Ht.out] at hy
          rcases List.mem_append.1 hy with hy | hy
          · exact Ha.out y hy
          · rw [List.mem_singleton.1 hy]; exact he)
        have hpl : Ln.pLine p = Ln.line p := by unfold Ln.pLine; rw [if_pos he]
        rw [he, hpl] at HC
        have Hm : Hid ((ps.take (k + 1)).map Ln.line = (ps.take k).map Ln.line ++ [Ln.line p]) := Lib.hid (by rw [Ht.out, List.map_append, List.map_singleton])
        clear he Hf hpl Ha
        generalize Ln.line p = L at *
        obtain ⟨X, Y⟩ := L
        unfold lineV at HC
        go_wp2_with fail
        refine HC.out.mono ?_
        rintro e w3 ⟨rfl, hb3⟩
        have hg3 := Hbk.out.kept hb3
        obtain ⟨hset, q0, q1, f0, f1⟩ := hg3.set_at (by omega) (by rw [List.length_map]; exact Htl.out) hlt ⟨X, Y⟩
        rw [← Hm.out] at hset
        have hgl3 := hg3.lt
        have HB3 := Lib.hid (HBr.out.trans (hb3.mono hsz))
        have Hset := Lib.hid hset
        clear hset hg3 hb3 HC hcell
        go_wp2
        go_roundw
        case rel =>
          have hB4 := (HB3.out.setCell (p := ⟨w1.heap.size, k * 2, none⟩) (Nat.le_refl _) (.string X)).setCell (p := ⟨w1.heap.size, k * 2 + 1, none⟩) (Nat.le_refl _) (.string Y)
          exact ⟨k + 1, by omega, by go_num, Hn, Lib.hid (Hset.out.kept ((Below.refl _ _).alloc (Nat.le_refl _) _)), Lib.hid (hB4.alloc hB4.size _)⟩
        case measure => simp [intOf]; omega
      · have hb : Ln.sBad s = (k + 1, Ln.pErr p) := by rw [Hb.out, Hf.out he, Nat.zero_add]
        have hn : ((Ln.pErr p : Int) != 0) = true := by simpa using he
        have ho := sOut_err hb he
        clear he Hf
        generalize Ln.pErr p = r at *
        have Hr := Lib.hid (fun w' hB' => splitPost_err (w := w) (w' := w') hb ho hB')
        clear hb ho
        generalize Ln.pLine p = L at *
        obtain ⟨X, Y⟩ := L
        unfold lineV at HC
        go_wp2_with fail
        refine HC.out.mono ?_
        rintro e w3 ⟨rfl, hb3⟩
        have HB3 := Lib.hid (HB1.out.trans ((HBr.out.trans (hb3.mono hsz)).mono HB1.out.size))
        have HB4 := Lib.hid (HB3.out.alloc HB3.out.size (.cells #[.string X, .string Y] 30))
        clear hb3 HC hcell
        go_wp2
        go_ret3
        have h := Hr.out _ HB4.out
        rwa [Int.natCast_add] at h
    · obtain rfl : k = ps.length := by omega
      have htk : ps.take ps.length = ps := List.take_of_length_le (Nat.le_refl _)
      rw [htk] at Ha Hbk
      have Hw := Lib.hid (Ln.wrong_good ps 0 Ha.out)
      have ho : Hid (Ln.sOut s = ps.map Ln.line) := Lib.hid (by unfold Ln.sOut; rw [Hb.out, Hw.out, if_pos ⟨rfl, H0.out⟩, ← Hps.out])
      have hol : Hid ((ps.map Ln.line).length = ps.length) := Lib.hid (by rw [List.length_map])
      have HL := Lib.hid (lines_blk Hbk.out hol.out)
      have HBf := Lib.hid (HB1.out.trans (HBr.out.mono HB1.out.size))
      clear htk
      go_wp2
      go_ret3
      refine ⟨⟨some ⟨w1.heap.size, 0, none⟩, ps.length, ?_, ?_⟩, HBf.out⟩
      rotate_left
      · rw [ho.out, hol.out]; exact HL.out
      · rw [Hb.out, Hw.out, ho.out, hol.out]; rfl
end Go.Proofs.YthlagpmacnijfaaDoor

namespace Go.Proofs.YthlagpmacnijfaaDoor
open Go.RowKit

theorem run_storeVar_at (w : World) (g off : Nat) (t ty : TypeId) (cur ys : List Value) (hg : w.heap[g]? = some (.cells cur.toArray t (0, 0))) (hi : (Tryd.prog.info? ty).map (·.size) = some ys.length) (hl : off + ys.length ≤ cur.length) (h1 : ∀ v ∈ ys, v.oneCell' = true) :
    (storeVar ty ⟨g, off, none⟩ (.agg ys.toArray)).run Tryd.prog w = .ok () (w.setRow g (cur.take off ++ ys ++ cur.drop (off + ys.length)).toArray) := by
  have := run_storeCells_at Tryd.prog g off t ys 0 cur.toArray w hg (by simpa using hl) h1
  cases hq : Tryd.prog.info? ty with
  | none => simp [hq] at hi
  | some i =>
    have hs : ys.length = i.size := by simp [hq] at hi; omega
    simp [storeVar, sizeOf, typeInfo, hq, Value.cells, hs, this]
theorem Bt.setsC_set (L : List S) (k : Nat) (s : S) (h : k < L.length) : (setsC L).take (k * 5) ++ setC s ++ (setsC L).drop (k * 5 + (setC s).length) = setsC (L.set k s) := by
  have e : L = L.take k ++ (L[k] :: L.drop (k + 1)) := by simp
  have hk : (setsC (L.take k)).length = k * 5 := by rw [setsC_length, List.length_take, Nat.min_eq_left (by omega)]
  have h1 : setsC L = setsC (L.take k) ++ (setC L[k] ++ setsC (L.drop (k + 1))) := by
    conv => lhs; rw [e]
    rw [setsC_append]
    rfl
  have h2 : setsC (L.set k s) = setsC (L.take k) ++ (setC s ++ setsC (L.drop (k + 1))) := by
    rw [List.set_eq_take_append_cons_drop, if_pos h, setsC_append]
    rfl
  have h3 : k * 5 + (setC s).length = (setsC (L.take k) ++ setC L[k]).length := by rw [List.length_append, hk]; rfl
  rw [h2, h1, ← hk, List.take_left, List.append_assoc]
  congr 2
  rw [hk, h3, ← List.append_assoc, List.drop_left]
/-- One setting of a row written whole. -/
theorem wpL_store_elem {w : World} {ops : Array Oper} {rest : List Oper} {o : Oper} {a : Act} {Q : Exit → Act → World → Prop} (hgd : o.guard = none) (x y : Operand) (ho : o.op = .store 26 x y) (g k : Nat) (L : List Bt.S) (s : Bt.S)
    (hx : a.eval x = .pointer (some ⟨g, k * 5, none⟩)) (hy : a.eval y = .agg (Bt.setC s).toArray) (hg : Blk w g 26 (Bt.setsC L)) (hk : k < L.length)
    (h : ∀ w', Blk w' g 26 (Bt.setsC (L.set k s)) → w.grownBy w' (some g) → w'.heap.size = w.heap.size → wpList Tryd.prog ops Q rest (a.put o.dst undef) w') : wpList Tryd.prog ops Q (o :: rest) a w := by
  refine wpList_plain hgd fun K hK => ?_
  have hr := run_storeVar_at w g (k * 5) 26 26 (Bt.setsC L) (Bt.setC s) hg size_set (by rw [Bt.setsC_length]; show k * 5 + 5 ≤ _; omega) (fun v hv => Bt.setsC_one [s] v (by unfold Bt.setsC; simpa using hv))
  rw [Bt.setsC_set L k s hk] at hr
  unfold Oper.wp execOp
  simp only [ho, hx, hy, Instr.storeAt, Instr.sureAddr, Sem.run_bind, Sem.run_pure, Result.andThen_ok, hr]
  exact hK _ _ (h _ (setRow_heap w g _ _ _ _ hg) (grown_set_row w g _) (by simp))
theorem made_five (n : Nat) : madeCells #[.int .i64 0, .string ByteArray.empty, .int .i64 0, .int .u32 0, .int .i64 0] (n * 5) = (Bt.setsC (List.replicate n Bt.zeroS)).toArray := by
  apply Array.toList_inj.1
  apply List.ext_getElem?
  intro j
  unfold madeCells
  by_cases hj : j < n * 5
  · simp only [Array.toList_map, List.getElem?_map, Array.toList_range, List.getElem?_range hj, Option.map_some]
    have hq : j / 5 < (List.replicate n Bt.zeroS).length := by rw [List.length_replicate]; omega
    have e := Bt.setsC_get (List.replicate n Bt.zeroS) (j / 5) (j % 5) hq (by omega)
    rw [show j / 5 * 5 + j % 5 = j by omega, List.getElem_replicate] at e
    rw [e]
    have h5 : (#[.int .i64 0, .string ByteArray.empty, .int .i64 0, .int .u32 0, .int .i64 0] : Array Value).size = 5 := rfl
    rw [h5]
    have hm : j % 5 = 0 ∨ j % 5 = 1 ∨ j % 5 = 2 ∨ j % 5 = 3 ∨ j % 5 = 4 := by omega
    rcases hm with h | h | h | h | h <;> rw [h] <;> rfl
  · rw [List.getElem?_eq_none (by simp; omega), List.getElem?_eq_none (by show (Bt.setsC _).length ≤ j; rw [Bt.setsC_length, List.length_replicate]; omega)]
theorem make_sets (n : Nat) (hn : n ≤ 2000000) : ∀ W, (Instr.makeSlice 35 (.int .i64 (n : Int)) (.int .i64 (n : Int))).run Tryd.prog W = .ok (.slice (some ⟨W.heap.size, 0, none⟩) n n) (W.alloc (.cells (Bt.setsC (List.replicate n Bt.zeroS)).toArray 26)) := fun W => by
  obtain ⟨i, hi, hz0, hz1, hz2⟩ := info_set
  have hr := run_make (P := Tryd.prog) W 35 26 i _ Tryd.underlying35 hi hz0 .i64 .i64 n n (by omega) (by omega) (by rw [hz2]; omega) (by omega)
  simp only [Int.toNat_natCast, hz1] at hr
  rw [show madeCells (Value.agg #[.int .i64 0, .string ByteArray.empty, .int .i64 0, .int .u32 0, .int .i64 0]).cells (n * 5) = (Bt.setsC (List.replicate n Bt.zeroS)).toArray from made_five n] at hr
  exact hr
/-- The settings so far, zeros behind them. -/
def Bt.sofar (D : List S) (n : Nat) : List S := D ++ List.replicate (n - D.length) zeroS
theorem Bt.sofar_length (D : List S) (n : Nat) (h : D.length ≤ n) : (sofar D n).length = n := by unfold sofar; rw [List.length_append, List.length_replicate]; omega
theorem Bt.sofar_set (D : List S) (n k : Nat) (x : S) (hk : D.length = k) (h : k < n) : (sofar D n).set k x = sofar (D ++ [x]) n := by
  subst hk
  unfold sofar
  obtain ⟨m, hm⟩ : ∃ m, n - D.length = m + 1 := ⟨n - D.length - 1, by omega⟩
  rw [hm, List.set_append_right (h := Nat.le_refl _), Nat.sub_self, List.replicate_succ, List.set_cons_zero, List.length_append, List.length_singleton, show n - (D.length + 1) = m by omega, List.append_assoc]
  rfl
theorem Bt.sofar_full (D : List S) (n : Nat) (h : D.length = n) : sofar D n = D := by unfold sofar; rw [show n - D.length = 0 by omega]; simp
end Go.Proofs.YthlagpmacnijfaaDoor

namespace Go.Proofs.YthlagpmacnijfaaDoor
open Go.RowKit

/-- What Parse hands back. -/
def ParsePost (s : ByteArray) (w : World) (e : Ending) (w' : World) : Prop :=
  (∃ a c, e = .returned (.tuple #[.slice a (Bt.pOut s).length c, .int .i64 ((Bt.pBad s).1 : Int), .int .i64 ((Bt.pBad s).2 : Int)]) ∧ SetsAt w' w'.heap.size a (Bt.pOut s).length (Bt.pOut s)) ∧ Below w.heap.size w w'
theorem parsePost_err {s : ByteArray} {w w' : World} {i r : Nat} (hb : Bt.pBad s = (i, r)) (hr : r ≠ 0) (hB : Below w.heap.size w w') : ParsePost s w (.returned (.tuple #[.slice none 0 0, .int .i64 (i : Int), .int .i64 (r : Int)])) w' := by
  have ho := Bt.pOut_err (s := s) (by rw [hb]; exact hr)
  refine ⟨⟨none, 0, ?_, ?_⟩, hB⟩
  · rw [hb, ho]; rfl
  · rw [ho]; exact SetsAt.nil _ _ _
/-- What a list of settings may hold. -/
def SetsOk (l : List Bt.S) : Prop := ∀ s ∈ l, s.t.size ≤ 1048576 ∧ s.a < 4294967296 ∧ -9223372036854775808 ≤ s.n ∧ s.n ≤ 9223372036854775807
end Go.Proofs.YthlagpmacnijfaaDoor
