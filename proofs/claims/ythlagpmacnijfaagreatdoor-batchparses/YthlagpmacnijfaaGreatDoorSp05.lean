/- Words of our own for memory, more: rows of the call's own that grow by an append of whatever slice; blocks that are known whole; words of 32 bits. -/
import Derived.WideShapes
import Derived.Laws.StructEq
import Derived.Test.YthlagpmacnijfaaGreatDoorSp03
import Derived.Test.YthlagpmacnijfaaGreatDoorSp04
import Derived.Deep.DeepCutAuto
import Derived.Test.YthlagpmacnijfaaGreatDoorSp01
import Derived.Test.YthlagpmacnijfaaGreatDoorStructMem
import Derived.Shelf.Abstract
import Derived.Test.YthlagpmacnijfaaGreatDoorRows
import Derived.Test.YthlagpmacnijfaaGreatDoorMem
import Derived.Test.YthlagpmacnijfaaGreatDoorMemG
import Derived.Deep.AppendLies
import Derived.Deep.WholeRow
import Derived.Laws.CopyOwn
namespace Go.Proofs.YthlagpmacnijfaaGreatDoor

theorem text_eq (x y : ByteArray) : x = y ∨ (x.toList == y.toList) = false := by
  by_cases h : x = y
  · exact .inl h
  · refine .inr (beq_eq_false_iff_ne.2 fun e => h ?_)
    rw [ByteArray.toList_eq, ByteArray.toList_eq] at e
    exact WideShapes.bytes_inj e
theorem line_parts (xa ya xb yb : ByteArray) : (xa = ya ∧ xb = yb) ∨ (xa.toList == ya.toList) = false ∨ (xa = ya ∧ (xb.toList == yb.toList) = false) := by
  rcases text_eq xa ya with h | h
  · rcases text_eq xb yb with g | g
    · exact .inl ⟨h, g⟩
    · exact .inr (.inr ⟨h, g⟩)
  · exact .inr (.inl h)
end Go.Proofs.YthlagpmacnijfaaGreatDoor

namespace Go.Proofs.YthlagpmacnijfaaGreatDoor
open Go.RowKit

set_option maxRecDepth 20000 in
set_option maxHeartbeats 16000000 in
theorem ref_SettingOf (l : Ln.L) (w : World) (hs : l.v.size ≤ 1048576) (hT : AllTabs w) :
    Calls Tryz.prog 7 #[lineV l] w fun e w' => e = .returned (.tuple #[setV (Bt.ofLine l).1, .int .i64 ((Bt.ofLine l).2 : Int)]) ∧ Below w.heap.size w w' := by
  obtain ⟨w1, hw1⟩ : ∃ w1, w1 = (w.alloc (.cells #[.string l.k, .string l.v] 23)).alloc (.cells #[.int .i64 0, .string ⟨#[]⟩, .int .i64 0, .int .u32 0, .int .i64 0] 28) := ⟨_, rfl⟩
  have hA : Below w.heap.size w w1 := by rw [hw1]; exact ((Below.refl _ _).alloc (Nat.le_refl _) _).alloc (by simp) _
  have hG : Blk w1 w.heap.size 23 [.string l.k, .string l.v] := by rw [hw1]; exact (Blk.new w 23 [.string l.k, .string l.v]).kept ((Below.refl _ _).alloc (Nat.le_refl _) _)
  have hR : Blk w1 (w.heap.size + 1) 28 zeroC := by
    rw [hw1]
    have := Blk.new (w.alloc (.cells #[.string l.k, .string l.v] 23)) 28 zeroC
    rwa [show (w.alloc (.cells #[.string l.k, .string l.v] 23)).heap.size = w.heap.size + 1 by simp] at this
  have HA := Lib.hid hA
  have HG := Lib.hid hG
  have HR := Lib.hid hR
  have HW1 := Lib.hid hw1
  have HT := Lib.hid hT
  have HN := Lib.hid (fun W => ref_names W)
  clear hA hG hR hw1 hT
  obtain ⟨K, V⟩ := l
  simp only at hs HG HW1
  unfold lineV
  go_enter Tryz.func7, Tryz.ntmps7
  go_upto_region 1 with fail
  rw [← HW1.out]
  go_wp2_with fail
  refine (HN.out w1).mono ?_
  rintro e w2 ⟨rfl, hnm, hb2⟩
  have HM2 := Lib.hid hnm
  have HG2 := Lib.hid (HG.out.kept hb2)
  have HR2 := Lib.hid (HR.out.kept hb2)
  have HB2 := Lib.hid (HA.out.trans (hb2.mono HA.out.size))
  obtain ⟨M, hM⟩ : ∃ M, M = w1.heap.size := ⟨_, rfl⟩
  rw [← hM] at HM2 ⊢
  clear hb2 hnm hM HG HR HN
  go_wp2
  go_loopw [16] (fun i wr => ∃ k : Nat, k ≤ 11 ∧ i = .int .i64 (k : Int) ∧ Hid (∀ j, 1 ≤ j → j < k → Bt.nameOf j ≠ K) ∧ Hid (Below w2.heap.size w2 wr)) (fun i _ => 11 - (intOf i).toNat)
  case atStart => exact ⟨0, by decide, rfl, Lib.hid (fun j h1 h2 => by omega), Lib.hid (Below.refl _ _)⟩
  case round =>
    obtain ⟨k, hk, rfl, Ha, HBr⟩ := hrel
    obtain ⟨wo, hwo⟩ : ∃ wo, wo = wr := ⟨_, rfl⟩
    subst hwo
    have hGo := HG2.out.kept HBr.out
    have g0 := hGo.cell 0 rfl
    have g1 := hGo.cell 1 rfl
    have HBo := Lib.hid (HB2.out.trans (HBr.out.mono HB2.out.size))
    by_cases hlt : k < 11
    · have i11 : (k : Int) < 11 := by omega
      have hcell := (HM2.out.kept HBr.out).cell k (nameCells_at k (by omega))
      obtain ⟨X, hX⟩ : ∃ X, X = Bt.nameOf k := ⟨_, rfl⟩
      have HX := Lib.hid hX
      rw [← hX] at hcell
      clear hX
      by_cases h0 : k = 0
      · have q0 : ((k : Int) == 0) = true := by rw [h0]; rfl
        have Hn := Lib.hid (show ∀ j, 1 ≤ j → j < k + 1 → Bt.nameOf j ≠ K from fun j h1 h2 => by omega)
        clear h0 hGo
        go_wp2
        go_roundw
        case rel => exact ⟨k + 1, by omega, by go_num, Hn, HBr⟩
        case measure => simp [intOf]; omega
      · have q0 : ((k : Int) == 0) = false := by simpa using h0
        rcases text_eq X K with hXK | q1
        rotate_left
        · have Hn := Lib.hid (show ∀ j, 1 ≤ j → j < k + 1 → Bt.nameOf j ≠ K from fun j h1 h2 => by
            by_cases hj : j < k
            · exact Ha.out j h1 hj
            · obtain rfl : j = k := by omega
              rw [← HX.out]
              intro e
              subst e
              simp at q1)
          clear h0 hGo
          go_wp2
          go_roundw
          case rel => exact ⟨k + 1, by omega, by go_num, Hn, HBr⟩
          case measure => simp [intOf]; omega
        · subst hXK
          have h1k : 1 ≤ k := by omega
          have HK := Lib.hid (Bt.kind_some h1k (by omega) HX.out.symm)
          have HTo := Lib.hid (HT.out.below HBo.out)
          have HNu := Lib.hid (ref_NumberOf V 65535 wo (by omega) HTo.out.1 HTo.out.2.1)
          have HNe := Lib.hid (fun W (hW : Below wo.heap.size wo W) => ref_NetParsed V W hs (HTo.out.1.below hW) (HTo.out.2.1.below hW) (HTo.out.2.2.below hW))
          have HCl : Hid (Bt.cands k V = [⟨(k : Int), ⟨#[]⟩, 0, 0, 0⟩, ⟨(k : Int), V, 0, 0, 0⟩, ⟨(k : Int), ⟨#[]⟩, (Ad.numOut V.data.toList 65535 : Int), 0, 0⟩, ⟨(k : Int), ⟨#[]⟩, 0, Nt.parAddr V.data.toList, (Nt.parBits V.data.toList : Int)⟩]) := Lib.hid rfl
          have HOk := Lib.hid (Bt.cands_ok k V hs)
          generalize Ad.numOut V.data.toList 65535 = N at *
          generalize Nt.parAddr V.data.toList = A at *
          generalize (Nt.parBits V.data.toList : Int) = B at *
          generalize Ad.numErr V.data.toList 65535 = e1 at *
          generalize Nt.parErr V.data.toList = e2 at *
          unfold netV at HNe
          clear h0 Ha HX
          go_wp2_with fail
          refine HNu.out.mono ?_
          rintro e w3 ⟨rfl, hb3⟩
          have hG3 := HG2.out.kept (HBr.out.trans (hb3.mono HBr.out.size))
          have g3 := hG3.cell 1 rfl
          have HB3 := Lib.hid hb3
          clear hb3 hG3 hGo g0 g1 hcell
          go_wp2_with fail
          refine (HNe.out w3 HB3.out).mono ?_
          rintro e w4 ⟨rfl, hb4⟩
          have hG4 := HG2.out.kept (HBr.out.trans ((HB3.out.trans (hb4.mono HB3.out.size)).mono HBr.out.size))
          have g4 := hG4.cell 1 rfl
          have hgl := hG4.lt
          have HB4 := Lib.hid (HB3.out.trans (hb4.mono HB3.out.size))
          obtain ⟨w5, hw5⟩ : ∃ w5, w5 = (w4.alloc (.cells #[.int .u32 (A : Int), .int .i64 B] 26)).alloc (.cells #[.int .i64 (k : Int), .string ⟨#[]⟩, .int .i64 0, .int .u32 0, .int .i64 0, .int .i64 (k : Int), .string V, .int .i64 0, .int .u32 0, .int .i64 0, .int .i64 (k : Int), .string ⟨#[]⟩, .int .i64 (N : Int), .int .u32 0, .int .i64 0, .int .i64 (k : Int), .string ⟨#[]⟩, .int .i64 0, .int .u32 (A : Int), .int .i64 B] 28) := ⟨_, rfl⟩
          have HB5 := Lib.hid (show Below wo.heap.size wo w5 by rw [hw5]; exact (HB4.out.alloc HB4.out.size _).alloc (by have := HB4.out.size; simp; omega) _)
          have HAt : Hid (SetsAt w5 w5.heap.size (some ⟨w4.heap.size + 1, 0, none⟩) 4 (Bt.cands k V)) := Lib.hid (by
            rw [HCl.out, hw5]
            refine sets_of_row (t := 28) ?_
            have := heap_alloc_last (w4.alloc (.cells #[.int .u32 (A : Int), .int .i64 B] 26)) (.cells #[.int .i64 (k : Int), .string ⟨#[]⟩, .int .i64 0, .int .u32 0, .int .i64 0, .int .i64 (k : Int), .string V, .int .i64 0, .int .u32 0, .int .i64 0, .int .i64 (k : Int), .string ⟨#[]⟩, .int .i64 (N : Int), .int .u32 0, .int .i64 0, .int .i64 (k : Int), .string ⟨#[]⟩, .int .i64 0, .int .u32 (A : Int), .int .i64 B] 28)
            rwa [show (w4.alloc (.cells #[.int .u32 (A : Int), .int .i64 B] 26)).heap.size = w4.heap.size + 1 by simp] at this)
          have HW5 := Lib.hid hw5
          have Hlen : Hid ((Bt.cands k V).length = 4) := Lib.hid (by rw [HCl.out]; rfl)
          have HB5o := Lib.hid (HBo.out.trans (HB5.out.mono HBo.out.size))
          have HG5 := Lib.hid (HG2.out.kept (HBr.out.trans (HB5.out.mono HBr.out.size)))
          have HR5 := Lib.hid (HR2.out.kept (HBr.out.trans (HB5.out.mono HBr.out.size)))
          clear hb4 hG4 hw5 g3
          go_wp2
          rw [← HW5.out]
          go_loopw [55] (fun i wr => ∃ j : Nat, j ≤ 4 ∧ i = .int .i64 (j : Int) ∧ Hid (∀ x ∈ (Bt.cands k V).take j, Bt.fits ⟨X, V⟩ x = false) ∧ Hid (Below w5.heap.size w5 wr)) (fun i _ => 4 - (intOf i).toNat)
          case atStart => exact ⟨0, by decide, rfl, Lib.hid (fun x hx => by simp at hx), Lib.hid (Below.refl _ _)⟩
          case round =>
            obtain ⟨j, hj, rfl, Hno0, HBi⟩ := hrel
            obtain ⟨wi, hwi⟩ : ∃ wi, wi = wr := ⟨_, rfl⟩
            subst hwi
            have HBio := Lib.hid (HB5o.out.trans (HBi.out.mono HB5o.out.size))
            by_cases hlt2 : j < 4
            · have i4 : (j : Int) < 4 := by omega
              have hjl : j < (Bt.cands k V).length := by rw [Hlen.out]; exact hlt2
              obtain ⟨bb, oo, ee, _, hc⟩ := (HAt.out.below HBi.out).2 (by decide)
              cases ee
              obtain ⟨c0, c1, c2, c3, c4⟩ := hc j hjl
              rw [Nat.zero_add] at c0 c1 c2 c3 c4
              have Hcok := Lib.hid (HOk.out _ (List.getElem_mem hjl))
              have Htk : Hid ((Bt.cands k V).take (j + 1) = (Bt.cands k V).take j ++ [(Bt.cands k V)[j]]) := Lib.hid (List.take_succ_eq_append_getElem hjl)
              have Hpk := Lib.hid (fun hf => Bt.pick_at j hjl Hno0.out hf)
              clear hc
              generalize (Bt.cands k V)[j] = cc at *
              have Hst := Lib.hid (fun (hf : Bt.fits ⟨X, V⟩ cc = false) => (show ∀ x ∈ (Bt.cands k V).take (j + 1), Bt.fits ⟨X, V⟩ x = false by
                intro x hx
                rw [Htk.out] at hx
                rcases List.mem_append.1 hx with hx | hx
                · exact Hno0.out x hx
                · rw [List.mem_singleton.1 hx]; exact hf))
              have HLn := Lib.hid (fun W (hW : Below w.heap.size w W) => ref_SettingLine cc W Hcok.out.1 Hcok.out.2.1 Hcok.out.2.2.1 Hcok.out.2.2.2 (HT.out.below hW))
              obtain ⟨w6, hw6⟩ : ∃ w6, w6 = wi.alloc (.cells #[.int .i64 cc.k, .string cc.t, .int .i64 cc.n, .int .u32 (cc.a : Int), .int .i64 cc.b] 28) := ⟨_, rfl⟩
              have hA6 : Below wi.heap.size wi w6 := by rw [hw6]; exact (Below.refl _ _).alloc (Nat.le_refl _) _
              have HC6 := Lib.hid (show Blk w6 wi.heap.size 28 [.int .i64 cc.k, .string cc.t, .int .i64 cc.n, .int .u32 (cc.a : Int), .int .i64 cc.b] by rw [hw6]; exact Blk.new _ _ _)
              have HA6 := Lib.hid hA6
              have HW6 := Lib.hid hw6
              have HB6 := Lib.hid (HBio.out.trans (hA6.mono HBio.out.size))
              clear hw6 hA6
              have Hfe := Lib.hid (fun (h : Bt.err cc ≠ 0) => Bt.fits_err (l := ⟨X, V⟩) h)
              have Hfl := Lib.hid (fun (h : Bt.line cc ≠ ⟨X, V⟩) => Bt.fits_line h)
              have Hfo := Lib.hid (fun (h : Bt.err cc = 0) (h2 : Bt.line cc = ⟨X, V⟩) => Bt.fits_ok h h2)
              obtain ⟨ck, ct, cn, ca, cb⟩ := cc
              unfold setV at HLn
              generalize hLL : Bt.line ⟨ck, ct, cn, ca, cb⟩ = L at *
              clear hLL
              obtain ⟨LX, LY⟩ := L
              unfold lineV at HLn
              go_upto_region 10 with fail
              rw [← HW6.out]
              obtain ⟨s0, s1, s2, s3, s4⟩ := (HC6.out.facts5).1
              go_wp2_with fail
              refine (HLn.out w6 HB6.out).mono ?_
              rintro e w7 ⟨rfl, hb7⟩
              have hC7 := HC6.out.kept hb7
              obtain ⟨m0, m1, m2, m3, m4⟩ := (hC7.facts5).1
              have hl11 := hC7.lt
              have hB57 := HBi.out.trans ((HA6.out.trans (hb7.mono HA6.out.size)).mono HBi.out.size)
              have hG7 := HG5.out.kept hB57
              have q0 := hG7.cell 0 rfl
              have q1 := hG7.cell 1 rfl
              have hlG := hG7.lt
              have HR7 := Lib.hid (HR5.out.kept hB57)
              have hlR := HR7.out.lt
              have HB7 := Lib.hid (HB6.out.trans (hb7.mono HB6.out.size))
              have HB8 := Lib.hid (hB57.alloc hB57.size (.cells #[.string LX, .string LY] 23))
              clear hC7 hG7 hB57 hb7 s0 s1 s2 s3 s4 c0 c1 c2 c3 c4
              by_cases he : Bt.err ⟨ck, ct, cn, ca, cb⟩ = 0
              rotate_left
              · have Hno := Lib.hid (Hst.out (Hfe.out he))
                have qe : ((Bt.err ⟨ck, ct, cn, ca, cb⟩ : Int) == 0) = false := by simpa using he
                clear he Hfe Hfl Hfo
                generalize Bt.err ⟨ck, ct, cn, ca, cb⟩ = r at *
                go_wp2
                go_roundw
                case rel => exact ⟨j + 1, by omega, by go_num, Hno, HB8⟩
                case measure => simp [intOf]; omega
              · have Hyes := Lib.hid (fun h2 => Hpk.out (Hfo.out he h2))
                rw [he]
                clear he Hfe Hfo
                rcases line_parts LX X LY V with ⟨rfl, rfl⟩ | z0 | ⟨rfl, z0⟩
                · have Hres : Hid (Bt.ofLine ⟨LX, LY⟩ = (⟨ck, ct, cn, ca, cb⟩, 0)) := Lib.hid (by
                    unfold Bt.ofLine
                    rw [HK.out, if_neg (by omega)]
                    exact Hyes.out rfl)
                  have r0 := HR7.out.cell 0 rfl
                  have r1 := HR7.out.cell 1 rfl
                  have r2 := HR7.out.cell 2 rfl
                  have r3 := HR7.out.cell 3 rfl
                  have r4 := HR7.out.cell 4 rfl
                  have f0 := HR7.out.frozen (by decide) 0
                  have f1 := HR7.out.frozen (by decide) 1
                  have f2 := HR7.out.frozen (by decide) 2
                  have f3 := HR7.out.frozen (by decide) 3
                  have f4 := HR7.out.frozen (by decide) 4
                  have HE := Lib.hid (HR7.out.set5 (.int .i64 ck) (.string ct) (.int .i64 cn) (.int .u32 (ca : Int)) (.int .i64 cb))
                  have HBE := Lib.hid (below_set5 HB7.out (g := w.heap.size + 1) (Nat.le_succ _) (.int .i64 ck) (.string ct) (.int .i64 cn) (.int .u32 (ca : Int)) (.int .i64 cb))
                  clear Hyes Hfl
                  go_wp2
                  exact bodyPost_ret (ret_cell (load_set (HE.out.kept ((Below.refl _ _).alloc (Nat.le_refl _) _)) rfl) Tryz.results7 rfl rfl) rfl ⟨by rw [Hres.out]; rfl, HBE.out.alloc HBE.out.size _⟩
                · have Hno := Lib.hid (Hst.out (Hfl.out (fun e => by injection e with e1 e2; subst e1; simp at z0)))
                  clear Hyes Hfl
                  go_wp2
                  go_roundw
                  case rel => exact ⟨j + 1, by omega, by go_num, Hno, HB8⟩
                  case measure => simp [intOf]; omega
                · have Hno := Lib.hid (Hst.out (Hfl.out (fun e => by injection e with e1 e2; subst e2; simp at z0)))
                  clear Hyes Hfl
                  go_wp2
                  go_roundw
                  case rel => exact ⟨j + 1, by omega, by go_num, Hno, HB8⟩
                  case measure => simp [intOf]; omega
            · obtain rfl : j = 4 := by omega
              have hall : ∀ x ∈ Bt.cands k V, Bt.fits ⟨X, V⟩ x = false := by
                have := Hno0.out
                rwa [List.take_of_length_le (by rw [Hlen.out]; exact Nat.le_refl _)] at this
              have Hres : Hid (Bt.ofLine ⟨X, V⟩ = (Bt.zeroS, 3)) := Lib.hid (by
                unfold Bt.ofLine
                rw [HK.out, if_neg (by omega)]
                exact Bt.pick_none hall)
              have hRo := HR5.out.kept HBi.out
              have r0 := hRo.cell 0 rfl
              have r1 := hRo.cell 1 rfl
              have r2 := hRo.cell 2 rfl
              have r3 := hRo.cell 3 rfl
              have r4 := hRo.cell 4 rfl
              have f0 := hRo.frozen (by decide) 0
              have f1 := hRo.frozen (by decide) 1
              have f2 := hRo.frozen (by decide) 2
              have f3 := hRo.frozen (by decide) 3
              have f4 := hRo.frozen (by decide) 4
              have HE := Lib.hid (hRo.set5 (.int .i64 0) (.string ⟨#[]⟩) (.int .i64 0) (.int .u32 0) (.int .i64 0))
              have HBE := Lib.hid (below_set5 HBio.out (g := w.heap.size + 1) (Nat.le_succ _) (.int .i64 0) (.string ⟨#[]⟩) (.int .i64 0) (.int .u32 0) (.int .i64 0))
              clear hall hRo
              rw [show ((4 : Nat) : Int) = (4 : Int) from rfl]
              go_wp2
              exact bodyPost_ret (ret_cell (load_set HE.out rfl) Tryz.results7 rfl rfl) rfl ⟨by rw [Hres.out]; rfl, HBE.out⟩
    · obtain rfl : k = 11 := by omega
      have Hk : Hid (Bt.ofLine ⟨K, V⟩ = (Bt.zeroS, 2)) := Lib.hid (by
        unfold Bt.ofLine
        rw [if_pos (Bt.kind_none fun j h1 h2 => Ha.out j h1 (by omega))])
      have hRo := HR2.out.kept HBr.out
      have r0 := hRo.cell 0 rfl
      have r1 := hRo.cell 1 rfl
      have r2 := hRo.cell 2 rfl
      have r3 := hRo.cell 3 rfl
      have r4 := hRo.cell 4 rfl
      have f0 := hRo.frozen (by decide) 0
      have f1 := hRo.frozen (by decide) 1
      have f2 := hRo.frozen (by decide) 2
      have f3 := hRo.frozen (by decide) 3
      have f4 := hRo.frozen (by decide) 4
      have HE := Lib.hid (hRo.set5 (.int .i64 0) (.string ⟨#[]⟩) (.int .i64 0) (.int .u32 0) (.int .i64 0))
      have HBE := Lib.hid (below_set5 HBo.out (g := w.heap.size + 1) (Nat.le_succ _) (.int .i64 0) (.string ⟨#[]⟩) (.int .i64 0) (.int .u32 0) (.int .i64 0))
      clear hGo hRo
      rw [show ((11 : Nat) : Int) = (11 : Int) from rfl]
      go_wp2
      exact bodyPost_ret (ret_cell (load_set HE.out rfl) Tryz.results7 rfl rfl) rfl ⟨by rw [Hk.out]; rfl, HBE.out⟩
end Go.Proofs.YthlagpmacnijfaaGreatDoor

namespace Go.Proofs.YthlagpmacnijfaaGreatDoor
open Go.RowKit

/-- The function F tells of a byte what P tells. -/
def MayAt (F : Nat) (P : UInt8 → Bool) : Prop := (∀ (args : Array Value) (W : World), (callFunc F args).run Tryz.prog W = .ok (.enter F args) W) ∧ ∀ (c : UInt8) (W : World), Calls Tryz.prog F #[.int .u8 (c.toNat : Int)] W fun e W' => e = .returned (.bool (P c)) ∧ W' = W

set_option maxHeartbeats 400000 in
theorem line_inKey (c : UInt8) (w : World) : Calls Tryz.prog 65 #[.int .u8 (c.toNat : Int)] w fun e w' => e = .returned (.bool (Ln.inKey c)) ∧ w' = w := by
  have hc := c.toNat_lt
  by_cases h1 : 97 ≤ c.toNat
  · have d1 : decide ((97 : Int) ≤ (c.toNat : Int)) = true := decide_eq_true (by omega)
    by_cases h2 : c.toNat ≤ 122
    · have d2 : decide ((c.toNat : Int) ≤ 122) = true := decide_eq_true (by omega)
      have He := Lib.hid (show Ln.inKey c = true by unfold Ln.inKey; rw [decide_eq_true ⟨h1, h2⟩]; rfl)
      clear h1 h2
      go_enter Tryz.func65, Tryz.ntmps65
      go_wp2
      go_ret
      rw [He.out]
      exact ⟨rfl, rfl⟩
    · have d2 : decide ((c.toNat : Int) ≤ 122) = false := decide_eq_false (by omega)
      have d3 : ((c.toNat : Int) == 95) = false := by simp; omega
      have He := Lib.hid (show Ln.inKey c = false by unfold Ln.inKey; rw [decide_eq_false (by omega), decide_eq_false (by omega)]; rfl)
      clear h1 h2
      go_enter Tryz.func65, Tryz.ntmps65
      go_wp2
      go_ret
      rw [He.out]
      exact ⟨rfl, rfl⟩
  · have d1 : decide ((97 : Int) ≤ (c.toNat : Int)) = false := decide_eq_false (by omega)
    by_cases h2 : c.toNat = 95
    · have d3 : ((c.toNat : Int) == 95) = true := by simp; omega
      have He := Lib.hid (show Ln.inKey c = true by unfold Ln.inKey; rw [decide_eq_true h2, Bool.or_true])
      clear h1 h2
      go_enter Tryz.func65, Tryz.ntmps65
      go_wp2
      go_ret
      rw [He.out]
      exact ⟨rfl, rfl⟩
    · have d3 : ((c.toNat : Int) == 95) = false := by simp; omega
      have He := Lib.hid (show Ln.inKey c = false by unfold Ln.inKey; rw [decide_eq_false (by omega), decide_eq_false h2]; rfl)
      clear h1 h2
      go_enter Tryz.func65, Tryz.ntmps65
      go_wp2
      go_ret
      rw [He.out]
      exact ⟨rfl, rfl⟩
set_option maxHeartbeats 400000 in
theorem line_inValue (c : UInt8) (w : World) : Calls Tryz.prog 66 #[.int .u8 (c.toNat : Int)] w fun e w' => e = .returned (.bool (Ln.inVal c)) ∧ w' = w := by
  have hc := c.toNat_lt
  by_cases h1 : 33 ≤ c.toNat
  · have d1 : decide ((33 : Int) ≤ (c.toNat : Int)) = true := decide_eq_true (by omega)
    by_cases h2 : c.toNat ≤ 126
    · have d2 : decide ((c.toNat : Int) ≤ 126) = true := decide_eq_true (by omega)
      have He := Lib.hid (show Ln.inVal c = true by unfold Ln.inVal; rw [decide_eq_true ⟨h1, h2⟩])
      clear h1 h2
      go_enter Tryz.func66, Tryz.ntmps66
      go_wp2
      go_ret
      rw [He.out]
      exact ⟨rfl, rfl⟩
    · have d2 : decide ((c.toNat : Int) ≤ 126) = false := decide_eq_false (by omega)
      have He := Lib.hid (show Ln.inVal c = false by unfold Ln.inVal; rw [decide_eq_false (by omega)])
      clear h1 h2
      go_enter Tryz.func66, Tryz.ntmps66
      go_wp2
      go_ret
      rw [He.out]
      exact ⟨rfl, rfl⟩
  · have d1 : decide ((33 : Int) ≤ (c.toNat : Int)) = false := decide_eq_false (by omega)
    have He := Lib.hid (show Ln.inVal c = false by unfold Ln.inVal; rw [decide_eq_false (by omega)])
    clear h1
    go_enter Tryz.func66, Tryz.ntmps66
    go_wp2
    go_ret
    rw [He.out]
    exact ⟨rfl, rfl⟩
theorem may_inKey : MayAt 65 Ln.inKey := ⟨enters_of Tryz.func65 (by kernel_rfl) rfl, line_inKey⟩
theorem may_inValue : MayAt 66 Ln.inVal := ⟨enters_of Tryz.func66 (by kernel_rfl) rfl, line_inValue⟩

set_option maxHeartbeats 800000 in
theorem line_all (F : Nat) (P : UInt8 → Bool) (hF : MayAt F P) (s : ByteArray) (w : World) (hs : s.size ≤ 1000) :
    Calls Tryz.prog 64 #[.string s, .func (.func F) #[] #[]] w fun e w' => e = .returned (.bool (s.data.toList.all P)) ∧ w' = w := by
  have hent := hF.1
  have HF := Lib.hid hF.2
  have hsl : s.data.toList.length = s.size := by simp
  have Hsl := Lib.hid hsl
  clear hF hsl
  go_enter Tryz.func64, Tryz.ntmps64
  go_wp2
  go_loopw [8] (fun i wr => ∃ k : Nat, k ≤ s.size ∧ i = .int .i64 k ∧ Hid ((s.data.toList.take k).all P = true) ∧ wr = w) (fun i _ => s.size - (intOf i).toNat)
  case atStart => exact ⟨0, Nat.zero_le _, rfl, Lib.hid (by simp), rfl⟩
  case round =>
    obtain ⟨k, hk, rfl, Ha, hw⟩ := hrel
    have Hw := Lib.hid hw
    clear hw
    by_cases hlt : k < s.size
    · have hkl : k < s.data.toList.length := by rw [Hsl.out]; exact hlt
      have HC := Lib.hid (HF.out s[k] wr)
      have Ht : Hid (s.data.toList.take (k + 1) = s.data.toList.take k ++ [s[k]]) := Lib.hid (List.take_succ_eq_append_getElem hkl)
      have Hm : Hid (s[k] ∈ s.data.toList) := Lib.hid (List.getElem_mem hkl)
      cases hp : P s[k] with
      | true =>
        rw [hp] at HC
        have Hr := Lib.hid (show (s.data.toList.take (k + 1)).all P = true by rw [Ht.out, List.all_append, Ha.out]; simp [hp])
        clear hp
        go_wp2_with fail
        refine HC.out.mono ?_
        rintro e w2 ⟨rfl, rfl⟩
        go_wp2
        go_roundw
        case rel => exact ⟨k + 1, by omega, by go_num, Hr, Hw.out⟩
        case measure => simp [intOf]; omega
      | false =>
        rw [hp] at HC
        have Hr := Lib.hid (show s.data.toList.all P = false by rw [List.all_eq_false]; exact ⟨s[k], Hm.out, by simp [hp]⟩)
        clear hp
        go_wp2_with fail
        refine HC.out.mono ?_
        rintro e w2 ⟨rfl, rfl⟩
        go_wp2
        go_ret
        rw [Hr.out]
        exact ⟨rfl, Hw.out⟩
    · have Hr := Lib.hid (show s.data.toList.all P = true by
        have h := Ha.out
        rwa [List.take_of_length_le (by rw [Hsl.out]; omega)] at h)
      clear Ha
      go_wp2
      go_ret
      rw [Hr.out]
      exact ⟨rfl, Hw.out⟩

/-- The three tests of a line's sizes, as the walks meet them. -/
theorem sized_cases (x : Ln.L) : (Ln.sized x = false ∧ (x.k.toList.isEmpty = true ∨ (x.k.toList.isEmpty = false ∧ decide ((30 : Int) < (x.k.size : Int)) = true) ∨ (x.k.toList.isEmpty = false ∧ decide ((30 : Int) < (x.k.size : Int)) = false ∧ decide ((70 : Int) < (x.v.size : Int)) = true))) ∨
    (Ln.sized x = true ∧ x.k.toList.isEmpty = false ∧ decide ((30 : Int) < (x.k.size : Int)) = false ∧ decide ((70 : Int) < (x.v.size : Int)) = false ∧ x.k.size ≤ 30 ∧ x.v.size ≤ 70) := by
  have he : x.k.toList.isEmpty = decide (x.k.size = 0) := by
    rw [ByteArray.toList_eq]
    have : x.k.data.toList.length = x.k.size := by simp
    cases h : x.k.data.toList with
    | nil =>
      have hz : x.k.size = 0 := by rw [h] at this; exact this.symm
      rw [hz]; rfl
    | cons a r =>
      have hz : x.k.size ≠ 0 := by rw [h, List.length_cons] at this; omega
      rw [decide_eq_false hz]; rfl
  rw [he]
  unfold Ln.sized
  by_cases h1 : x.k.size = 0
  · exact .inl ⟨by simp [h1], .inl (by simp [h1])⟩
  by_cases h2 : x.k.size ≤ 30
  · by_cases h3 : x.v.size ≤ 70
    · exact .inr ⟨by simp [h2, h3]; omega, by simp [h1], by simp; omega, by simp; omega, h2, h3⟩
    · exact .inl ⟨by simp [h3], .inr (.inr ⟨by simp [h1], by simp; omega, by simp; omega⟩)⟩
  · exact .inl ⟨by simp [h2], .inr (.inl ⟨by simp [h1], by simp; omega⟩)⟩

set_option maxHeartbeats 800000 in
theorem line_Check (x : Ln.L) (w : World) : Calls Tryz.prog 41 #[lineV x] w fun e w' => e = .returned (.int .i64 (Ln.err x : Int)) ∧ Below w.heap.size w w' := by
  obtain ⟨k, v⟩ := x
  have HC := Lib.hid (sized_cases ⟨k, v⟩)
  obtain ⟨w1, hw1⟩ : ∃ w1, w1 = w.alloc (.cells #[.string k, .string v] 23) := ⟨_, rfl⟩
  have hB : Below w.heap.size w w1 := by rw [hw1]; exact (Below.refl _ _).alloc (Nat.le_refl _) _
  have HB := Lib.hid hB
  have hb : Blk w1 w.heap.size 23 [.string k, .string v] := by rw [hw1]; exact Blk.new _ _ _
  have c0 := hb.cell 0 rfl
  have c1 := hb.cell 1 rfl
  clear hB hb
  unfold lineV
  rcases HC.out with ⟨hz, h⟩ | ⟨hz, d0, d1, d2, z1, z2⟩
  · have Hr := Lib.hid (Ln.err_size hz)
    clear HC hz
    rcases h with d0 | ⟨d0, d1⟩ | ⟨d0, d1, d2⟩
    all_goals
      go_enter Tryz.func41, Tryz.ntmps41
      go_wp2
      rw [← hw1]
      go_ret
      rw [Hr.out]
      exact ⟨rfl, HB.out⟩
  · clear HC
    have HK := Lib.hid (line_all _ _ may_inKey k w1 (Nat.le_trans z1 (by decide)))
    have HV := Lib.hid (line_all _ _ may_inValue v w1 (Nat.le_trans z2 (by decide)))
    cases hk : k.data.toList.all Ln.inKey with
    | false =>
      have Hr := Lib.hid (Ln.err_form hz (show Ln.formed ⟨k, v⟩ = false by unfold Ln.formed; rw [hk]; rfl))
      rw [hk] at HK
      clear hz hk HV
      go_enter Tryz.func41, Tryz.ntmps41
      go_wp2_with fail
      rw [← hw1]
      clear hw1
      refine HK.out.mono ?_
      rintro e w2 ⟨rfl, rfl⟩
      go_wp2
      go_ret
      rw [Hr.out]
      exact ⟨rfl, HB.out⟩
    | true =>
      rw [hk] at HK
      cases hv : v.data.toList.all Ln.inVal with
      | false =>
        have Hr := Lib.hid (Ln.err_form hz (show Ln.formed ⟨k, v⟩ = false by unfold Ln.formed; rw [hv, Bool.and_false]))
        rw [hv] at HV
        clear hz hk hv
        go_enter Tryz.func41, Tryz.ntmps41
        go_wp2_with fail
        rw [← hw1]
        clear hw1
        refine HK.out.mono ?_
        rintro e w2 ⟨rfl, rfl⟩
        go_wp2_with fail
        refine HV.out.mono ?_
        rintro e w2 ⟨rfl, rfl⟩
        go_wp2
        go_ret
        rw [Hr.out]
        exact ⟨rfl, HB.out⟩
      | true =>
        have Hr := Lib.hid (Ln.err_ok hz (show Ln.formed ⟨k, v⟩ = true by unfold Ln.formed; rw [hk, hv]; rfl))
        rw [hv] at HV
        clear hz hk hv
        go_enter Tryz.func41, Tryz.ntmps41
        go_wp2_with fail
        rw [← hw1]
        clear hw1
        refine HK.out.mono ?_
        rintro e w2 ⟨rfl, rfl⟩
        go_wp2_with fail
        refine HV.out.mono ?_
        rintro e w2 ⟨rfl, rfl⟩
        go_wp2
        go_ret
        rw [Hr.out]
        exact ⟨rfl, HB.out⟩
end Go.Proofs.YthlagpmacnijfaaGreatDoor

namespace Go.Proofs.YthlagpmacnijfaaGreatDoor
open Go.RowKit

theorem bcells_one (bs : List UInt8) : ∀ v ∈ bcells bs, v.oneCell' = true := by
  intro v hv; simp only [bcells, List.mem_map] at hv; obtain ⟨c, _, rfl⟩ := hv; rfl

/-- A call has answered some bytes of its own and an error. -/
def SlicePost (err : Nat) (out : List UInt8) (w : World) (e : Ending) (w' : World) : Prop :=
  ∃ a n c, e = .returned (.tuple #[.slice a n c, .int .i64 (err : Int)]) ∧
    w'.ownsRow w.heap.size 5 1 (.slice a n c) out.length (bcells out) ∧ Below w.heap.size w w'
theorem slicePost_none {w wr : World} {err : Nat} (hb : Below w.heap.size w wr) : SlicePost err [] w (.returned (.tuple #[.slice none 0 0, .int .i64 (err : Int)])) wr :=
  ⟨none, 0, 0, rfl, World.ownsRow_nil _ _ _ _, hb⟩
theorem slicePost_own {w wr : World} {err n c : Nat} {a : Option Addr} {out : List UInt8} (ho : wr.ownsRow w.heap.size 5 1 (.slice a n c) n (bcells out)) (hb : Below w.heap.size w wr) :
    SlicePost err out w (.returned (.tuple #[.slice a n c, .int .i64 (err : Int)])) wr :=
  ⟨a, n, c, rfl, by have := ho.1; rw [bcells_length] at this; rw [this, Nat.mul_one]; exact ho, hb⟩
theorem info_u8 : ∃ i, Tryz.prog.info? 5 = some i ∧ i.zero = some (.int .u8 0) ∧ i.size = 1 ∧ i.bytes = 1 := info_parts (by kernel_rfl)
/-- The same at []byte of this program. -/
theorem wpL_append8 (w : World) {ops : Array Oper} {rest : List Oper} {o : Oper} {a : Act} {Q : Exit → Act → World → Prop} (hgd : o.guard = none) (s x : Operand)
    (ho : o.op = .call { callee := .builtin .append, args := #[s, x], argTypes := #[90, 90] }) (base : Nat)
    (av : Option Addr) (n c : Nat) (xs : List Value) (hs : a.eval s = .slice av n c) (hown : w.ownsRow base 5 1 (.slice av n c) n xs)
    (ao : Option Addr) (m cx : Nat) (news : List Value) (hx : a.eval x = .slice ao m cx) (hl : news.length = m) (hnil : ao = none → m = 0 ∧ cx = 0) (hnews : ∀ ad, ao = some ad → ∀ j u, news[j]? = some u → w.cell? (ad.add j) = some u)
    (h1 : ∀ u ∈ news, u.oneCell' = true) (hmax : n + m ≤ 140737488355328) (hbase : base ≤ w.heap.size)
    (h : ∀ a' c' w', w'.ownsRow base 5 1 (.slice a' (n + m) c') (n + m) (xs ++ news) → w.grownBy w' (Value.slice av n c).ownBlock → wpList Tryz.prog ops Q rest (a.put o.dst (.slice a' (n + m) c')) w') : wpList Tryz.prog ops Q (o :: rest) a w := by
  obtain ⟨i, hi, hz0, hz1, hz2⟩ := info_u8
  exact wpList_append_any w hgd s x 90 ho base 5 i (.int .u8 0) 1 Tryz.underlying90 hi hz0 hz1 hz2 rfl av n c xs hs hown ao m cx news hx hl hnil hnews h1 (by unfold maxLen; omega) (by omega) hbase h
/-- The same, and where the new row lies. -/
theorem wpL_append8_at (w : World) {ops : Array Oper} {rest : List Oper} {o : Oper} {a : Act} {Q : Exit → Act → World → Prop} (hgd : o.guard = none) (s x : Operand)
    (ho : o.op = .call { callee := .builtin .append, args := #[s, x], argTypes := #[90, 90] }) (base : Nat)
    (av : Option Addr) (n c : Nat) (xs : List Value) (hs : a.eval s = .slice av n c) (hown : w.ownsRow base 5 1 (.slice av n c) n xs)
    (ao : Option Addr) (m cx : Nat) (news : List Value) (hx : a.eval x = .slice ao m cx) (hl : news.length = m) (hnil : ao = none → m = 0 ∧ cx = 0) (hnews : ∀ ad, ao = some ad → ∀ j u, news[j]? = some u → w.cell? (ad.add j) = some u)
    (h1 : ∀ u ∈ news, u.oneCell' = true) (hmax : n + m ≤ 140737488355328) (hbase : base ≤ w.heap.size)
    (h : ∀ a' c' w', w'.ownsRow base 5 1 (.slice a' (n + m) c') (n + m) (xs ++ news) → w.grownBy w' (Value.slice av n c).ownBlock →
      Hid ((Value.slice a' (n + m) c').ownBlock = (Value.slice av n c).ownBlock ∨ (Value.slice a' (n + m) c').ownBlock = some w.heap.size) → wpList Tryz.prog ops Q rest (a.put o.dst (.slice a' (n + m) c')) w') : wpList Tryz.prog ops Q (o :: rest) a w := by
  obtain ⟨i, hi, hz0, hz1, hz2⟩ := info_u8
  obtain ⟨a', c', w', hr, h2, h3, h4⟩ := run_append_any_at (P := Tryz.prog) w 90 o.type base 5 i (.int .u8 0) 1 Tryz.underlying90 hi hz0 hz1 hz2 rfl av n c xs hown ao m cx news hl hnil hnews h1 (by unfold maxLen; omega) (by omega) hbase
  refine wpList_plain hgd fun K hK => ?_
  unfold Oper.wp execOp
  simp only [ho, resolve, invoke, builtin, Sem.run_bind, Sem.run_pure, Result.andThen_ok, List.map_toArray, List.map_cons, List.map_nil, hs, hx, hr]
  exact hK _ _ (h a' c' w' h2 h3 (Lib.hid h4))
theorem BytesAt.news {w : World} {B n : Nat} {a : Option Addr} {bs : List UInt8} (h : BytesAt w B a n bs) : ∀ ad, a = some ad → ∀ j u, (bcells bs)[j]? = some u → w.cell? (ad.add j) = some u := by
  intro ad ha j u hu
  have hj : j < bs.length := by have := (List.getElem?_eq_some_iff.1 hu).1; rwa [bcells_length] at this
  obtain ⟨b, off, e, _, hc⟩ := h.2 (by have := h.1; omega)
  rw [ha] at e
  injection e with e
  subst e
  rw [bcells_get bs j hj] at hu
  rw [Addr.add_lit, hc j hj]
  exact hu
theorem BytesAt.drewN {w : World} {B n : Nat} {a : Option Addr} {bs : List UInt8} (h : BytesAt w B a n bs) (k : Nat) : BytesAt (w.drewN k) B a n bs :=
  ⟨h.1, fun hn => by obtain ⟨b, off, e, hlt, hc⟩ := h.2 hn; exact ⟨b, off, e, hlt, fun i hi => hc i hi⟩⟩
theorem below_drewN {B : Nat} {w w' : World} (h : Below B w w') (k : Nat) : Below B w (w'.drewN k) := by
  induction k with
  | zero => simpa [World.drewN] using h
  | succ k ih => exact ih.drew
/-- The cells of a block that the walk has just made. -/
theorem news_new (w : World) (cs : Array Value) (t : TypeId) : ∀ ad, (some (⟨w.heap.size, 0, none⟩ : Addr)) = some ad → ∀ j u, cs.toList[j]? = some u → (w.alloc (.cells cs t)).cell? (ad.add j) = some u := by
  intro ad ha j u hu
  injection ha with ha
  subst ha
  exact World.news_of_block (heap_alloc_last w _) j u hu
end Go.Proofs.YthlagpmacnijfaaGreatDoor
