/- The contract of slices.Equal at slices of settings. -/
import Derived.Test.YthlagpmacnijfaaDoorSk04
import Derived.Test.YthlagpmacnijfaaDoorBatchBits
import Derived.Test.YthlagpmacnijfaaDoorStructMem
import Derived.Laws.StructEq
import Derived.BigQuiet
import Derived.Deep.RegionHeld3
import Derived.Test.YthlagpmacnijfaaDoorBatchPlain5
import Derived.Test.YthlagpmacnijfaaDoorSk03
import Derived.Deep.DeepCutAuto
import Derived.Test.YthlagpmacnijfaaDoorBatchPlain4
import Derived.Shelf.Spec.SlicesInsert
import Derived.Shelf.Spec.SlicesInsertGrow
import Derived.Test.YthlagpmacnijfaaDoorProg
import Derived.Test.YthlagpmacnijfaaDoorSk02
import Derived.Test.YthlagpmacnijfaaDoorBatchTabs
import Derived.Test.YthlagpmacnijfaaDoorLineMem
import Derived.SizedLaws
import Derived.Test.YthlagpmacnijfaaDoorBatchMem
import Derived.Test.YthlagpmacnijfaaDoorSk01
import Derived.Test.YthlagpmacnijfaaDoorMem2
namespace Go.Proofs.YthlagpmacnijfaaDoor
open Go.RowKit

namespace Bt
theorem net_shown {s : S} (hk : fld s.k = 3) (h : err s = 0) : Nt.textOut s.a s.b = Ad.text s.a ++ 47 :: Lib.itoa s.b := by
  have he := (err_rest h).2.1 hk
  unfold Nt.textOut
  rw [if_pos he]
  have h0 : 0 ≤ s.b := by
    unfold Nt.err at he
    split at he
    · cases he
    · omega
  unfold Nt.text
  rw [itoa_nat h0]
def good (s : S) : Prop := err s = 0 ∧ s.t.size ≤ 64 ∧ s.a < 4294967296 ∧ 0 ≤ s.n ∧ s.n ≤ 65535 ∧ -9223372036854775808 ≤ s.b ∧ s.b ≤ 9223372036854775807
theorem val_short {s : S} (h : good s) : (val s).size ≤ 70 := by
  obtain ⟨he, ht, ha, n0, n1, b0, b1⟩ := h
  unfold val
  split
  · show (Lib.itoa s.n).toArray.size ≤ 70
    have := itoa_short s.n (by omega) (by omega)
    simp; omega
  · split
    · decide
    · split
      · rename_i hk
        rw [net_shown (by rw [hk]; rfl) he]
        have h1 := text_short s.a ha
        have h2 := itoa_short s.b b0 b1
        show (Ad.text s.a ++ 47 :: Lib.itoa s.b).toArray.size ≤ 70
        simp; omega
      · split
        · decide +kernel
        · omega
theorem name_short (k : Nat) (h : k ≤ 10) : (nameOf k).size ≤ 29 := by
  have : k = 0 ∨ k = 1 ∨ k = 2 ∨ k = 3 ∨ k = 4 ∨ k = 5 ∨ k = 6 ∨ k = 7 ∨ k = 8 ∨ k = 9 ∨ k = 10 := by omega
  rcases this with rfl | rfl | rfl | rfl | rfl | rfl | rfl | rfl | rfl | rfl | rfl <;> decide
theorem lineText_join (X V : ByteArray) : X ++ (⟨#[61]⟩ : ByteArray) ++ V = Ln.ofT (Ln.lineT ⟨X, V⟩) := by
  apply WideShapes.bytes_inj
  simp only [ByteArray.data_append, Array.toList_append, Ln.ofT_data]
  unfold Ln.lineT
  simp
/-- The text of a setting's line. -/
def shown (s : S) : ByteArray := Ln.ofT (Ln.lineT (lineOf s))
theorem shown_short {s : S} (h : good s) : (shown s).size ≤ 1000 := by
  have h1 := val_short h
  have h2 := name_short s.k.toNat (by have := (err_in h.1).1; omega)
  unfold shown lineOf
  rw [← lineText_join, ByteArray.size_append, ByteArray.size_append]
  show _ + 1 + _ ≤ 1000
  omega
end Bt
set_option maxRecDepth 20000 in
set_option maxHeartbeats 4000000 in
theorem keep_Text (a : Option Addr) (n c : Nat) (l : List Bt.S) (w : World) (h : SetsAt w w.heap.size a n l) (hn : n ≤ 1000000) (hok : ∀ s ∈ l, Bt.good s) (hT : PowTab w) :
    Calls Tryd.prog 15 #[.slice a n c] w fun e w' => e = .returned (.string (Ln.ofT (Ln.jText (l.map Bt.lineOf)))) ∧ Below w.heap.size w w' := by
  have hl := h.1
  have H := Lib.hid h
  have Hok := Lib.hid hok
  have HT := Lib.hid hT
  clear h hok hT
  go_enter Tryd.func15, Tryd.ntmps15
  go_wp2
  go_loopw [3, 10] (fun v i wr => ∃ k : Nat, k ≤ n ∧ i = .int .i64 k ∧ Hid (OwnT wr w.heap.size v ((l.take k).map Bt.shown)) ∧ Hid (Below w.heap.size w wr)) (fun _ i _ => n - (intOf i).toNat)
  case atStart => exact ⟨0, Nat.zero_le _, rfl, Lib.hid (OwnT.nil _ _), Lib.hid (Below.refl _ _)⟩
  case round =>
    obtain ⟨k, hk, rfl, HO, HBr⟩ := hrel
    obtain ⟨wo, hwo⟩ : ∃ wo, wo = wr := ⟨_, rfl⟩
    subst hwo
    have hsz := HBr.out.size
    by_cases hlt : k < n
    · have hkl : k < l.length := by omega
      obtain ⟨b, off, rfl, hbl, hc⟩ := (H.out.below HBr.out).2 (by omega)
      obtain ⟨c0, c1, c2, c3, c4⟩ := hc k hkl
      have Hg := Lib.hid (Hok.out l[k] (List.getElem_mem hkl))
      have Hm : Hid ((l.take (k + 1)).map Bt.shown = (l.take k).map Bt.shown ++ [Bt.shown l[k]]) := Lib.hid (by rw [List.take_succ_eq_append_getElem hkl, List.map_append, List.map_singleton])
      have hDl : ((l.take k).map Bt.shown).length + 1 ≤ 2518437208883 := by rw [List.length_map, List.length_take]; omega
      clear hc
      generalize l[k] = x at *
      generalize (l.take k).map Bt.shown = D at *
      have hv := Bt.val_short Hg.out
      have He := Lib.hid Hg.out.1
      have hkr := (Bt.err_in Hg.out.1).1
      have hx := Bt.name_short x.k.toNat (by omega)
      have HI := Lib.hid (fun W (hW : Below w.heap.size w W) => lib_Itoa x.n W (by have := Hg.out.2.2.2.1; omega) (by have := Hg.out.2.2.2.2.1; omega) (HT.out.below hW))
      have HNT := Lib.hid (fun W (hW : Below w.heap.size w W) => keep_NetText x.a x.b W Hg.out.2.2.1 Hg.out.2.2.2.2.2.1 Hg.out.2.2.2.2.2.2 (HT.out.below hW))
      have HZ := Lib.hid (fun W => Tryd.strings_Repeat ⟨#[48]⟩ 64 W (by decide) (by decide))
      obtain ⟨k0, t, n0, na, nb⟩ := x
      simp only at c0 c1 c2 c3 c4 hv He hkr hx HI HNT
      obtain ⟨K, rfl⟩ : ∃ K : Nat, k0 = (K : Int) := ⟨k0.toNat, by omega⟩
      have hK : K < 11 := by omega
      have hKi : (K : Int) < 11 := by omega
      obtain ⟨X, hX⟩ : ∃ X, X = Bt.nameOf K := ⟨_, rfl⟩
      obtain ⟨V, hV⟩ : ∃ V, V = Bt.val ⟨(K : Int), t, n0, na, nb⟩ := ⟨_, rfl⟩
      have HX := Lib.hid hX
      have HV := Lib.hid hV
      rw [Int.toNat_natCast, ← hX] at hx
      rw [← hV] at hv
      have HSh : Hid (Bt.shown ⟨(K : Int), t, n0, na, nb⟩ = X ++ (⟨#[61]⟩ : ByteArray) ++ V) := Lib.hid (by
        rw [Bt.lineText_join, hX, hV]; unfold Bt.shown Bt.lineOf; simp only [Int.toNat_natCast])
      rw [HSh.out] at Hm
      clear hX hV Hg HSh
      go_upto_region 5 with fail
      obtain ⟨w1, hw1⟩ : ∃ w1, w1 = wo.alloc (.cells #[.int .i64 (K : Int), .string t, .int .i64 n0, .int .u32 (na : Int), .int .i64 nb] 26) := ⟨_, rfl⟩
      have hS : Blk w1 wo.heap.size 26 [.int .i64 (K : Int), .string t, .int .i64 n0, .int .u32 (na : Int), .int .i64 nb] := by rw [hw1]; exact Blk.new _ _ _
      have hB1 : Below w.heap.size w w1 := by rw [hw1]; exact HBr.out.alloc hsz _
      have hO1 : OwnT w1 w.heap.size u3 D := by rw [hw1]; exact HO.out.alloc _
      rw [← hw1]
      obtain ⟨w2, hw2⟩ : ∃ w2, w2 = w1.alloc (.cells nameCells.toArray 9) := ⟨_, rfl⟩
      have hS2 : Blk w2 wo.heap.size 26 [.int .i64 (K : Int), .string t, .int .i64 n0, .int .u32 (na : Int), .int .i64 nb] := by rw [hw2]; exact hS.kept ((Below.refl _ _).alloc (Nat.le_refl _) _)
      have hE : w2.cell? ⟨w1.heap.size, K, none⟩ = some (.string X) := by rw [hw2, HX.out]; exact (Blk.new w1 9 nameCells).cell K (nameCells_at K (by omega))
      have HO2 : Hid (OwnT w2 w.heap.size u3 D) := Lib.hid (by rw [hw2]; exact hO1.alloc _)
      have HB2 : Hid (Below w.heap.size w w2) := Lib.hid (by rw [hw2]; exact hB1.alloc hB1.size _)
      have HOW : Hid (∀ W, Below w2.heap.size w2 W → OwnT W w.heap.size u3 D) := Lib.hid (fun W hW => HO2.out.below hW)
      obtain ⟨⟨s0, s1, s2, s3, s4⟩, -⟩ := hS2.facts5
      clear hw1 hS hB1 hO1 hS2 c0 c1 c2 c3 c4 HO HBr hsz
      generalize wo.heap.size = G at *
      have q0 := s0
      have q1 := s1
      rw [hw2] at hE q0 q1
      unfold nameCells at hw2 hE q0 q1
      go_upto_region 7 with fail
      rw [← hw2]
      clear hw2 hE q0 q1
      go_upto_block 2 with fail
      go_cut [7] (fun v wx => v = .string V ∧ Hid (Below w2.heap.size w2 wx))
      case first =>
        have hcs : (K : Int) = 1 ∨ (K : Int) = 2 ∨ (K : Int) = 3 ∨ (K : Int) = 4 ∨ (K : Int) = 5 ∨ (K : Int) = 6 ∨ (K : Int) = 7 ∨ (K : Int) = 8 ∨ (K : Int) = 9 ∨ (K : Int) = 10 := by omega
        rcases hcs with h | h | h | h | h | h | h | h | h | h
        · have hk : (K : Int) = 1 := h
          have hV : Hid (V = t) := Lib.hid (by rw [HV.out]; exact Bt.val_text (by show Bt.fld (K : Int) = 1; rw [h]; rfl) (by show (K : Int) ≠ 6; omega))
          have d2 : ((K : Int) == 2) = false := by rw [h]; rfl
          have d8 : ((K : Int) == 8) = false := by rw [h]; rfl
          have d3 : ((K : Int) == 3) = false := by rw [h]; rfl
          have d5 : ((K : Int) == 5) = false := by rw [h]; rfl
          have d9 : ((K : Int) == 9) = false := by rw [h]; rfl
          have d10 : ((K : Int) == 10) = false := by rw [h]; rfl
          have d6 : ((K : Int) == 6) = false := by rw [h]; rfl
          clear h hk
          go_wp2_with fail
          go_meet
          case rel => exact ⟨congrArg Value.string hV.out.symm, Lib.hid (Below.refl _ _)⟩
        · have hk : (K : Int) = 2 := h
          have hV : Hid (V = Ln.ofT (Lib.itoa n0)) := Lib.hid (by rw [HV.out]; exact Bt.val_num (by show Bt.fld (K : Int) = 2; rw [h]; rfl))
          have d2 : ((K : Int) == 2) = true := by rw [h]; rfl
          have d8 : ((K : Int) == 8) = false := by rw [h]; rfl
          have d3 : ((K : Int) == 3) = false := by rw [h]; rfl
          have d5 : ((K : Int) == 5) = false := by rw [h]; rfl
          have d9 : ((K : Int) == 9) = false := by rw [h]; rfl
          have d10 : ((K : Int) == 10) = false := by rw [h]; rfl
          have d6 : ((K : Int) == 6) = false := by rw [h]; rfl
          clear h hk
          go_wp2_with fail
          refine (HI.out _ HB2.out).mono ?_
          rintro e w3 ⟨rfl, hb3⟩
          have HB3 := Lib.hid hb3
          clear hb3
          go_wp2_with fail
          go_meet
          case rel => exact ⟨congrArg Value.string hV.out.symm, HB3⟩
        · have hk : (K : Int) = 3 := h
          have hV : Hid (V = Bt.isTrue) := Lib.hid (by rw [HV.out]; unfold Bt.val Bt.fld; simp [h])
          have d2 : ((K : Int) == 2) = false := by rw [h]; rfl
          have d8 : ((K : Int) == 8) = false := by rw [h]; rfl
          have d3 : ((K : Int) == 3) = true := by rw [h]; rfl
          have d5 : ((K : Int) == 5) = false := by rw [h]; rfl
          have d9 : ((K : Int) == 9) = false := by rw [h]; rfl
          have d10 : ((K : Int) == 10) = false := by rw [h]; rfl
          have d6 : ((K : Int) == 6) = false := by rw [h]; rfl
          clear h hk
          go_wp2_with fail
          go_meet
          case rel => exact ⟨congrArg Value.string hV.out.symm, Lib.hid (Below.refl _ _)⟩
        · have hk : (K : Int) = 4 := h
          have hV : Hid (V = t) := Lib.hid (by rw [HV.out]; exact Bt.val_text (by show Bt.fld (K : Int) = 1; rw [h]; rfl) (by show (K : Int) ≠ 6; omega))
          have d2 : ((K : Int) == 2) = false := by rw [h]; rfl
          have d8 : ((K : Int) == 8) = false := by rw [h]; rfl
          have d3 : ((K : Int) == 3) = false := by rw [h]; rfl
          have d5 : ((K : Int) == 5) = false := by rw [h]; rfl
          have d9 : ((K : Int) == 9) = false := by rw [h]; rfl
          have d10 : ((K : Int) == 10) = false := by rw [h]; rfl
          have d6 : ((K : Int) == 6) = false := by rw [h]; rfl
          clear h hk
          go_wp2_with fail
          go_meet
          case rel => exact ⟨congrArg Value.string hV.out.symm, Lib.hid (Below.refl _ _)⟩
        · have hk : (K : Int) = 5 := h
          have hV : Hid (V = Bt.isTrue) := Lib.hid (by rw [HV.out]; unfold Bt.val Bt.fld; simp [h])
          have d2 : ((K : Int) == 2) = false := by rw [h]; rfl
          have d8 : ((K : Int) == 8) = false := by rw [h]; rfl
          have d3 : ((K : Int) == 3) = false := by rw [h]; rfl
          have d5 : ((K : Int) == 5) = true := by rw [h]; rfl
          have d9 : ((K : Int) == 9) = false := by rw [h]; rfl
          have d10 : ((K : Int) == 10) = false := by rw [h]; rfl
          have d6 : ((K : Int) == 6) = false := by rw [h]; rfl
          clear h hk
          go_wp2_with fail
          go_meet
          case rel => exact ⟨congrArg Value.string hV.out.symm, Lib.hid (Below.refl _ _)⟩
        · have hk : (K : Int) = 6 := h
          have hV : Hid (V = if t.size = 0 then Bt.zeros else t) := Lib.hid (by rw [HV.out]; exact Bt.val_six h)
          have d2 : ((K : Int) == 2) = false := by rw [h]; rfl
          have d8 : ((K : Int) == 8) = false := by rw [h]; rfl
          have d3 : ((K : Int) == 3) = false := by rw [h]; rfl
          have d5 : ((K : Int) == 5) = false := by rw [h]; rfl
          have d9 : ((K : Int) == 9) = false := by rw [h]; rfl
          have d10 : ((K : Int) == 10) = false := by rw [h]; rfl
          have d6 : ((K : Int) == 6) = true := by rw [h]; rfl
          clear h hk
          by_cases h0 : t.size = 0
          · have hse := empty_size t
            rw [decide_eq_true h0] at hse
            have hV6 : Hid (V = Bt.zeros) := Lib.hid (by rw [hV.out, if_pos h0])
            clear h0
            go_wp2_with fail
            refine (HZ.out _).mono ?_
            rintro e w3 ⟨rfl, hb3⟩
            have HB3 := Lib.hid hb3
            clear hb3
            go_wp2_with fail
            go_meet
            case rel => exact ⟨congrArg Value.string hV6.out.symm, HB3⟩
          · have hse := empty_size t
            rw [decide_eq_false h0] at hse
            have hV6 : Hid (V = t) := Lib.hid (by rw [hV.out, if_neg h0])
            clear h0
            go_wp2_with fail
            go_meet
            case rel => exact ⟨congrArg Value.string hV6.out.symm, Lib.hid (Below.refl _ _)⟩
        · have hk : (K : Int) = 7 := h
          have hV : Hid (V = t) := Lib.hid (by rw [HV.out]; exact Bt.val_text (by show Bt.fld (K : Int) = 1; rw [h]; rfl) (by show (K : Int) ≠ 6; omega))
          have d2 : ((K : Int) == 2) = false := by rw [h]; rfl
          have d8 : ((K : Int) == 8) = false := by rw [h]; rfl
          have d3 : ((K : Int) == 3) = false := by rw [h]; rfl
          have d5 : ((K : Int) == 5) = false := by rw [h]; rfl
          have d9 : ((K : Int) == 9) = false := by rw [h]; rfl
          have d10 : ((K : Int) == 10) = false := by rw [h]; rfl
          have d6 : ((K : Int) == 6) = false := by rw [h]; rfl
          clear h hk
          go_wp2_with fail
          go_meet
          case rel => exact ⟨congrArg Value.string hV.out.symm, Lib.hid (Below.refl _ _)⟩
        · have hk : (K : Int) = 8 := h
          have hV : Hid (V = Ln.ofT (Lib.itoa n0)) := Lib.hid (by rw [HV.out]; exact Bt.val_num (by show Bt.fld (K : Int) = 2; rw [h]; rfl))
          have d2 : ((K : Int) == 2) = false := by rw [h]; rfl
          have d8 : ((K : Int) == 8) = true := by rw [h]; rfl
          have d3 : ((K : Int) == 3) = false := by rw [h]; rfl
          have d5 : ((K : Int) == 5) = false := by rw [h]; rfl
          have d9 : ((K : Int) == 9) = false := by rw [h]; rfl
          have d10 : ((K : Int) == 10) = false := by rw [h]; rfl
          have d6 : ((K : Int) == 6) = false := by rw [h]; rfl
          clear h hk
          go_wp2_with fail
          refine (HI.out _ HB2.out).mono ?_
          rintro e w3 ⟨rfl, hb3⟩
          have HB3 := Lib.hid hb3
          clear hb3
          go_wp2_with fail
          go_meet
          case rel => exact ⟨congrArg Value.string hV.out.symm, HB3⟩
        · have hk : (K : Int) = 9 := h
          have hV : Hid (V = Bt.isTrue) := Lib.hid (by rw [HV.out]; unfold Bt.val Bt.fld; simp [h])
          have d2 : ((K : Int) == 2) = false := by rw [h]; rfl
          have d8 : ((K : Int) == 8) = false := by rw [h]; rfl
          have d3 : ((K : Int) == 3) = false := by rw [h]; rfl
          have d5 : ((K : Int) == 5) = false := by rw [h]; rfl
          have d9 : ((K : Int) == 9) = true := by rw [h]; rfl
          have d10 : ((K : Int) == 10) = false := by rw [h]; rfl
          have d6 : ((K : Int) == 6) = false := by rw [h]; rfl
          clear h hk
          go_wp2_with fail
          go_meet
          case rel => exact ⟨congrArg Value.string hV.out.symm, Lib.hid (Below.refl _ _)⟩
        · have hk : (K : Int) = 10 := h
          have hV : Hid (V = Ln.ofT (Nt.textOut na nb)) := Lib.hid (by rw [HV.out]; exact Bt.val_net h)
          have hN := Lib.hid (Bt.net_shown (by rw [h]; rfl) He.out)
          have d2 : ((K : Int) == 2) = false := by rw [h]; rfl
          have d8 : ((K : Int) == 8) = false := by rw [h]; rfl
          have d3 : ((K : Int) == 3) = false := by rw [h]; rfl
          have d5 : ((K : Int) == 5) = false := by rw [h]; rfl
          have d9 : ((K : Int) == 9) = false := by rw [h]; rfl
          have d10 : ((K : Int) == 10) = true := by rw [h]; rfl
          have d6 : ((K : Int) == 6) = false := by rw [h]; rfl
          clear h hk
          go_wp2_with fail
          refine (HNT.out _ HB2.out).mono ?_
          rintro e w3 ⟨rfl, hb3⟩
          have HB3 := Lib.hid hb3
          clear hb3
          go_wp2_with fail
          go_meet
          case rel => exact ⟨congrArg Value.string (by rw [hV.out, hN.out]; rfl), HB3⟩
      case rest =>
        obtain ⟨rfl, HC⟩ := hcut
        have HO3 := Lib.hid ((HOW.out _ HC.out).alloc (.cells #[.string (X ++ (⟨#[61]⟩ : ByteArray) ++ V)] 9))
        have HB3 := Lib.hid (HB2.out.trans (HC.out.mono HB2.out.size))
        have HB4 := Lib.hid (HB3.out.alloc HB3.out.size (.cells #[.string (X ++ (⟨#[61]⟩ : ByteArray) ++ V)] 9))
        have hlt4 := HB4.out.size
        have Hnw := Lib.hid (news_one wc (.string (X ++ (⟨#[61]⟩ : ByteArray) ++ V)) 9)
        have sz1 : (X ++ (⟨#[61]⟩ : ByteArray)).size = X.size + 1 := by rw [ByteArray.size_append]; rfl
        have n1 : (X.size + (⟨#[61]⟩ : ByteArray).size > 9223372036854775807) = False := eq_false (by show ¬ (X.size + 1 > _); omega)
        have n2 : ((X ++ (⟨#[61]⟩ : ByteArray)).size + V.size > 9223372036854775807) = False := eq_false (by rw [sz1]; omega)
        have n3 : (9223372036854775807 < X.size + 1) = False := eq_false (by omega)
        have n4 : (9223372036854775807 < X.size + 1 + V.size) = False := eq_false (by omega)
        clear HI HNT HZ HO2 HB2 HOW HC s0 s1 s2 s3 s4 hv hx HB3
        go_wp2_with (at_builtin; refine wpL_append_text _ rfl _ _ rfl w.heap.size _ D rfl HO3.out _ 1 _ [X ++ (⟨#[61]⟩ : ByteArray) ++ V] rfl rfl Hnw.out hDl hlt4 ?_)
        intro v' w4 hO4 hb4
        have HB5 := Lib.hid (HB4.out.trans hb4)
        rw [← Hm.out] at hO4
        have HO4 := Lib.hid hO4
        clear hO4 hb4
        go_wp2
        go_roundw
        case rel => exact ⟨k + 1, by omega, by go_num, HO4, HB5⟩
        case measure => simp [intOf]; omega
    · have htk : l.take k = l := List.take_of_length_le (by omega)
      rw [htk] at HO
      have HJ := Lib.hid (keep_joined _ _ _ wo HO.out (by rw [List.length_map]; omega) (by
        intro x hx
        obtain ⟨s, hs, rfl⟩ := List.mem_map.1 hx
        exact Bt.shown_short (Hok.out s hs)))
      have He : Hid (Ad.glue 10 ((l.map Bt.shown).map (·.data.toList)) = Ln.jText (l.map Bt.lineOf)) := Lib.hid (by
        unfold Ln.jText
        rw [List.map_map, List.map_map]
        rfl)
      rw [He.out] at HJ
      clear He
      generalize hTx : Ln.ofT (Ln.jText (l.map Bt.lineOf)) = T at *
      have HTx := Lib.hid hTx
      clear hTx
      go_wp2_with fail
      refine HJ.out.mono ?_
      rintro e w3 ⟨rfl, hb3⟩
      have HBf := Lib.hid (HBr.out.trans (hb3.mono hsz))
      clear hb3 HJ
      go_wp2
      go_ret
      exact ⟨by rw [HTx.out]; rfl, HBf.out⟩
end Go.Proofs.YthlagpmacnijfaaDoor

namespace Go.Proofs.YthlagpmacnijfaaDoor
namespace Bt
theorem map_lines {l : List S} (he : ∀ s ∈ l, err s = 0) : l.map line = l.map lineOf := List.map_congr_left (fun s hs => by unfold line; rw [if_pos (he s hs)])
theorem print_parse {l : List S} (he : ∀ s ∈ l, err s = 0) (ha : ∀ s ∈ l, s.a < 4294967296) (hj : Ln.jErr (l.map line) = 0) :
    tErr l = 0 ∧ tOut l = Ln.jText (l.map line) ∧ pBad (Ln.ofT (tOut l)) = (0, 0) ∧ pOut (Ln.ofT (tOut l)) = l := by
  have ht : tErr l = 0 := by unfold tErr; rw [if_neg (by rw [fault_good l he]; decide), hj]
  have ho : tOut l = Ln.jText (l.map line) := by unfold tOut; rw [if_pos ht]
  have hjo : Ln.jOut (l.map line) = Ln.jText (l.map line) := by unfold Ln.jOut; rw [if_pos hj]
  obtain ⟨h1, h2⟩ := Ln.split_join hj
  rw [hjo] at h1 h2
  have hs : ∀ p ∈ l.map line, (ofLine p).2 = 0 := by
    intro p hp
    obtain ⟨s, hs, rfl⟩ := List.mem_map.1 hp
    rw [of_line (he s hs) (ha s hs)]
  have hb : pBad (Ln.ofT (tOut l)) = (0, 0) := by
    rw [ho, pBad_wrong (by rw [h1]), h2]
    exact wrong_good _ 0 hs
  refine ⟨ht, ho, hb, ?_⟩
  unfold pOut
  rw [if_pos (by rw [hb]), ho, h2, List.map_map]
  rw [List.map_congr_left (g := id) (fun s hs' => by show (ofLine (line s)).1 = s; rw [of_line (he s hs') (ha s hs')]), List.map_id]
theorem parse_print {s : ByteArray} (h : (pBad s).2 = 0) : tErr (pOut s) = 0 ∧ Ln.ofT (tOut (pOut s)) = s := by
  have h0 : (Ln.sBad s).2 = 0 := by
    by_cases h0 : (Ln.sBad s).2 = 0
    · exact h0
    · rw [pBad_split h0] at h; exact absurd h h0
  obtain ⟨j1, j2, j3⟩ := Ln.join_split h0
  have hw := h
  rw [pBad_wrong h0] at hw
  have hg := (wrong_back _ 0 hw).2
  have ho : pOut s = (Ln.sOut s).map (fun l => (ofLine l).1) := by unfold pOut; rw [if_pos h]
  have hm : (pOut s).map line = Ln.sOut s := by
    rw [ho, List.map_map]
    exact (List.map_congr_left (g := id) (fun p hp => (line_of (hg p hp)).2)).trans (List.map_id _)
  have hf : fault (pOut s) = 0 := by
    refine fault_good _ ?_
    intro x hx
    rw [ho] at hx
    obtain ⟨p, hp, rfl⟩ := List.mem_map.1 hx
    exact (line_of (hg p hp)).1
  have ht : tErr (pOut s) = 0 := by unfold tErr; rw [if_neg (by rw [hf]; decide), hm, j2]
  refine ⟨ht, ?_⟩
  unfold tOut
  rw [if_pos ht, hm]
  unfold Ln.jOut at j3
  rw [if_pos j2] at j3
  exact j3
end Bt
end Go.Proofs.YthlagpmacnijfaaDoor

namespace Go.Proofs.YthlagpmacnijfaaDoor
namespace Bt
theorem dec_vals (u : Nat) : (Lib.decDigits u).all Ln.inVal = true := by
  have h := (Ad.dec_good u).1
  rw [List.all_eq_true] at h ⊢
  intro c hc
  have := h c hc
  unfold Ad.isD at this
  unfold Ln.inVal
  simp at this ⊢
  omega
theorem text_vals (a : Nat) : (Ad.text a).all Ln.inVal = true := by
  unfold Ad.text
  simp only [List.all_append, List.all_cons, dec_vals, Bool.and_true, Bool.true_and]
  decide
theorem key_vals (p : Nat) (h : p < 8) : (keyOf p).data.toList.all Ln.inVal = true := by
  have : p = 0 ∨ p = 1 ∨ p = 2 ∨ p = 3 ∨ p = 4 ∨ p = 5 ∨ p = 6 ∨ p = 7 := by omega
  rcases this with rfl | rfl | rfl | rfl | rfl | rfl | rfl | rfl <;> decide +kernel
theorem end_vals (p : Nat) (h : p < 4) : (endOf (1 + p)).data.toList.all Ln.inVal = true := by
  have : p = 0 ∨ p = 1 ∨ p = 2 ∨ p = 3 := by omega
  rcases this with rfl | rfl | rfl | rfl <;> decide +kernel
theorem name_keys (k : Nat) (h : 1 ≤ k) (h2 : k ≤ 10) : 0 < (nameOf k).size ∧ (nameOf k).data.toList.all Ln.inKey = true := by
  have : k = 1 ∨ k = 2 ∨ k = 3 ∨ k = 4 ∨ k = 5 ∨ k = 6 ∨ k = 7 ∨ k = 8 ∨ k = 9 ∨ k = 10 := by omega
  rcases this with rfl | rfl | rfl | rfl | rfl | rfl | rfl | rfl | rfl | rfl <;> decide +kernel
theorem raw_vals (r : RawD) : (val (rawS r)).data.toList.all Ln.inVal = true := by
  obtain ⟨h1, h2⟩ := rawK_in r
  have hp := pick_lt r.a 8 (by decide)
  have hk := key_vals (pick r.a 8) hp
  have he := end_vals (pick r.a 4) (pick_lt r.a 4 (by decide))
  obtain ⟨n1, n2, n3⟩ := raw_good r.k r.a r.b
  obtain ⟨v1, v4, v6, v7, v2, v8, v10, v3, v5, v9⟩ := fld_vals
  unfold rawS
  generalize rawK r = k at *
  by_cases c1 : k = 1 ∨ k = 4
  · rw [if_pos c1, val_text (by show fld (k : Int) = 1; rcases c1 with rfl | rfl; exact v1; exact v4) (by show (k : Int) ≠ 6; omega)]
    exact hk
  rw [if_neg c1]
  by_cases c2 : k = 6
  · rw [if_pos c2, val_six rfl]
    by_cases hq : pick r.b 2 = 0
    · simp only [if_pos hq]
      decide +kernel
    · simp only [if_neg hq]
      rw [if_neg (by have := (keyOf_good (pick r.a 8) hp).1; omega)]
      exact hk
  rw [if_neg c2]
  by_cases c3 : k = 7
  · rw [if_pos c3, val_text v7 (show (7 : Int) ≠ 6 by decide)]
    exact he
  rw [if_neg c3]
  by_cases c4 : k = 2 ∨ k = 8
  · rw [if_pos c4, val_num (by show fld (k : Int) = 2; rcases c4 with rfl | rfl; exact v2; exact v8), Ln.ofT_data, itoa_nat (by show (0 : Int) ≤ (_ : Nat); omega)]
    exact dec_vals _
  rw [if_neg c4]
  by_cases c5 : k = 10
  · rw [if_pos c5, val_net rfl, Ln.ofT_data]
    unfold Nt.textOut
    rw [if_pos n3]
    unfold Nt.text
    simp only [List.all_append, List.all_cons, text_vals, dec_vals, Bool.and_true, Bool.true_and]
    decide
  rw [if_neg c5]
  have hv : val ⟨(k : Int), ⟨#[]⟩, 0, 0, 0⟩ = isTrue := by
    have : k = 3 ∨ k = 5 ∨ k = 9 := by omega
    rcases this with rfl | rfl | rfl <;> decide
  rw [hv]
  decide
theorem rawS_ok (r : RawD) : good (rawS r) := by
  obtain ⟨h1, h2, h3, h4, h5⟩ := rawS_good r
  refine ⟨h1, h3, h2, h4, h5, ?_⟩
  have hm := more_of (err_in h1).2
  by_cases hf : fld (rawS r).k = 3
  · have he := (err_rest h1).2.1 hf
    unfold Nt.err at he
    split at he
    · cases he
    · omega
  · have := hm.2.2
    rcases this with ⟨_, hb⟩ | h
    · rw [hb]; omega
    · exact absurd h hf
theorem raw_line (r : RawD) : Ln.err (line (rawS r)) = 0 := by
  have hg := rawS_ok r
  have hk := (err_in hg.1).1
  have hl : line (rawS r) = lineOf (rawS r) := by unfold line; rw [if_pos hg.1]
  have hn := name_keys (rawS r).k.toNat (by omega) (by omega)
  have hs := name_short (rawS r).k.toNat (by omega)
  have hv := val_short hg
  rw [hl]
  unfold lineOf
  refine Ln.err_ok ?_ ?_
  · unfold Ln.sized
    simp only [Bool.and_eq_true, decide_eq_true_eq]
    exact ⟨⟨hn.1, by omega⟩, hv⟩
  · unfold Ln.formed
    simp only [Bool.and_eq_true]
    exact ⟨hn.2, raw_vals r⟩
theorem raws_good (l : List RawD) (m : Nat) (hm : m ≤ 25) : (∀ s ∈ rawsS l m, good s) ∧ (rawsS l m).length ≤ m ∧ Ln.jErr ((rawsS l m).map line) = 0 := by
  have hlen : (rawsS l m).length ≤ m := by unfold rawsS; rw [List.length_map, List.length_take]; omega
  have hg : ∀ s ∈ rawsS l m, good s := by
    intro s hs
    obtain ⟨r, _, rfl⟩ := List.mem_map.1 hs
    exact rawS_ok r
  refine ⟨hg, hlen, ?_⟩
  have hf : ∀ x ∈ (rawsS l m).map line, Ln.err x = 0 := by
    intro x hx
    obtain ⟨s, hs, rfl⟩ := List.mem_map.1 hx
    obtain ⟨r, _, rfl⟩ := List.mem_map.1 hs
    exact raw_line r
  have ht := Ln.glue_length 10 101 (((rawsS l m).map line).map Ln.lineT) (by
    intro p hp
    obtain ⟨x, hx, rfl⟩ := List.mem_map.1 hp
    have := (Ln.err_zero (hf x hx)).1
    rw [Ln.lineT_length]; omega)
  rw [List.length_map, List.length_map] at ht
  have h3 : (Ln.jText ((rawsS l m).map line)).length ≤ 3000 := by
    unfold Ln.jText
    have : (rawsS l m).length * (101 + 1) ≤ 25 * 102 := by omega
    omega
  unfold Ln.jErr
  rw [if_neg (by rw [List.length_map]; omega), if_neg (by rw [Ln.fault_good _ hf]; decide), if_neg (by omega)]
end Bt
end Go.Proofs.YthlagpmacnijfaaDoor

namespace Go.Proofs
open Go.Shelf
def Tryd.laysIns_ren : Go.Shelf.Ren := ⟨fun | 17 => 91 | 22 => 19 | 29 => 46 | 30 => 47 | 36 => 72 | n => n, fun | 24 => 45 | 9 => 9 | 3 => 3 | 4 => 4 | 0 => 0 | n => n, fun | n => n⟩
theorem Tryd.laysIns : Go.Proofs.Lays2.n22 Tryd.prog Tryd.laysIns_ren := {
  mixed := by kernel_rfl
  f17 := Tryd.func91.trans (congrArg some (by kernel_rfl))
  f22 := Tryd.func19.trans (congrArg some (by kernel_rfl))
  f29 := Tryd.func46.trans (congrArg some (by kernel_rfl))
  f30 := Tryd.func47.trans (congrArg some (by kernel_rfl))
  f36 := Tryd.func72.trans (congrArg some (by kernel_rfl))
  t0 := Tryd.underlying0
  a0 := Tryd.isAgg0
  z0 := Tryd.sizeOf0
  v0 := Tryd.zeroValue0
  t3 := Tryd.underlying3
  a3 := Tryd.isAgg3
  z3 := Tryd.sizeOf3
  v3 := Tryd.zeroValue3
  t4 := Tryd.underlying4
  a4 := Tryd.isAgg4
  z4 := Tryd.sizeOf4
  v4 := Tryd.zeroValue4
  t9 := Tryd.underlying9
  a9 := Tryd.isAgg9
  z9 := Tryd.sizeOf9
  v9 := Tryd.zeroValue9
  t24 := Tryd.underlying45
  a24 := Tryd.isAgg45
  z24 := Tryd.sizeOf45
  v24 := Tryd.zeroValue45
  i9 := by kernel_rfl }
end Go.Proofs

namespace Go.Proofs.YthlagpmacnijfaaDoor
open Go.RowKit

theorem insert_get {l : List ByteArray} {k j : Nat} {x y : ByteArray} (hk : k ≤ l.length) (h : (l.take k ++ x :: l.drop k)[j]? = some y) : (j < k ∧ l[j]? = some y) ∨ (j = k ∧ y = x) ∨ (k < j ∧ l[j - 1]? = some y) := by
  by_cases h1 : j < k
  · left
    rw [List.getElem?_append_left (by rw [List.length_take]; omega), List.getElem?_take_of_lt h1] at h
    exact ⟨h1, h⟩
  · right
    rw [List.getElem?_append_right (by rw [List.length_take]; omega), List.length_take, Nat.min_eq_left hk] at h
    by_cases h2 : j = k
    · left
      subst h2
      rw [Nat.sub_self] at h
      exact ⟨rfl, (Option.some.inj h).symm⟩
    · right
      obtain ⟨i, hi⟩ : ∃ i, j - k = i + 1 := ⟨j - k - 1, by omega⟩
      rw [hi, List.getElem?_cons_succ, List.getElem?_drop, show k + i = j - 1 by omega] at h
      exact ⟨by omega, h⟩
/-- What stands in the row behind the call. -/
def InsPost (l : List ByteArray) (x : ByteArray) (k B : Nat) (w : World) (e : Ending) (w' : World) : Prop :=
  (∃ b c', e = .returned (.slice (some ⟨b, 0, none⟩) (l.length + 1) c') ∧ b < w'.heap.size ∧ l.length + 1 ≤ c' ∧ ∀ j y, (l.take k ++ x :: l.drop k)[j]? = some y → w'.cell? ⟨b, j, none⟩ = some (.string y)) ∧ Below B w w'
theorem below_cells {B g : Nat} (hg : B ≤ g) (vs : List Value) : ∀ (o : Nat) (a w : World), Below B a w → Below B a (w.setCells g o vs) := by
  induction vs with
  | nil => intro o a w h; exact h
  | cons v r ih => intro o a w h; exact ih (o + 1) a _ (h.setCell hg v)
theorem size_cells (g : Nat) (vs : List Value) : ∀ (o : Nat) (w : World), (w.setCells g o vs).heap.size = w.heap.size := by
  induction vs with
  | nil => intro o w; rfl
  | cons v r ih => intro o w; rw [World.setCells, ih]; simp
theorem new_cell (w : World) (xs : List Value) (Z : Array Value) (t : TypeId) (j : Nat) (u : Value) (h : xs[j]? = some u) : (w.alloc (.cells (xs.toArray ++ Z) t)).cell? ⟨w.heap.size, j, none⟩ = some u := by
  rw [cell_of_row _ _ j _ _ _ (heap_alloc_last w _), Array.getElem?_append_left (by have := (List.getElem?_eq_some_iff.1 h).1; simpa using this), List.getElem?_toArray]
  exact h
theorem one_in (W : World) (g k : Nat) (x : Value) (h : (W.cell? ⟨g, k, none⟩).isSome = true) : (W.setCells g k [x]).cell? ⟨g, k, none⟩ = some x := by
  have := World.cell?_setCells_in g [x] k W (fun j hj => by
    obtain rfl : j = 0 := by simpa using hj
    exact h) 0 (by simp)
  simpa using this
theorem one_out (W : World) (g k j : Nat) (x : Value) (h : j ≠ k) : (W.setCells g k [x]).cell? ⟨g, j, none⟩ = W.cell? ⟨g, j, none⟩ :=
  World.cell?_setCells_out g [x] k W ⟨g, j, none⟩ (fun _ _ => by show j < k ∨ k + 1 ≤ j; omega)
theorem rest_in (W : World) (g k : Nat) (l : List ByteArray) (j : Nat) (y : ByteArray) (hj : k < j) (hy : l[j - 1]? = some y) (hs : ∀ i, i < l.length + 1 → (W.cell? ⟨g, i, none⟩).isSome = true) :
    (W.setCells g (k + 1) ((l.map Value.string).drop k)).cell? ⟨g, j, none⟩ = some (.string y) := by
  have hl := (List.getElem?_eq_some_iff.1 hy).1
  have hdl : ((l.map Value.string).drop k).length = l.length - k := by simp
  have := World.cell?_setCells_in g ((l.map Value.string).drop k) (k + 1) W (fun i hi => hs _ (by omega)) (j - 1 - k) (by omega)
  rw [show k + 1 + (j - 1 - k) = j by omega] at this
  rw [this]
  have e : ((l.map Value.string).drop k)[j - 1 - k]? = some (.string y) := by
    rw [List.getElem?_drop, show k + (j - 1 - k) = j - 1 by omega, List.getElem?_map, hy]; rfl
  rw [← e, List.getElem?_eq_getElem]
theorem rest_out (W : World) (g k : Nat) (vs : List Value) (j : Nat) (hj : j ≤ k) : (W.setCells g (k + 1) vs).cell? ⟨g, j, none⟩ = W.cell? ⟨g, j, none⟩ :=
  World.cell?_setCells_out g vs (k + 1) W ⟨g, j, none⟩ (fun _ _ => by show j < k + 1 ∨ _; omega)
theorem rest_some (W : World) (g o : Nat) (vs : List Value) (j n : Nat) (hs : ∀ i, i < n → (W.cell? ⟨g, i, none⟩).isSome = true) (hv : o + vs.length ≤ n) (hj : j < n) : ((W.setCells g o vs).cell? ⟨g, j, none⟩).isSome = true :=
  isSome_setCells g vs o W (fun i hi => hs _ (by omega)) j (hs j hj)
theorem keep_insert (l : List ByteArray) (v : Value) (B k : Nat) (w : World) (x : ByteArray) (vb : Nat) (h : OwnT w B v l) (hx : Blk w vb 9 [.string x]) (hne : v.ownBlock ≠ some vb) (hk : k ≤ l.length) (hn : l.length ≤ 1000000) (hB : B ≤ w.heap.size) :
    Calls Tryd.prog 19 #[v, .int .i64 (k : Int), .slice (some ⟨vb, 0, none⟩) 1 1] w (InsPost l x k B w) := by
  obtain ⟨a, c, rfl, ho⟩ := h
  have hcp := own_cap ho
  have hml : maxLen = 9223372036854775807 := by decide
  have hlm : (l.map Value.string).length = l.length := List.length_map ..
  have hvs : ∀ j u, [Value.string x][j]? = some u → w.cell? ⟨vb, 0 + j, none⟩ = some u := fun j u hj => by rw [Nat.zero_add]; exact hx.cell j hj
  have h1v : ∀ u ∈ [Value.string x], Value.oneCell' u = true := one_str x
  have hcs0 : ∀ (j : Nat) (y : ByteArray), l[j]? = some y → (l.map Value.string)[j]? = some (Value.string y) := fun j y hy => by rw [List.getElem?_map, hy]; rfl
  rcases id ho.2 with ⟨hv, h0⟩ | ⟨g, cap, cur, hv, hb, hh, hnc, hcm, hsz, htk⟩
  · injection hv with h1 h2 h3
    subst h1
    have hl0 : l = [] := List.length_eq_zero_iff.1 h0
    subst hl0
    obtain rfl : k = 0 := by simpa using hk
    refine (Any2.slices_Insert_string_end_grow Tryd.laysIns none 0 c vb 0 1 1 [] [Value.string x] w (by decide) hcp.1 (by omega) (by decide) rfl rfl (fun _ => rfl) (fun a h => by cases h) hvs h1v).mono ?_
    rintro e w' ⟨rfl, rfl⟩
    refine ⟨⟨w.heap.size, _, rfl, by simp, grownCap_ge _ _ _ _, ?_⟩, (Below.refl B w).drew.alloc hB _⟩
    intro j y hy
    rcases insert_get (Nat.zero_le _) hy with ⟨h1, _⟩ | ⟨rfl, rfl⟩ | ⟨_, h2⟩
    · omega
    · exact new_cell w.drew [Value.string y] _ _ 0 _ rfl
    · simp at h2
  · injection hv with h1 h2 h3
    subst h1
    subst h3
    have hgl : g < w.heap.size := (ho.lt g rfl).2
    have hcell : ∀ j, w.cell? ⟨g, j, none⟩ = cur[j]? := fun j => cell_of_row _ _ j _ _ _ hh
    have hcs : ∀ j u, (l.map Value.string)[j]? = some u → w.cell? ⟨g, 0 + j, none⟩ = some u := fun j u hj => by rw [Nat.zero_add]; exact own_cell ho hj
    have hsp : ∀ j, j < c → (w.cell? ⟨g, j, none⟩).isSome = true := fun j hj => by rw [hcell, Array.getElem?_eq_getElem (by omega)]; rfl
    by_cases hroom : l.length + 1 ≤ c
    · by_cases hkn : k = l.length
      · subst hkn
        refine (Any2.slices_Insert_string_end_room Tryd.laysIns g 0 l.length c vb 0 1 1 [.string x] w (by decide) hroom (by omega) rfl (fun j hj => by rw [Nat.zero_add]; exact hsp _ (by omega)) (fun j _ => ho.frozenAt _) hvs h1v).mono ?_
        rintro e w' ⟨rfl, rfl⟩
        refine ⟨⟨g, c, rfl, by rw [size_cells]; exact hgl, hroom, ?_⟩, below_cells hb _ _ _ _ (Below.refl B w)⟩
        intro j y hy
        rcases insert_get (Nat.le_refl _) hy with ⟨h1, h2⟩ | ⟨rfl, rfl⟩ | ⟨h1, h2⟩
        · rw [show 0 + l.length = l.length by omega, one_out _ _ _ _ _ (by omega)]
          exact own_cell ho (hcs0 j y h2)
        · rw [show 0 + l.length = l.length by omega]
          exact one_in _ _ _ _ (hsp _ (by omega))
        · have := (List.getElem?_eq_some_iff.1 h2).1
          omega
      · refine (Any2.slices_Insert_string_shift Tryd.laysIns g 0 l.length c k vb 0 1 1 (l.map Value.string) [.string x] w (by omega) (by decide) hroom (by omega) (fun e => hne (by rw [← e]; rfl)) hlm rfl hcs (fun j hj => by rw [Nat.zero_add]; exact hsp _ (by omega)) (fun j _ => ho.frozenAt _) hvs (texts_one l) h1v
          9 9 1 cur.size (by unfold World.shape?; rw [hx]; rfl) (by unfold World.shape?; rw [hh]) (by omega) (hx.frozen (show 1 ≤ maxLen by decide) 0) (hx.frozen (show 1 ≤ maxLen by decide) 1)).mono ?_
        rintro e w' ⟨rfl, rfl⟩
        refine ⟨⟨g, c, rfl, by rw [size_cells, size_cells]; exact hgl, hroom, ?_⟩, below_cells hb _ _ _ _ (below_cells hb _ _ _ _ (Below.refl B w).drew)⟩
        intro j y hy
        rw [show 0 + k = k by omega, show 0 + (k + 1) = k + 1 by omega]
        have hdl : ((l.map Value.string).drop k).length = l.length - k := by simp
        rcases insert_get hk hy with ⟨h1, h2⟩ | ⟨rfl, rfl⟩ | ⟨h1, h2⟩
        · rw [one_out _ _ _ _ _ (by omega), rest_out _ _ _ _ _ (by omega)]
          exact own_cell ho (hcs0 j y h2)
        · exact one_in _ _ _ _ (rest_some _ _ _ _ _ (l.length + 1) (fun i hi => hsp i (by omega)) (by omega) (by omega))
        · rw [one_out _ _ _ _ _ (by omega)]
          exact rest_in _ _ _ _ _ _ h1 h2 (fun i hi => hsp i (by omega))
    · by_cases hkn : k = l.length
      · subst hkn
        refine (Any2.slices_Insert_string_end_grow Tryd.laysIns (some ⟨g, 0, none⟩) l.length c vb 0 1 1 (l.map Value.string) [.string x] w (by decide) hcp.1 (by omega) (by omega) hlm rfl (fun h => by cases h) (fun a ha j u hj => by injection ha with ha; subst ha; rw [Addr.add_lit]; exact hcs j u hj) hvs h1v).mono ?_
        rintro e w' ⟨rfl, rfl⟩
        refine ⟨⟨w.heap.size, _, rfl, by simp, grownCap_ge _ _ _ _, ?_⟩, (Below.refl B w).drew.alloc hB _⟩
        intro j y hy
        refine new_cell w.drew (l.map Value.string ++ [Value.string x]) _ _ j _ ?_
        rcases insert_get (Nat.le_refl _) hy with ⟨h1, h2⟩ | ⟨rfl, rfl⟩ | ⟨h1, h2⟩
        · rw [List.getElem?_append_left (by rw [hlm]; exact h1)]
          exact hcs0 j y h2
        · rw [List.getElem?_append_right (by rw [hlm]; exact Nat.le_refl _), hlm, Nat.sub_self]; rfl
        · have := (List.getElem?_eq_some_iff.1 h2).1
          omega
      · refine (Any2.slices_Insert_string_grow Tryd.laysIns g 0 l.length c k vb 0 1 1 (l.map Value.string) [.string x] w (by omega) (by decide) hcp.1 (by omega) (by omega) hlm rfl hcs hvs (texts_one l) h1v).mono ?_
        rintro e w' ⟨rfl, rfl⟩
        refine ⟨⟨w.heap.size, _, rfl, by rw [size_cells]; show _ < (World.setCells _ _ _ _).heap.size; rw [size_cells]; simp, grownCap_ge _ _ _ _, ?_⟩, below_cells hB _ _ _ _ (below_cells hB _ _ _ _ ((Below.refl B w).alloc hB _).drew).drew⟩
        intro j y hy
        have hdl : ((l.map Value.string).drop k).length = l.length - k := by simp
        have hge := grownCap_ge w (l.length + 1) c (Tryd.laysIns_ren.t 9)
        generalize grownCap w (l.length + 1) c (Tryd.laysIns_ren.t 9) = C at *
        generalize hZ1 : Builtin.zeroCells (Value.string ⟨#[]⟩).cells (l.length + 1 - k) = Z1
        have hz1 : Z1.size = l.length + 1 - k := by rw [← hZ1, size_zeroCells]; simp [Value.cells]
        rw [Array.append_assoc]
        generalize hA : ((l.map Value.string).take k).toArray ++ (Z1 ++ _) = A
        have hAs : l.length + 1 ≤ A.size := by rw [← hA]; simp [hz1]; omega
        have hss : ∀ i, i < l.length + 1 → ((w.alloc (.cells A (Tryd.laysIns_ren.t 9))).cell? ⟨w.heap.size, i, none⟩).isSome = true := fun i hi => by
          rw [cell_of_row _ _ i _ _ _ (heap_alloc_last w _), Array.getElem?_eq_getElem (by omega)]; rfl
        rcases insert_get hk hy with ⟨h1, h2⟩ | ⟨rfl, rfl⟩ | ⟨h1, h2⟩
        · rw [rest_out _ _ _ _ _ (by omega)]
          show (World.setCells _ _ _ _).cell? _ = _
          rw [one_out _ _ _ _ _ (by omega), ← hA]
          exact new_cell w ((l.map Value.string).take k) _ _ j _ (by rw [List.getElem?_take_of_lt h1]; exact hcs0 j y h2)
        · rw [rest_out _ _ _ _ _ (by omega)]
          exact one_in _ _ _ _ (hss _ (by omega))
        · exact rest_in _ _ _ _ _ _ h1 h2 (fun i hi => rest_some _ _ _ _ _ (l.length + 1) hss (by show k + 1 ≤ _; omega) hi)
end Go.Proofs.YthlagpmacnijfaaDoor

namespace Go.Proofs.YthlagpmacnijfaaDoor
open Go.RowKit

def PrintDoes : Prop := ∀ (a : Option Addr) (n c : Nat) (l : List Bt.S) (w : World), SetsAt w w.heap.size a n l → n ≤ 2000000 → SetsOk l → BTabs w →
  Calls Tryd.prog 12 #[.slice a n c] w fun e w' => e = .returned (.tuple #[.string (Ln.ofT (Bt.tOut l)), .int .i64 (Bt.tErr l : Int)]) ∧ Below w.heap.size w w'
def ParseDoes : Prop := ∀ (s : ByteArray) (w : World), BTabs w → Calls Tryd.prog 13 #[.string s] w (ParsePost s w)
def LineDoes : Prop := ∀ (s : Bt.S) (w : World), s.t.size ≤ 1048576 → s.a < 4294967296 → -9223372036854775808 ≤ s.n → s.n ≤ 9223372036854775807 → BTabs w →
  Calls Tryd.prog 8 #[setV s] w fun e w' => e = .returned (.tuple #[lineV (Bt.line s), .int .i64 (Bt.err s : Int)]) ∧ Below w.heap.size w w'
def ReadDoes : Prop := ∀ (l : Ln.L) (w : World), l.v.size ≤ 1048576 → BTabs w →
  Calls Tryd.prog 16 #[lineV l] w fun e w' => e = .returned (.tuple #[setV (Bt.ofLine l).1, .int .i64 ((Bt.ofLine l).2 : Int)]) ∧ Below w.heap.size w w'
theorem SetsOk.of {l : List Bt.S} (h : ∀ s ∈ l, s.t.size ≤ 64 ∧ s.a < 4294967296 ∧ 0 ≤ s.n ∧ s.n ≤ 65535) : SetsOk l := fun s hs => by
  obtain ⟨h1, h2, h3, h4⟩ := h s hs
  exact ⟨by omega, h2, by omega, by omega⟩
end Go.Proofs.YthlagpmacnijfaaDoor

namespace Go.Proofs.YthlagpmacnijfaaDoor
open Go.RowKit

namespace Bt
abbrev textW : ByteArray := ⟨#[119, 104, 97, 116, 61, 49]⟩
def lineW : Ln.L := ⟨⟨#[119, 104, 97, 116]⟩, ⟨#[49]⟩⟩
theorem lineW_err : Ln.err lineW = 0 ∧ (ofLine lineW).2 = 2 ∧ Ln.ofT (Ln.lineT lineW) = textW := ⟨by decide +kernel, by decide +kernel, rfl⟩
theorem lines_wrong {L : List S} (hg : ∀ s ∈ L, good s) (h20 : L.length ≤ 20) (hl : ∀ s ∈ L, Ln.err (line s) = 0) (k : Nat) (hk : k ≤ L.length) :
    pBad (Ln.ofT (Ad.glue 10 (((L.map shown).take k ++ textW :: (L.map shown).drop k).map (·.data.toList)))) = (k + 1, 2) := by
  obtain ⟨w1, w2, w3⟩ := lineW_err
  obtain ⟨M, hM⟩ : ∃ M, M = (L.map line).take k ++ lineW :: (L.map line).drop k := ⟨_, rfl⟩
  have hsh : L.map shown = (L.map line).map (fun x => Ln.ofT (Ln.lineT x)) := by
    rw [map_lines (fun s hs => (hg s hs).1), List.map_map]; rfl
  have hT : ((L.map shown).take k ++ textW :: (L.map shown).drop k).map (·.data.toList) = M.map Ln.lineT := by
    rw [hM, hsh, ← w3, ← List.map_take, ← List.map_drop, List.map_append, List.map_cons, List.map_append, List.map_cons, List.map_map, List.map_map]
    rfl
  have hMe : ∀ x ∈ M, Ln.err x = 0 := by
    intro x hx
    rw [hM] at hx
    rcases List.mem_append.1 hx with hx | hx
    · obtain ⟨s, hs, rfl⟩ := List.mem_map.1 (List.mem_of_mem_take hx)
      exact hl s hs
    · rcases List.mem_cons.1 hx with rfl | hx
      · exact w1
      · obtain ⟨s, hs, rfl⟩ := List.mem_map.1 (List.mem_of_mem_drop hx)
        exact hl s hs
  have hMl : M.length = L.length + 1 := by rw [hM]; simp; omega
  have ht := Ln.glue_length 10 101 (M.map Ln.lineT) (by
    intro p hp
    obtain ⟨x, hx, rfl⟩ := List.mem_map.1 hp
    have := (Ln.err_zero (hMe x hx)).1
    rw [Ln.lineT_length]; omega)
  rw [List.length_map] at ht
  have hj : Ln.jErr M = 0 := by
    have h3 : (Ln.jText M).length ≤ 3000 := by unfold Ln.jText; omega
    unfold Ln.jErr
    rw [if_neg (by omega), if_neg (by rw [Ln.fault_good _ hMe]; decide), if_neg (by omega)]
  obtain ⟨b1, b2⟩ := Ln.split_join hj
  have ho : Ln.jOut M = Ln.jText M := by unfold Ln.jOut; rw [if_pos hj]
  rw [ho] at b1 b2
  rw [hT]
  show pBad (Ln.ofT (Ln.jText M)) = _
  rw [pBad_wrong (by rw [b1]), b2]
  have hkM : k < M.length := by omega
  have hat : M[k] = lineW := by
    have : M[k]? = some lineW := by
      rw [hM, List.getElem?_append_right (by rw [List.length_take]; omega), List.length_take, List.length_map, Nat.min_eq_left hk, Nat.sub_self]; rfl
    exact (List.getElem?_eq_some_iff.1 this).2
  have hw := wrong_at M 0 k hkM (by
    intro p hp
    rw [hM, List.take_append_of_le_length (by rw [List.length_take, List.length_map]; omega), List.take_take, Nat.min_self] at hp
    obtain ⟨s, hs, rfl⟩ := List.mem_map.1 (List.mem_of_mem_take hp)
    rw [of_line (hg s hs).1 (hg s hs).2.2.1]) (by rw [hat, w2]; decide)
  rw [hw, hat, w2, Nat.zero_add]
theorem raws_lines (l : List RawD) (m : Nat) : ∀ s ∈ rawsS l m, Ln.err (line s) = 0 := by
  intro s hs
  obtain ⟨r, _, rfl⟩ := List.mem_map.1 hs
  exact raw_line r
end Bt
end Go.Proofs.YthlagpmacnijfaaDoor

namespace Go.Proofs.YthlagpmacnijfaaDoor
open Go.RowKit

theorem Blk.facts2 {w : World} {g : Nat} {t : TypeId} {x0 x1 : Value} (h : Blk w g t [x0, x1]) :
    (w.cell? ⟨g, 0, none⟩ = some x0 ∧ w.cell? ⟨g, 1, none⟩ = some x1) ∧ (w.frozen? ⟨g, 0, none⟩ = false ∧ w.frozen? ⟨g, 1, none⟩ = false) := by
  have h5 : 2 ≤ maxLen := by decide
  exact ⟨⟨h.cell 0 rfl, h.cell 1 rfl⟩, ⟨h.frozen h5 0, h.frozen h5 1⟩⟩
set_option maxRecDepth 20000 in
set_option maxHeartbeats 2000000 in
theorem law_BatchLines (hLi : LineDoes) (hRe : ReadDoes) (hPa : ParseDoes) (a : Option Addr) (n c : Nat) (l : List RawD) (q : Int) (w : World) (h : RawsAt w w.heap.size a n l) (hn : n ≤ maxLen) (hok : ∀ r ∈ l, r.ok)
    (q0 : -9223372036854775808 ≤ q) (q1 : q ≤ 9223372036854775807) (hT : BTabs w) :
    Calls Tryd.prog 6 #[.slice a n c, .int .i64 q] w fun e w' => e = .returned (.bool true) ∧ Below w.heap.size w w' := by
  have H1 := Lib.hid (keep_Settings a n c 20 l w h hn (by decide) hok)
  obtain ⟨g1, g2, g3⟩ := Bt.raws_good l 20 (by decide)
  have g4 := Bt.raws_lines l 20
  have HG := Lib.hid g1
  have HP := Lib.hid (fun k hk => Bt.lines_wrong g1 g2 g4 k hk)
  have HT := Lib.hid hT
  have HLi := Lib.hid hLi
  have HRe := Lib.hid hRe
  have HPa := Lib.hid hPa
  clear h hok hT hLi hRe hPa g1 g3 g4
  generalize Bt.rawsS l 20 = L at *
  go_enter Tryd.func6, Tryd.ntmps6
  go_wp2_with fail
  refine H1.out.mono ?_
  rintro e w1 ⟨⟨v, rfl, hO⟩, hb1⟩
  obtain ⟨a1, c1, rfl, hat⟩ := hO.at
  have HL := Lib.hid hat
  have HB1 := Lib.hid hb1
  clear hat hb1 H1 hO
  go_wp2
  go_loopw [6, 21] (fun v i wr => ∃ k : Nat, k ≤ L.length ∧ i = .int .i64 k ∧ Hid (OwnT wr w1.heap.size v ((L.take k).map Bt.shown)) ∧ Hid (Below w1.heap.size w1 wr)) (fun _ i _ => L.length - (intOf i).toNat)
  case atStart => exact ⟨0, Nat.zero_le _, rfl, Lib.hid (OwnT.nil _ _), Lib.hid (Below.refl _ _)⟩
  case round =>
    obtain ⟨k, hk, rfl, HO, HBr⟩ := hrel
    obtain ⟨wo, hwo⟩ : ∃ wo, wo = wr := ⟨_, rfl⟩
    subst hwo
    have hsz := HBr.out.size
    by_cases hlt : k < L.length
    · obtain ⟨b, off, rfl, hbl, hc⟩ := (HL.out.below HBr.out).2 (by omega)
      obtain ⟨c0, c1, c2, c3, c4⟩ := hc k hlt
      have Hg := Lib.hid (HG.out L[k] (List.getElem_mem hlt))
      have Hm : Hid ((L.take (k + 1)).map Bt.shown = (L.take k).map Bt.shown ++ [Bt.shown L[k]]) := Lib.hid (by rw [List.take_succ_eq_append_getElem hlt, List.map_append, List.map_singleton])
      have hDl : ((L.take k).map Bt.shown).length + 1 ≤ 2518437208883 := by rw [List.length_map, List.length_take]; omega
      have HBo := Lib.hid (HB1.out.trans (HBr.out.mono HB1.out.size))
      clear hc
      generalize L[k] = x at *
      generalize (L.take k).map Bt.shown = D at *
      obtain ⟨he, e1, e2, e3, e4, -, -⟩ := Hg.out
      have hv := Bt.val_short Hg.out
      have hx := Bt.name_short x.k.toNat (by have := (Bt.err_in he).1; omega)
      have H2 := Lib.hid (fun W (hW : BTabs W) => HLi.out x W (by omega) e2 (by omega) (by omega) hW)
      have H3 := Lib.hid (fun W (hW : BTabs W) => HRe.out (Bt.line x) W (by unfold Bt.line; rw [if_pos he]; show (Bt.val x).size ≤ _; omega) hW)
      rw [Bt.of_line he e2] at H3
      have hln : Bt.line x = ⟨Bt.nameOf x.k.toNat, Bt.val x⟩ := by unfold Bt.line; rw [if_pos he]; rfl
      have hsh : Bt.shown x = Bt.nameOf x.k.toNat ++ (⟨#[61]⟩ : ByteArray) ++ Bt.val x := by rw [Bt.lineText_join]; rfl
      rw [he, hln] at H2
      rw [hln] at H3
      rw [hsh] at Hm
      clear hln hsh he e1 e2 e3 e4 Hg
      generalize Bt.nameOf x.k.toNat = X at *
      generalize Bt.val x = V at *
      obtain ⟨xk, xt, xn, xa, xb⟩ := x
      unfold setV lineV at H2 H3
      simp only at c0 c1 c2 c3 c4
      have HA := Lib.hid (HBr.out.alloc hsz (.cells #[.int .i64 xk, .string xt, .int .i64 xn, .int .u32 (xa : Int), .int .i64 xb] 26))
      have HO1 := Lib.hid (HO.out.alloc (.cells #[.int .i64 xk, .string xt, .int .i64 xn, .int .u32 (xa : Int), .int .i64 xb] 26))
      go_wp2_with fail
      refine (H2.out _ (HT.out.below (HB1.out.trans (HA.out.mono HB1.out.size)))).mono ?_
      rintro e w3 ⟨rfl, hb3⟩
      obtain ⟨w4, hw4⟩ : ∃ w4, w4 = w3.alloc (.cells #[.string X, .string V] 30) := ⟨_, rfl⟩
      have hb34 : Below w3.heap.size w3 w4 := by rw [hw4]; exact (Below.refl _ _).alloc (Nat.le_refl _) _
      have HS4 := Lib.hid (((Blk.new wo 26 [.int .i64 xk, .string xt, .int .i64 xn, .int .u32 (xa : Int), .int .i64 xb]).kept hb3).kept hb34)
      have HL4 : Hid (Blk w4 w3.heap.size 30 [.string X, .string V]) := Lib.hid (by rw [hw4]; exact Blk.new _ _ _)
      have HB4 := Lib.hid ((HA.out.trans (hb3.mono HA.out.size)).trans (hb34.mono (HA.out.trans (hb3.mono HA.out.size)).size))
      have HO4 := Lib.hid ((HO1.out.below hb3).below hb34)
      obtain ⟨⟨y0, y1⟩, -⟩ := HL4.out.facts2
      rw [hw4] at y0 y1
      have Hw4 := Lib.hid hw4
      clear hb34 hb3 H2 c0 c1 c2 c3 c4 HA HO1 HO hw4
      go_wp2_with fail
      rw [← Hw4.out]
      refine (H3.out w4 (HT.out.below (HB1.out.trans (HB4.out.mono HB1.out.size)))).mono ?_
      rintro e w5 ⟨rfl, hb5⟩
      obtain ⟨w6, hw6⟩ : ∃ w6, w6 = w5.alloc (.cells #[.int .i64 xk, .string xt, .int .i64 xn, .int .u32 (xa : Int), .int .i64 xb] 26) := ⟨_, rfl⟩
      have hb56 : Below w5.heap.size w5 w6 := by rw [hw6]; exact (Below.refl _ _).alloc (Nat.le_refl _) _
      have HS6 := Lib.hid ((HS4.out.kept hb5).kept hb56)
      have HL6 := Lib.hid ((HL4.out.kept hb5).kept hb56)
      have HN6 : Hid (Blk w6 w5.heap.size 26 [.int .i64 xk, .string xt, .int .i64 xn, .int .u32 (xa : Int), .int .i64 xb]) := Lib.hid (by rw [hw6]; exact Blk.new _ _ _)
      have HB6 := Lib.hid ((HB4.out.trans (hb5.mono HB4.out.size)).trans (hb56.mono (HB4.out.trans (hb5.mono HB4.out.size)).size))
      have HO6 := Lib.hid (((HO4.out.below hb5).below hb56).alloc (.cells #[.string (X ++ (⟨#[61]⟩ : ByteArray) ++ V)] 9))
      have HB7 := Lib.hid (HB6.out.alloc HB6.out.size (.cells #[.string (X ++ (⟨#[61]⟩ : ByteArray) ++ V)] 9))
      have hlt7 := HB7.out.size
      have Hnw := Lib.hid (news_one w6 (.string (X ++ (⟨#[61]⟩ : ByteArray) ++ V)) 9)
      obtain ⟨⟨g0, g1, g2, g3, g4⟩, -⟩ := HS6.out.facts5
      obtain ⟨⟨m0, m1, m2, m3, m4⟩, -⟩ := HN6.out.facts5
      obtain ⟨⟨k0, k1⟩, -⟩ := HL6.out.facts2
      have sz1 : (X ++ (⟨#[61]⟩ : ByteArray)).size = X.size + 1 := by rw [ByteArray.size_append]; rfl
      have n1 : (X.size + (⟨#[61]⟩ : ByteArray).size > 9223372036854775807) = False := eq_false (by show ¬ (X.size + 1 > _); omega)
      have n2 : ((X ++ (⟨#[61]⟩ : ByteArray)).size + V.size > 9223372036854775807) = False := eq_false (by rw [sz1]; omega)
      have n3 : (9223372036854775807 < X.size + 1) = False := eq_false (by omega)
      have n4 : (9223372036854775807 < X.size + 1 + V.size) = False := eq_false (by omega)
      have hlit : w5.alloc (.cells #[.int .i64 xk, .string xt, .int .i64 xn, .int .u32 (xa : Int), .int .i64 xb] 26) = w6 := hw6.symm
      clear hb5 hb56 H3 HS4 HL4 HB4 HO4 y0 y1 Hw4 HS6 HL6 HN6 HB6 hw6
      go_wp2_with (at_builtin; refine wpL_append_text _ rfl _ _ rfl w1.heap.size _ D rfl HO6.out _ 1 _ [X ++ (⟨#[61]⟩ : ByteArray) ++ V] rfl rfl Hnw.out hDl hlt7 ?_)
      intro v' w8 hO8 hb8
      have HB8 := Lib.hid (HB7.out.trans hb8)
      rw [← Hm.out] at hO8
      have HO8 := Lib.hid hO8
      clear hO8 hb8
      go_wp2
      go_roundw
      case rel => exact ⟨k + 1, by omega, by go_num, HO8, HB8⟩
      case measure => simp [intOf]; omega
    · obtain rfl : k = L.length := by omega
      rw [List.take_of_length_le (Nat.le_refl _)] at HO
      have HBf := Lib.hid (HB1.out.trans (HBr.out.mono HB1.out.size))
      have HQ := Lib.hid (fun W => keep_picked q (L.length + 1) W q0 q1 (by omega) (by omega))
      have hp := pick_lt q (L.length + 1) (by omega)
      have hle : Hid ((L.map Bt.shown).length = L.length) := Lib.hid (List.length_map ..)
      obtain ⟨av, cv, hv, how⟩ := HO.out
      have hlt := how.lt
      rw [← hv] at hlt
      rw [hle.out] at hv
      have HI := Lib.hid (fun p (hp : p ≤ L.length) => keep_insert (L.map Bt.shown) u6 w1.heap.size p (wo.alloc (.cells #[.string Bt.textW] 9)) Bt.textW wo.heap.size (HO.out.alloc _) (Blk.new _ _ _) (fun e => absurd (hlt _ e).2 (Nat.lt_irrefl _)) (by rw [hle.out]; exact hp) (by rw [hle.out]; omega) (by have := HBr.out.size; simp; omega))
      subst hv
      have HPk := Lib.hid (HP.out (pick q (L.length + 1)) (by omega))
      generalize pick q (L.length + 1) = p at *
      have HI2 := Lib.hid (HI.out p (by omega))
      have HJ : Hid (∀ b' c' W, b' < W.heap.size → L.length + 1 ≤ c' → (∀ j y, ((L.map Bt.shown).take p ++ Bt.textW :: (L.map Bt.shown).drop p)[j]? = some y → W.cell? ⟨b', j, none⟩ = some (.string y)) →
          Calls Tryd.prog 18 #[.slice (some ⟨b', 0, none⟩) (L.length + 1) c', .string ⟨#[10]⟩] W fun e W' => e = .returned (.string (Ln.ofT (Ad.glue 10 (((L.map Bt.shown).take p ++ Bt.textW :: (L.map Bt.shown).drop p).map (·.data.toList))))) ∧ Below W.heap.size W W') := Lib.hid (fun b' c' W hb hc hcell => by
        have hLL : ((L.map Bt.shown).take p ++ Bt.textW :: (L.map Bt.shown).drop p).length = L.length + 1 := by simp; omega
        have hjl : Lib.join (((L.map Bt.shown).take p ++ Bt.textW :: (L.map Bt.shown).drop p).map (·.data.toList)) (⟨#[10]⟩ : ByteArray).data.toList = Ad.glue 10 (((L.map Bt.shown).take p ++ Bt.textW :: (L.map Bt.shown).drop p).map (·.data.toList)) := join_glue 10 _
        have hgl := Ln.glue_length 10 1000 (((L.map Bt.shown).take p ++ Bt.textW :: (L.map Bt.shown).drop p).map (·.data.toList)) (by
          intro t ht
          obtain ⟨x, hx, rfl⟩ := List.mem_map.1 ht
          have hx2 : x.size ≤ 1000 := by
            rcases List.mem_append.1 hx with hx | hx
            · obtain ⟨s, hs, rfl⟩ := List.mem_map.1 (List.mem_of_mem_take hx)
              exact Bt.shown_short (HG.out s hs)
            · rcases List.mem_cons.1 hx with rfl | hx
              · decide
              · obtain ⟨s, hs, rfl⟩ := List.mem_map.1 (List.mem_of_mem_drop hx)
                exact Bt.shown_short (HG.out s hs)
          rw [ByteArray.size] at hx2
          simpa using hx2)
        rw [List.length_map, hLL] at hgl
        have h := Tryd.strings_Join b' 0 c' ((L.map Bt.shown).take p ++ Bt.textW :: (L.map Bt.shown).drop p) ⟨#[10]⟩ W (fun j y hj => by rw [Nat.zero_add]; exact hcell j y hj) hb (by omega) (by omega) (by rw [hjl]; omega)
        rw [hjl, hLL] at h
        exact h)
      have HPs := Lib.hid (fun W hW => HPa.out (Ln.ofT (Ad.glue 10 (((L.map Bt.shown).take p ++ Bt.textW :: (L.map Bt.shown).drop p).map (·.data.toList)))) W hW)
      unfold ParsePost at HPs
      rw [HPk.out] at HPs
      unfold InsPost at HI2
      rw [hle.out] at HI2
      generalize (L.map Bt.shown).take p ++ Bt.textW :: (L.map Bt.shown).drop p = LL at *
      generalize Ln.ofT (Ad.glue 10 (LL.map (·.data.toList))) = T at *
      generalize Bt.pOut T = O at *
      clear HP HPk HG HLi HRe HPa HI hlt how HL
      have hpe : ((p + 1 : Nat) : Int) = (p : Int) + 1 := by omega
      simp only [hpe] at HPs
      have hwr : IntKind.i64.wrap ((p : Int) + 1) = (p : Int) + 1 := IntWalk.i64_in _ (by omega)
      clear hpe
      go_wp2_with fail
      refine (HQ.out _).mono ?_
      rintro e wx ⟨rfl, hwx⟩
      rw [← hwx]
      clear hwx wx
      go_wp2_with fail
      refine HI2.out.mono ?_
      rintro e w4 ⟨⟨b', c', rfl, hb', hc', hcell⟩, hb4⟩
      have HJ4 := Lib.hid (HJ.out b' c' w4 hb' hc' hcell)
      have HB4 := Lib.hid ((HBr.out.alloc HBr.out.size (.cells #[.string Bt.textW] 9)).trans hb4)
      clear hb' hc' hcell hb4 HI2 HJ
      go_wp2_with fail
      refine HJ4.out.mono ?_
      rintro e w5 ⟨rfl, hb5⟩
      have HB5 := Lib.hid (HB1.out.trans ((HB4.out.trans (hb5.mono HB4.out.size)).mono HB1.out.size))
      clear hb5 HB4 HJ4
      go_wp2_with fail
      refine (HPs.out w5 (HT.out.below HB5.out)).mono ?_
      rintro e w6 ⟨⟨a6, c6, rfl, -⟩, hb6⟩
      have HB6 := Lib.hid (HB5.out.trans (hb6.mono HB5.out.size))
      clear hb6
      go_wp2
      go_ret
      exact ⟨rfl, HB6.out⟩
end Go.Proofs.YthlagpmacnijfaaDoor

namespace Go.Proofs.YthlagpmacnijfaaDoor
open Go.RowKit

theorem set_parts (xk yk : Int) (xt yt : ByteArray) (xn yn : Int) (xa ya : Nat) (xb yb : Int) : (xk = yk ∧ xt = yt ∧ xn = yn ∧ xa = ya ∧ xb = yb) ∨ (xk == yk) = false ∨ (xk = yk ∧ (xt.toList == yt.toList) = false) ∨ (xk = yk ∧ xt = yt ∧ (xn == yn) = false) ∨ (xk = yk ∧ xt = yt ∧ xn = yn ∧ ((xa : Int) == (ya : Int)) = false) ∨ (xk = yk ∧ xt = yt ∧ xn = yn ∧ xa = ya ∧ (xb == yb) = false) := by
  by_cases h1 : xk = yk
  · rcases text_eq xt yt with h2 | h2
    · by_cases h3 : xn = yn
      · by_cases h4 : xa = ya
        · by_cases h5 : xb = yb
          · exact .inl ⟨h1, h2, h3, h4, h5⟩
          · exact .inr (.inr (.inr (.inr (.inr ⟨h1, h2, h3, h4, beq_eq_false_iff_ne.2 h5⟩))))
        · exact .inr (.inr (.inr (.inr (.inl ⟨h1, h2, h3, beq_eq_false_iff_ne.2 (by omega)⟩))))
      · exact .inr (.inr (.inr (.inl ⟨h1, h2, beq_eq_false_iff_ne.2 h3⟩)))
    · exact .inr (.inr (.inl ⟨h1, h2⟩))
  · exact .inr (.inl (beq_eq_false_iff_ne.2 h1))
set_option maxRecDepth 20000 in
set_option maxHeartbeats 6400000 in
theorem sets_Equal (a b : Option Addr) (n m c d : Nat) (l k : List Bt.S) (w : World) (hl : SetsAt w w.heap.size a n l) (hk : SetsAt w w.heap.size b m k) (hn : n ≤ 2518437208883) :
    Calls Tryd.prog 14 #[.slice a n c, .slice b m d] w fun e w' => ∃ r : Bool, e = .returned (.bool r) ∧ (r = true ↔ l = k) ∧ Below w.heap.size w w' := by
  have Hl := Lib.hid hl
  have Hk := Lib.hid hk
  have hl1 := hl.1
  have hk1 := hk.1
  clear hl hk
  by_cases hnm : n = m
  · subst hnm
    go_enter Tryd.func14, Tryd.ntmps14
    go_wp2
    go_loopw [13] (fun i wr => ∃ j : Nat, j ≤ n ∧ i = .int .i64 j ∧ Hid (l.take j = k.take j) ∧ Below w.heap.size w wr) (fun i _ => n - (intOf i).toNat)
    case atStart => exact ⟨0, Nat.zero_le _, rfl, Lib.hid rfl, Below.refl _ _⟩
    case round =>
      obtain ⟨j, hj, rfl, Ht, hB⟩ := hrel
      by_cases hlt : j < n
      · obtain ⟨b1, o1, rfl, _, hc1⟩ := (Hl.out.below hB).2 (by omega)
        obtain ⟨b2, o2, rfl, _, hc2⟩ := (Hk.out.below hB).2 (by omega)
        obtain ⟨x0, x1, x2, x3, x4⟩ := hc1 j (by omega)
        obtain ⟨y0, y1, y2, y3, y4⟩ := hc2 j (by omega)
        clear hc1 hc2
        generalize hX : l[j] = X at *
        generalize hY : k[j] = Y at *
        have HX := Lib.hid hX
        have HY := Lib.hid hY
        clear hX hY
        obtain ⟨xk, xt, xn, xa, xb⟩ := X
        obtain ⟨yk, yt, yn, ya, yb⟩ := Y
        have i1 : (j : Int) < (n : Int) := by omega
        have hjl : j < l.length := by omega
        have hjk : j < k.length := by omega
        rcases set_parts xk yk xt yt xn yn xa ya xb yb with ⟨rfl, rfl, rfl, rfl, rfl⟩ | q0 | ⟨rfl, q0⟩ | ⟨rfl, rfl, q0⟩ | ⟨rfl, rfl, rfl, q0⟩ | ⟨rfl, rfl, rfl, rfl, q0⟩
        · go_wp2_with fail
          go_quiet (fail)
          go_wp2
          go_roundw
          case rel => exact ⟨j + 1, by omega, by go_num, Lib.hid (by rw [List.take_succ_eq_append_getElem hjl, List.take_succ_eq_append_getElem hjk, Ht.out, HX.out, HY.out]), below_drewN hB _⟩
          case measure => simp [intOf]; omega
        · have hne : l ≠ k := fun e => by subst e; have h := HX.out.symm.trans HY.out; injection h with h1 h2 h3 h4 h5; simp [h1] at q0
          clear HX HY Ht
          go_wp2_with fail
          go_quiet (fail)
          go_wp2
          go_ret
          exact ⟨_, rfl, ⟨fun h => (by cases h), fun h => absurd h hne⟩, below_drewN hB _⟩
        · have hne : l ≠ k := fun e => by subst e; have h := HX.out.symm.trans HY.out; injection h with h1 h2 h3 h4 h5; simp [h2] at q0
          clear HX HY Ht
          go_wp2_with fail
          go_quiet (fail)
          go_wp2
          go_ret
          exact ⟨_, rfl, ⟨fun h => (by cases h), fun h => absurd h hne⟩, below_drewN hB _⟩
        · have hne : l ≠ k := fun e => by subst e; have h := HX.out.symm.trans HY.out; injection h with h1 h2 h3 h4 h5; simp [h3] at q0
          clear HX HY Ht
          go_wp2_with fail
          go_quiet (fail)
          go_wp2
          go_ret
          exact ⟨_, rfl, ⟨fun h => (by cases h), fun h => absurd h hne⟩, below_drewN hB _⟩
        · have hne : l ≠ k := fun e => by subst e; have h := HX.out.symm.trans HY.out; injection h with h1 h2 h3 h4 h5; simp [h4] at q0
          clear HX HY Ht
          go_wp2_with fail
          go_quiet (fail)
          go_wp2
          go_ret
          exact ⟨_, rfl, ⟨fun h => (by cases h), fun h => absurd h hne⟩, below_drewN hB _⟩
        · have hne : l ≠ k := fun e => by subst e; have h := HX.out.symm.trans HY.out; injection h with h1 h2 h3 h4 h5; simp [h5] at q0
          clear HX HY Ht
          go_wp2_with fail
          go_quiet (fail)
          go_wp2
          go_ret
          exact ⟨_, rfl, ⟨fun h => (by cases h), fun h => absurd h hne⟩, below_drewN hB _⟩
      · obtain rfl : j = n := by omega
        have hlk : l = k := by have h := Ht.out; rwa [List.take_of_length_le (by omega), List.take_of_length_le (by omega)] at h
        clear Ht Hl Hk
        go_wp2
        go_ret
        exact ⟨_, rfl, ⟨fun _ => hlk, fun _ => rfl⟩, hB⟩
  · have hne : ((n : Int) != (m : Int)) = true := by simp; omega
    have hlk : l ≠ k := fun e => hnm (by rw [← hl1, ← hk1, e])
    clear Hl Hk
    go_enter Tryd.func14, Tryd.ntmps14
    go_wp2
    go_ret
    exact ⟨_, rfl, ⟨fun h => (by cases h), fun h => absurd h hlk⟩, Below.refl _ _⟩
end Go.Proofs.YthlagpmacnijfaaDoor
