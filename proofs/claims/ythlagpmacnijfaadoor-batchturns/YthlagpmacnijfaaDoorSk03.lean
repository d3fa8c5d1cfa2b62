/- How the arguments of a law are read: what every row needs. -/
import Derived.Test.YthlagpmacnijfaaDoorSk02
import Derived.Test.YthlagpmacnijfaaDoorBatchPlain4
import Derived.Test.YthlagpmacnijfaaDoorNetMem
import Derived.Test.YthlagpmacnijfaaDoorNetPlain
import Derived.Test.YthlagpmacnijfaaDoorRows
import Derived.Test.YthlagpmacnijfaaDoorMem
import Derived.Laws.BitsAllLaws
import Derived.Deep.RegionWith
import Derived.Shelf.Strings.Repeat
import Derived.Test.YthlagpmacnijfaaDoorProg
import Derived.Test.YthlagpmacnijfaaDoorHexPlain
import Derived.ProofKit
import Derived.OpenShut
import Derived.ShutString
import Derived.ChangeOld
import Derived.Below
import Derived.SizedLaws
namespace Go.Proofs.YthlagpmacnijfaaDoor
open Go.RowKit

theorem parsePost_ok {s : ByteArray} {w w' : World} {g : Nat} {O : List Ln.L} (hO : O = Ln.sOut s) (h0 : (Ln.sBad s).2 = 0) (hall : ∀ p ∈ O, (Bt.ofLine p).2 = 0) (hB : Blk w' g 26 (Bt.setsC (O.map fun p => (Bt.ofLine p).1))) (hb : Below w.heap.size w w') :
    ParsePost s w (.returned (.tuple #[.slice (some ⟨g, 0, none⟩) O.length O.length, .int .i64 0, .int .i64 0])) w' := by
  have hp : Bt.pBad s = (0, 0) := by rw [Bt.pBad_wrong h0, ← hO, Bt.wrong_good O 0 hall]
  have ho : Bt.pOut s = O.map fun p => (Bt.ofLine p).1 := by unfold Bt.pOut; rw [hp, if_pos rfl, ← hO]
  have hl : (Bt.pOut s).length = O.length := by rw [ho, List.length_map]
  refine ⟨⟨some ⟨g, 0, none⟩, O.length, ?_, ?_⟩, hb⟩
  · rw [hp, hl]; rfl
  · have := sets_of_row hB
    rw [← ho] at this
    exact this
set_option maxRecDepth 20000 in
set_option maxHeartbeats 8000000 in
theorem batch_Parse (s : ByteArray) (w : World) (hT : BTabs w) : Calls Tryd.prog 13 #[.string s] w (ParsePost s w) := by
  have HS := Lib.hid (line_Split s w hT.1.2)
  have HT := Lib.hid hT
  unfold SplitPost at HS
  by_cases h0 : (Ln.sBad s).2 = 0
  rotate_left
  · have hb := Bt.pBad_split h0
    have hn : (((Ln.sBad s).2 : Int) != 0) = true := by simpa using h0
    have Hr := Lib.hid (fun w' hB => parsePost_err (w := w) (w' := w') (i := (Ln.sBad s).1) (r := (Ln.sBad s).2) hb h0 hB)
    clear h0 hb hT
    generalize (Ln.sBad s).1 = bi at *
    generalize (Ln.sBad s).2 = br at *
    generalize Ln.sOut s = O at *
    go_enter Tryd.func13, Tryd.ntmps13
    go_wp2_with fail
    refine HS.out.mono ?_
    rintro e w1 ⟨⟨a, c, rfl, -⟩, hb1⟩
    have HR1 := Lib.hid (Hr.out w1 hb1)
    clear hb1 HS Hr
    go_wp2
    go_ret3
    exact HR1.out
  · obtain ⟨hl, h60⟩ := Bt.lines_ok h0
    have Hb := Lib.hid (Bt.pBad_wrong h0)
    obtain ⟨O, hO⟩ : ∃ O, O = Ln.sOut s := ⟨_, rfl⟩
    have HO := Lib.hid hO
    have H0 := Lib.hid h0
    have Hok := Lib.hid (fun w' g hall hB hb => parsePost_ok (w := w) (w' := w') (g := g) hO h0 hall hB hb)
    rw [h0] at HS
    rw [← hO] at hl h60 Hb HS
    have Hl := Lib.hid hl
    clear h0 hO hT hl
    generalize (Ln.sBad s).1 = bi at *
    obtain ⟨n, hn⟩ : ∃ n, n = O.length := ⟨_, rfl⟩
    rw [← hn] at HS h60 Hok
    have Hn := Lib.hid hn
    have hmk := make_sets n (by omega)
    clear hn
    go_enter Tryd.func13, Tryd.ntmps13
    go_wp2_with fail
    refine HS.out.mono ?_
    rintro e w1 ⟨⟨a, c, rfl, hat⟩, hb1⟩
    have HL1 := Lib.hid hat
    have HB1 := Lib.hid hb1
    clear hat hb1 HS
    obtain ⟨w2, hw2⟩ : ∃ w2, w2 = w1.alloc (.cells (Bt.setsC (List.replicate n Bt.zeroS)).toArray 26) := ⟨_, rfl⟩
    have HB2 := Lib.hid (show Below w1.heap.size w1 w2 by rw [hw2]; exact (Below.refl _ _).alloc (Nat.le_refl _) _)
    have HG2 := Lib.hid (show Blk w2 w1.heap.size 26 (Bt.setsC (Bt.sofar [] n)) by rw [hw2]; exact Blk.new _ _ _)
    go_wp2
    rw [← hw2]
    clear hmk hw2
    go_loopw [26] (fun i wr => ∃ k : Nat, k ≤ n ∧ i = .int .i64 (k : Int) ∧ Hid (∀ p ∈ O.take k, (Bt.ofLine p).2 = 0) ∧ Hid (Blk wr w1.heap.size 26 (Bt.setsC (Bt.sofar ((O.take k).map fun p => (Bt.ofLine p).1) n))) ∧ Hid (Below w1.heap.size w1 wr)) (fun i _ => n - (intOf i).toNat)
    case atStart => exact ⟨0, Nat.zero_le _, rfl, Lib.hid (fun x hx => by simp at hx), Lib.hid (by simpa using HG2.out), HB2⟩
    case round =>
      obtain ⟨k, hk, rfl, Ha, Hbk, HBr⟩ := hrel
      obtain ⟨wo, hwo⟩ : ∃ wo, wo = wr := ⟨_, rfl⟩
      subst hwo
      have hsz := HBr.out.size
      by_cases hlt : k < n
      · have hlO : k < O.length := by have := Hn.out; omega
        obtain ⟨b, off, rfl, hbl, hc⟩ := (HL1.out.below HBr.out).2 (by omega)
        obtain ⟨c0, c1⟩ := hc k hlO
        have hpz := (Ln.err_zero (Hl.out _ (List.getElem_mem hlO))).1
        have Ht : Hid (O.take (k + 1) = O.take k ++ [O[k]]) := Lib.hid (List.take_succ_eq_append_getElem hlO)
        have Htl : Hid (((O.take k).map fun p => (Bt.ofLine p).1).length = k) := Lib.hid (by rw [List.length_map, List.length_take]; omega)
        have Hf := Lib.hid (fun hn => Bt.wrong_at O 0 k hlO Ha.out hn)
        have HBo := Lib.hid (HB1.out.trans (HBr.out.mono HB1.out.size))
        clear hc
        generalize O[k] = p at *
        have HRd := Lib.hid (fun W hW => batch_Read p W (by omega) (HT.out.below hW))
        have Hm : Hid ((O.take (k + 1)).map (fun p => (Bt.ofLine p).1) = (O.take k).map (fun p => (Bt.ofLine p).1) ++ [(Bt.ofLine p).1]) := Lib.hid (by rw [Ht.out, List.map_append, List.map_singleton])
        have Hn1 := Lib.hid (fun (he : (Bt.ofLine p).2 = 0) => show ∀ y ∈ O.take (k + 1), (Bt.ofLine y).2 = 0 by
          intro y hy
          rw [Ht.out] at hy
          rcases List.mem_append.1 hy with hy | hy
          · exact Ha.out y hy
          · rw [List.mem_singleton.1 hy]; exact he)
        have Hst := Lib.hid (fun x => Bt.sofar_set ((O.take k).map fun p => (Bt.ofLine p).1) n k x Htl.out hlt)
        have Hsl := Lib.hid (Bt.sofar_length ((O.take k).map fun p => (Bt.ofLine p).1) n (by rw [Htl.out]; omega))
        generalize (O.take k).map (fun p => (Bt.ofLine p).1) = D at *
        generalize (Bt.ofLine p).1 = x at *
        by_cases he : (Bt.ofLine p).2 = 0
        · have Hall := Lib.hid (Hn1.out he)
          rw [he] at HRd
          clear he Hf Hn1 Ha
          obtain ⟨X, Y⟩ := p
          unfold lineV at HRd
          obtain ⟨w3, hw3⟩ : ∃ w3, w3 = wo.alloc (.cells #[.string X, .string Y] 30) := ⟨_, rfl⟩
          have hA3 : Below wo.heap.size wo w3 := by rw [hw3]; exact (Below.refl _ _).alloc (Nat.le_refl _) _
          have hM3 := show Blk w3 wo.heap.size 30 [.string X, .string Y] by rw [hw3]; exact Blk.new _ _ _
          have HB3 := Lib.hid (HBr.out.trans (hA3.mono hsz))
          have HG3 := Lib.hid (Hbk.out.kept hA3)
          have m0 := hM3.cell 0 rfl
          have m1 := hM3.cell 1 rfl
          simp only at c0 c1
          clear hA3 hM3
          go_upto_region 8 with fail
          rw [← hw3]
          clear hw3 c0 c1
          go_wp2_with fail
          refine (HRd.out w3 (HB1.out.trans (HB3.out.mono HB1.out.size))).mono ?_
          rintro e w4 ⟨rfl, hb4⟩
          have HG4 := Lib.hid (HG3.out.kept hb4)
          have HB4 := Lib.hid (HB3.out.trans (hb4.mono HB3.out.size))
          have hkn : k < (Bt.sofar D n).length := by rw [Hsl.out]; exact hlt
          clear hb4 m0 m1
          go_wp2_with (refine wpL_store_elem (o := ⟨none, _, _, _, _, _⟩) rfl (.tmp 38) (.tmp 36) rfl w1.heap.size k _ x rfl rfl HG4.out hkn ?_)
          intro w5 hG5 hg5 hz5
          rw [Hst.out x, ← Hm.out] at hG5
          have HG5 := Lib.hid hG5
          have HB5 := Lib.hid (below_row HB4.out hg5 HB4.out.size (Nat.le_refl _))
          clear hG5 hg5 hz5
          go_wp2
          go_roundw
          case rel => exact ⟨k + 1, by omega, by go_num, Hall, HG5, HB5⟩
          case measure => simp [intOf]; omega
        · have hb : Bt.pBad s = (k + 1, (Bt.ofLine p).2) := by rw [Hb.out, Hf.out he, Nat.zero_add]
          have hne : (((Bt.ofLine p).2 : Int) != 0) = true := by simpa using he
          have Hr := Lib.hid (fun w' hB => parsePost_err (w := w) (w' := w') hb he hB)
          clear he Hf Hn1 Ha hb
          generalize (Bt.ofLine p).2 = r at *
          obtain ⟨X, Y⟩ := p
          unfold lineV at HRd
          obtain ⟨w3, hw3⟩ : ∃ w3, w3 = wo.alloc (.cells #[.string X, .string Y] 30) := ⟨_, rfl⟩
          have hA3 : Below wo.heap.size wo w3 := by rw [hw3]; exact (Below.refl _ _).alloc (Nat.le_refl _) _
          have hM3 := show Blk w3 wo.heap.size 30 [.string X, .string Y] by rw [hw3]; exact Blk.new _ _ _
          have HB3 := Lib.hid (HBr.out.trans (hA3.mono hsz))
          have HG3 := Lib.hid (Hbk.out.kept hA3)
          have m0 := hM3.cell 0 rfl
          have m1 := hM3.cell 1 rfl
          simp only at c0 c1
          clear hA3 hM3
          go_upto_region 8 with fail
          rw [← hw3]
          clear hw3 c0 c1
          go_wp2_with fail
          refine (HRd.out w3 (HB1.out.trans (HB3.out.mono HB1.out.size))).mono ?_
          rintro e w4 ⟨rfl, hb4⟩
          have HG4 := Lib.hid (HG3.out.kept hb4)
          have HB4 := Lib.hid (HB3.out.trans (hb4.mono HB3.out.size))
          have hkn : k < (Bt.sofar D n).length := by rw [Hsl.out]; exact hlt
          clear hb4 m0 m1
          go_wp2_with (refine wpL_store_elem (o := ⟨none, _, _, _, _, _⟩) rfl (.tmp 38) (.tmp 36) rfl w1.heap.size k _ x rfl rfl HG4.out hkn ?_)
          intro w5 hG5 hg5 hz5
          have HB5 := Lib.hid (below_row HB4.out hg5 HB4.out.size (Nat.le_refl _))
          have HB6 := Lib.hid (HB1.out.trans (HB5.out.mono HB1.out.size))
          clear hG5 hg5 hz5
          go_wp2
          go_ret3
          have h := Hr.out _ HB6.out
          rwa [Int.natCast_add] at h
      · obtain rfl : k = n := by omega
        have htk : O.take k = O := List.take_of_length_le (by have := Hn.out; omega)
        rw [htk] at Ha Hbk
        have hG := Hbk.out
        rw [Bt.sofar_full _ _ (by rw [List.length_map]; exact Hn.out.symm)] at hG
        have HF := Lib.hid (Hok.out wo w1.heap.size Ha.out hG (HB1.out.trans (HBr.out.mono HB1.out.size)))
        clear htk hG
        go_wp2
        go_ret3
        exact HF.out
end Go.Proofs.YthlagpmacnijfaaDoor

namespace Go.Proofs.YthlagpmacnijfaaDoor
open Go.RowKit

/-- The networks that are used. -/
def Nt.used : List (Nat × Nat) := [(0, 0), (167772160, 8), (167837696, 16), (167838208, 24), (167838211, 32), (167903232, 16), (167772160, 9), (3232235520, 16), (3232235776, 24), (2147483648, 1), (167838336, 25)]
def usedCells : Array Value := (Nt.used.flatMap fun x => [Value.int .u32 (x.1 : Int), Value.int .i64 (x.2 : Int)]).toArray
theorem usedCells_eq : usedCells = #[.int .u32 0, .int .i64 0, .int .u32 167772160, .int .i64 8, .int .u32 167837696, .int .i64 16, .int .u32 167838208, .int .i64 24, .int .u32 167838211, .int .i64 32, .int .u32 167903232, .int .i64 16, .int .u32 167772160, .int .i64 9, .int .u32 3232235520, .int .i64 16, .int .u32 3232235776, .int .i64 24, .int .u32 2147483648, .int .i64 1, .int .u32 167838336, .int .i64 25] := rfl
theorem ip_bits (a b c d : Nat) (ha : a < 256) (hb : b < 256) (hc : c < 256) (hd : d < 256) :
    bits .or .u32 (bits .or .u32 (bits .or .u32 ((a : Int) * 16777216) ((b : Int) * 65536)) ((c : Int) * 256)) (d : Int) = ((a * 16777216 + b * 65536 + c * 256 + d : Nat) : Int) := by
  have key : ∀ (x y : Nat) (j : Nat), j ≤ 24 → x * 2 ^ j < 4294967296 → y < 2 ^ j → bits .or .u32 ((x * 2 ^ j : Nat) : Int) (y : Int) = ((x * 2 ^ j + y : Nat) : Int) := by
    intro x y j hj hx hy
    show IntKind.u32.wrap ((BitVec.ofInt 32 ((x * 2 ^ j : Nat) : Int) ||| BitVec.ofInt 32 (y : Int)).toNat : Int) = _
    have hp : 2 ^ j ≤ 2 ^ 24 := Nat.pow_le_pow_right (by decide) hj
    have ho : x * 2 ^ j ||| y = x * 2 ^ j + y := by
      have := Nat.two_pow_add_eq_or_of_lt (i := j) (b := y) hy x
      rw [Nat.mul_comm] at this
      exact this.symm
    have hl : x * 2 ^ j ||| y < 2 ^ 32 := Nat.or_lt_two_pow hx (by omega)
    rw [BitVec.toNat_or, ofInt_w32 _ hx, ofInt_w32 _ (by omega), IntKind.wrap_u32]
    rw [ho] at hl ⊢
    generalize x * 2 ^ j + y = z at *
    omega
  have k1 := key a (b * 65536) 24 (by omega) (by omega) (by omega)
  have k2 := key (a * 256 + b) (c * 256) 16 (by omega) (by omega) (by omega)
  have k3 := key (a * 65536 + b * 256 + c) d 8 (by omega) (by omega) (by omega)
  rw [show (a : Int) * 16777216 = ((a * 2 ^ 24 : Nat) : Int) by omega, show (b : Int) * 65536 = ((b * 65536 : Nat) : Int) by omega, k1]
  rw [show a * 2 ^ 24 + b * 65536 = (a * 256 + b) * 2 ^ 16 by omega, show (c : Int) * 256 = ((c * 256 : Nat) : Int) by omega, k2]
  rw [show (a * 256 + b) * 2 ^ 16 + c * 256 = (a * 65536 + b * 256 + c) * 2 ^ 8 by omega, k3]
set_option maxHeartbeats 400000 in
theorem keep_ip (a b c d : Nat) (w : World) (ha : a < 256) (hb : b < 256) (hc : c < 256) (hd : d < 256) :
    Calls Tryd.prog 81 #[.int .u32 (a : Int), .int .u32 (b : Int), .int .u32 (c : Int), .int .u32 (d : Int)] w fun e w' => e = .returned (.int .u32 ((a * 16777216 + b * 65536 + c * 256 + d : Nat) : Int)) ∧ w' = w := by
  have Hk := Lib.hid (ip_bits a b c d ha hb hc hd)
  go_enter Tryd.func81, Tryd.ntmps81
  go_wp2
  go_ret
  rw [← Hk.out]
  exact ⟨rfl, rfl⟩

set_option maxRecDepth 20000 in
set_option maxHeartbeats 1600000 in
theorem keep_Nets (w : World) :
    Calls Tryd.prog 62 #[] w fun e w' => e = .returned (.slice (some ⟨w.heap.size, 0, none⟩) 11 11) ∧ w' = w.alloc (.cells usedCells 24) := by
  rw [usedCells_eq]
  have H0 : Hid (∀ W, Calls Tryd.prog 81 #[.int .u32 10, .int .u32 0, .int .u32 0, .int .u32 0] W fun e w' => e = .returned (.int .u32 167772160) ∧ w' = W) := Lib.hid (fun W => keep_ip 10 0 0 0 W (by decide) (by decide) (by decide) (by decide))
  have H1 : Hid (∀ W, Calls Tryd.prog 81 #[.int .u32 10, .int .u32 1, .int .u32 0, .int .u32 0] W fun e w' => e = .returned (.int .u32 167837696) ∧ w' = W) := Lib.hid (fun W => keep_ip 10 1 0 0 W (by decide) (by decide) (by decide) (by decide))
  have H2 : Hid (∀ W, Calls Tryd.prog 81 #[.int .u32 10, .int .u32 1, .int .u32 2, .int .u32 0] W fun e w' => e = .returned (.int .u32 167838208) ∧ w' = W) := Lib.hid (fun W => keep_ip 10 1 2 0 W (by decide) (by decide) (by decide) (by decide))
  have H3 : Hid (∀ W, Calls Tryd.prog 81 #[.int .u32 10, .int .u32 1, .int .u32 2, .int .u32 3] W fun e w' => e = .returned (.int .u32 167838211) ∧ w' = W) := Lib.hid (fun W => keep_ip 10 1 2 3 W (by decide) (by decide) (by decide) (by decide))
  have H4 : Hid (∀ W, Calls Tryd.prog 81 #[.int .u32 10, .int .u32 2, .int .u32 0, .int .u32 0] W fun e w' => e = .returned (.int .u32 167903232) ∧ w' = W) := Lib.hid (fun W => keep_ip 10 2 0 0 W (by decide) (by decide) (by decide) (by decide))
  have H5 : Hid (∀ W, Calls Tryd.prog 81 #[.int .u32 10, .int .u32 0, .int .u32 0, .int .u32 0] W fun e w' => e = .returned (.int .u32 167772160) ∧ w' = W) := Lib.hid (fun W => keep_ip 10 0 0 0 W (by decide) (by decide) (by decide) (by decide))
  have H6 : Hid (∀ W, Calls Tryd.prog 81 #[.int .u32 192, .int .u32 168, .int .u32 0, .int .u32 0] W fun e w' => e = .returned (.int .u32 3232235520) ∧ w' = W) := Lib.hid (fun W => keep_ip 192 168 0 0 W (by decide) (by decide) (by decide) (by decide))
  have H7 : Hid (∀ W, Calls Tryd.prog 81 #[.int .u32 192, .int .u32 168, .int .u32 1, .int .u32 0] W fun e w' => e = .returned (.int .u32 3232235776) ∧ w' = W) := Lib.hid (fun W => keep_ip 192 168 1 0 W (by decide) (by decide) (by decide) (by decide))
  have H8 : Hid (∀ W, Calls Tryd.prog 81 #[.int .u32 128, .int .u32 0, .int .u32 0, .int .u32 0] W fun e w' => e = .returned (.int .u32 2147483648) ∧ w' = W) := Lib.hid (fun W => keep_ip 128 0 0 0 W (by decide) (by decide) (by decide) (by decide))
  have H9 : Hid (∀ W, Calls Tryd.prog 81 #[.int .u32 10, .int .u32 1, .int .u32 2, .int .u32 128] W fun e w' => e = .returned (.int .u32 167838336) ∧ w' = W) := Lib.hid (fun W => keep_ip 10 1 2 128 W (by decide) (by decide) (by decide) (by decide))
  go_enter Tryd.func62, Tryd.ntmps62
  go_wp2_with fail
  refine (H0.out _).mono ?_
  rintro e w0 ⟨rfl, hw⟩
  subst hw
  go_wp2_with fail
  refine (H1.out _).mono ?_
  rintro e w1 ⟨rfl, hw⟩
  subst hw
  go_wp2_with fail
  refine (H2.out _).mono ?_
  rintro e w2 ⟨rfl, hw⟩
  subst hw
  go_wp2_with fail
  refine (H3.out _).mono ?_
  rintro e w3 ⟨rfl, hw⟩
  subst hw
  go_wp2_with fail
  refine (H4.out _).mono ?_
  rintro e w4 ⟨rfl, hw⟩
  subst hw
  go_wp2_with fail
  refine (H5.out _).mono ?_
  rintro e w5 ⟨rfl, hw⟩
  subst hw
  go_wp2_with fail
  refine (H6.out _).mono ?_
  rintro e w6 ⟨rfl, hw⟩
  subst hw
  go_wp2_with fail
  refine (H7.out _).mono ?_
  rintro e w7 ⟨rfl, hw⟩
  subst hw
  go_wp2_with fail
  refine (H8.out _).mono ?_
  rintro e w8 ⟨rfl, hw⟩
  subst hw
  go_wp2_with fail
  refine (H9.out _).mono ?_
  rintro e w9 ⟨rfl, hw⟩
  subst hw
  go_wp2
  go_ret
  exact ⟨rfl, rfl⟩
end Go.Proofs.YthlagpmacnijfaaDoor

namespace Go.Proofs.YthlagpmacnijfaaDoor.Nt

/-- One bit taken away. -/
theorem clear_bit (h r j : Nat) (hr : r < 2 ^ (j + 1)) (hx : 2 ^ (j + 1) * h + r < 4294967296) (hj : j < 32) : (2 ^ (j + 1) * h + r) &&& (4294967295 - 2 ^ j) = 2 ^ (j + 1) * h + r % 2 ^ j := by
  have hp : 2 ^ j < 2 ^ 32 := Nat.pow_lt_pow_right (by decide) hj
  have hl : r % 2 ^ j < 2 ^ j := Nat.mod_lt _ (Nat.two_pow_pos j)
  have hl1 : r % 2 ^ j < 2 ^ (j + 1) := by rw [Nat.pow_succ]; omega
  apply Nat.eq_of_testBit_eq
  intro t
  rw [show (4294967295 : Nat) - 2 ^ j = 2 ^ 32 - (2 ^ j + 1) by omega, Nat.testBit_and, Nat.testBit_two_pow_sub_succ hp, Nat.testBit_two_pow, Nat.testBit_two_pow_mul_add _ hr, Nat.testBit_two_pow_mul_add _ hl1]
  by_cases h1 : t < j + 1
  · rw [if_pos h1, if_pos h1, Nat.testBit_mod_two_pow]
    by_cases h2 : t = j
    · subst h2; simp
    · rw [decide_eq_true (show t < 32 by omega), decide_eq_false (show ¬ j = t by omega), decide_eq_true (show t < j by omega)]
      simp
  · rw [if_neg h1, if_neg h1]
    by_cases h3 : t < 32
    · rw [decide_eq_true h3, decide_eq_false (show ¬ j = t by omega)]
      simp
    · have hz : h.testBit (t - (j + 1)) = false := by
        apply Nat.testBit_lt_two_pow
        have hh : h < 2 ^ (32 - (j + 1)) := by
          apply Nat.lt_of_mul_lt_mul_left (a := 2 ^ (j + 1))
          rw [← Nat.pow_add, show j + 1 + (32 - (j + 1)) = 32 by omega]
          omega
        exact Nat.lt_of_lt_of_le hh (Nat.pow_le_pow_right (by decide) (by omega))
      rw [hz]
      simp
/-- The bits behind the first n taken away, one after the other. -/
theorem clear_step (a n k : Nat) (ha : a < 4294967296) (hn : n ≤ k) (hk : k < 32) : (cut a n + a % 2 ^ (32 - k)) &&& (4294967295 - 2 ^ (31 - k)) = cut a n + a % 2 ^ (32 - (k + 1)) := by
  have e1 : 32 - k = (31 - k) + 1 := by omega
  have e2 : 32 - (k + 1) = 31 - k := by omega
  have e3 : 2 ^ (32 - n) = 2 ^ (31 - k + 1) * 2 ^ (k - n) := by rw [← Nat.pow_add]; congr 1; omega
  have hc : cut a n = 2 ^ (31 - k + 1) * (a / 2 ^ (32 - n) * 2 ^ (k - n)) := by
    unfold cut
    conv => lhs; rw [e3]
    rw [e3, Nat.mul_comm (2 ^ (31 - k + 1)) (a / _ * _), Nat.mul_assoc, Nat.mul_comm (2 ^ (k - n)) (2 ^ (31 - k + 1))]
  have hle : cut a n + a % 2 ^ (32 - k) ≤ a := by
    have h1 : a % 2 ^ (32 - k) ≤ a % 2 ^ (32 - n) := by
      have : a % 2 ^ (32 - k) = a % 2 ^ (32 - n) % 2 ^ (32 - k) := (Nat.mod_mod_of_dvd a (Nat.pow_dvd_pow 2 (by omega))).symm
      rw [this]
      exact Nat.mod_le _ _
    have h2 : cut a n + a % 2 ^ (32 - n) = a := by unfold cut; rw [Nat.mul_comm]; exact Nat.div_add_mod a _
    omega
  rw [e1] at hle ⊢
  rw [e2]
  have hm : a % 2 ^ (31 - k + 1) % 2 ^ (31 - k) = a % 2 ^ (31 - k) := Nat.mod_mod_of_dvd a (Nat.pow_dvd_pow 2 (by omega))
  rw [hc] at hle ⊢
  rw [clear_bit _ _ _ (Nat.mod_lt _ (Nat.two_pow_pos _)) (by omega) (by omega), hm]
theorem cut_whole (a n : Nat) : cut a n + a % 2 ^ (32 - n) = a := by unfold cut; rw [Nat.mul_comm]; exact Nat.div_add_mod a _
end Go.Proofs.YthlagpmacnijfaaDoor.Nt

namespace Go.Proofs.YthlagpmacnijfaaDoor
open Go.RowKit

/-- Which one a raw number picks out of m. -/
def pick (n : Int) (m : Nat) : Nat := (if n < 0 then -(n + 1) else n).toNat % m
theorem pick_lt (n : Int) (m : Nat) (h : 0 < m) : pick n m < m := Nat.mod_lt _ h

set_option maxHeartbeats 400000 in
theorem keep_picked (n : Int) (m : Nat) (w : World) (h0 : -9223372036854775808 ≤ n) (h1 : n ≤ 9223372036854775807) (hm : 0 < m) (hm2 : m ≤ 9223372036854775807) :
    Calls Tryd.prog 17 #[.int .i64 n, .int .i64 (m : Int)] w fun e w' => e = .returned (.int .i64 (pick n m : Int)) ∧ w = w' := by
  by_cases hn : n < 0
  · have Hp := Lib.hid (show (pick n m : Int) = (-(n + 1)) % (m : Int) by unfold pick; rw [if_pos hn, Int.natCast_emod, Int.toNat_of_nonneg (by omega)])
    have ht : (-(n + 1)).tmod (m : Int) = (-(n + 1)) % (m : Int) := Int.tmod_eq_emod_of_nonneg (by omega)
    go_enter Tryd.func17, Tryd.ntmps17
    go_wp2
    go_ret
    exact ⟨by rw [Hp.out]; rfl, rfl⟩
  · have Hp := Lib.hid (show (pick n m : Int) = n % (m : Int) by unfold pick; rw [if_neg hn, Int.natCast_emod, Int.toNat_of_nonneg (by omega)])
    have ht : n.tmod (m : Int) = n % (m : Int) := Int.tmod_eq_emod_of_nonneg (by omega)
    go_enter Tryd.func17, Tryd.ntmps17
    go_wp2
    go_ret
    exact ⟨by rw [Hp.out]; rfl, rfl⟩
end Go.Proofs.YthlagpmacnijfaaDoor

namespace Go.Proofs.YthlagpmacnijfaaDoor

def rawV (k a b : Int) (s : ByteArray) : Value := .agg #[.int .i64 k, .int .i64 a, .int .i64 b, .string s]
end Go.Proofs.YthlagpmacnijfaaDoor

namespace Go.Proofs.YthlagpmacnijfaaDoor
open Go.RowKit

/-- The network of a raw thing. -/
def Nt.rawA (k a b : Int) : Nat := if 0 < pick k 4 then (Nt.used.getD (pick a 11) (0, 0)).1 else Nt.cut (a % 4294967296).toNat (pick b 33)
def Nt.rawB (k a b : Int) : Nat := if 0 < pick k 4 then (Nt.used.getD (pick a 11) (0, 0)).2 else pick b 33
theorem used_good : ∀ i, i < 11 → (Nt.used.getD i (0, 0)).1 < 4294967296 ∧ (Nt.used.getD i (0, 0)).2 ≤ 32 ∧ (Nt.used.getD i (0, 0)).1 % 2 ^ (32 - (Nt.used.getD i (0, 0)).2) = 0 := by decide
theorem usedCells_size : usedCells.size = 22 := rfl
theorem used_at : ∀ i, i < 11 → usedCells[2 * i]? = some (.int .u32 ((Nt.used.getD i (0, 0)).1 : Int)) ∧ usedCells[2 * i + 1]? = some (.int .i64 ((Nt.used.getD i (0, 0)).2 : Int)) := by
  intro i hi
  have : i = 0 ∨ i = 1 ∨ i = 2 ∨ i = 3 ∨ i = 4 ∨ i = 5 ∨ i = 6 ∨ i = 7 ∨ i = 8 ∨ i = 9 ∨ i = 10 := by omega
  rcases this with rfl | rfl | rfl | rfl | rfl | rfl | rfl | rfl | rfl | rfl | rfl <;> exact ⟨rfl, rfl⟩
theorem raw_good (k a b : Int) : Nt.rawA k a b < 4294967296 ∧ Nt.rawB k a b ≤ 32 ∧ Nt.err (Nt.rawA k a b) (Nt.rawB k a b : Int) = 0 := by
  unfold Nt.rawA Nt.rawB
  by_cases h : 0 < pick k 4
  · rw [if_pos h, if_pos h]
    obtain ⟨h1, h2, h3⟩ := used_good (pick a 11) (pick_lt a 11 (by decide))
    exact ⟨h1, h2, Nt.err_of h2 h3⟩
  · rw [if_neg h, if_neg h]
    have hb := pick_lt b 33 (by decide)
    exact ⟨Nt.cut_lt _ _ (by omega), by omega, Nt.err_of (by omega) (Nt.cut_mod _ _)⟩
/-- A network, out of the result's own cells. -/
theorem net_ret1 {fn : Func} {w : World} {base g : Nat} {x y : Value} {p : Nat} {tmps : Array Value} (h : fn.results = #[.cell p 24]) (hp : tmps.getD p undef = .pointer (some ⟨g, 0, none⟩))
    (R : w.ownsRow base 24 1 (.slice (some ⟨g, 0, none⟩) 2 2) 2 [x, y]) : (results fn tmps).run Tryd.prog w = .ok (.agg #[x, y]) w := by
  have hl := run_loadVar_row (P := Tryd.prog) w g 24 24 #[x, y] (0, 0) _ (two_block R) Tryd.underlying24 rfl size_net
  have hp' : tmps[p]?.getD undef = .pointer (some ⟨g, 0, none⟩) := by simpa using hp
  simp only [results, h]
  simp [hp', asAddr, hl]
theorem to_u32 (a : Int) : IntKind.u32.wrap a = (((a % 4294967296).toNat : Nat) : Int) := by
  rw [IntKind.wrap_u32]; omega
theorem ret_agg {x y : Value} (h : x = y) : Ending.returned x = .returned y := by rw [h]

set_option maxRecDepth 20000 in
set_option maxHeartbeats 1600000 in
theorem keep_Net (k a b : Int) (s : ByteArray) (w : World) (k0 : -9223372036854775808 ≤ k) (k1 : k ≤ 9223372036854775807) (a0 : -9223372036854775808 ≤ a) (a1 : a ≤ 9223372036854775807) (b0 : -9223372036854775808 ≤ b) (b1 : b ≤ 9223372036854775807) :
    Calls Tryd.prog 36 #[rawV k a b s] w fun e w' => e = .returned (netV (Nt.rawA k a b) (Nt.rawB k a b : Int)) ∧ Below w.heap.size w w' := by
  have HK := Lib.hid (fun W => keep_picked k 4 W k0 k1 (by decide) (by decide))
  have HA := Lib.hid (fun W => keep_picked a 11 W a0 a1 (by decide) (by decide))
  have HB := Lib.hid (fun W => keep_picked b 33 W b0 b1 (by decide) (by decide))
  unfold rawV netV
  by_cases h : 0 < pick k 4
  · have Hr := Lib.hid (And.intro (show Nt.rawA k a b = (Nt.used.getD (pick a 11) (0, 0)).1 by unfold Nt.rawA; rw [if_pos h]) (show Nt.rawB k a b = (Nt.used.getD (pick a 11) (0, 0)).2 by unfold Nt.rawB; rw [if_pos h]))
    have hp := pick_lt a 11 (by decide)
    obtain ⟨u0, u1⟩ := used_at (pick a 11) hp
    clear HB
    generalize pick k 4 = q at *
    generalize pick a 11 = p at *
    generalize (Nt.used.getD p (0, 0)).1 = X at *
    generalize (Nt.used.getD p (0, 0)).2 = Y at *
    have hN := usedCells_size
    have hp' : (p : Int) < 11 := by omega
    have HN := Lib.hid (fun W => keep_Nets W)
    generalize usedCells = N at *
    rw [Nat.mul_comm] at u0 u1
    go_enter Tryd.func36, Tryd.ntmps36
    go_wp2_with fail
    refine (HK.out _).mono ?_
    rintro e w1 ⟨rfl, hw1⟩
    rw [← hw1]
    clear hw1 w1
    go_wp2_with fail
    go_region_with (first
      | (go_at_call 62; refine (HN.out _).mono ?_; rintro e w' ⟨rfl, rfl⟩)
      | (go_at_call 17; refine (HA.out _).mono ?_; rintro e w' ⟨rfl, rfl⟩))
    all_goals
      have R := own_two (base := w.heap.size) (heap_alloc_last (w.alloc (.cells #[.int .i64 k, .int .i64 a, .int .i64 b, .string s] 67)) (.cells #[.int .u32 (X : Int), .int .i64 (Y : Int)] 24)) (by simp)
      rw [show (w.alloc (.cells #[.int .i64 k, .int .i64 a, .int .i64 b, .string s] 67)).heap.size = w.heap.size + 1 by simp] at R
      have HR := Lib.hid (own_below2 R (((Below.refl _ _).alloc (Nat.le_refl _) (.cells N 24)).alloc (by simp) (.cells N 24))).drew
      clear R
      go_wp2
      exact bodyPost_ret (net_ret1 Tryd.results36 rfl HR.out) rfl ⟨ret_agg (by rw [Hr.out.1, Hr.out.2]), (((((Below.refl _ _).alloc (Nat.le_refl _) _).alloc (by simp) _).alloc (by simp; omega) _).alloc (by simp; omega) _).drew⟩
  · have Hr := Lib.hid (And.intro (show Nt.rawA k a b = Nt.cut (a % 4294967296).toNat (pick b 33) by unfold Nt.rawA; rw [if_neg h]) (show Nt.rawB k a b = pick b 33 by unfold Nt.rawB; rw [if_neg h]))
    have hz : pick k 4 = 0 := by omega
    have hwr := to_u32 a
    have hA : (a % 4294967296).toNat < 4294967296 := by omega
    have hn := pick_lt b 33 (by decide)
    rw [hz] at HK
    clear h hz HA
    generalize (a % 4294967296).toNat = A at *
    generalize pick b 33 = n at *
    go_enter Tryd.func36, Tryd.ntmps36
    go_wp2_with fail
    refine (HK.out _).mono ?_
    rintro e w1 ⟨rfl, hw1⟩
    rw [← hw1]
    clear hw1 w1
    go_wp2_with fail
    refine (HB.out _).mono ?_
    rintro e w1 ⟨rfl, hw1⟩
    rw [← hw1]
    clear hw1 w1
    go_wp2
    go_loopw [4, 5] (fun v i wr => ∃ k' : Nat, n ≤ k' ∧ k' ≤ 32 ∧ i = .int .i64 k' ∧ v = .int .u32 ((Nt.cut A n + A % 2 ^ (32 - k') : Nat) : Int) ∧ wr = (w.alloc (.cells #[.int .i64 k, .int .i64 a, .int .i64 b, .string s] 67)).alloc (.cells #[.int .u32 0, .int .i64 0] 24)) (fun _ i _ => 32 - (intOf i).toNat)
    case atStart => exact ⟨n, Nat.le_refl _, by omega, rfl, by rw [Nt.cut_whole], rfl⟩
    case round =>
      obtain ⟨m, hnm, hm, rfl, rfl, rfl⟩ := hrel
      by_cases hlt : m < 32
      · have hc := Nt.clear_step A n m hA hnm hlt
        have hle : Nt.cut A n + A % 2 ^ (32 - m) < 4294967296 := by
          have h1 : A % 2 ^ (32 - m) = A % 2 ^ (32 - n) % 2 ^ (32 - m) := (Nat.mod_mod_of_dvd A (Nat.pow_dvd_pow 2 (by omega))).symm
          have h2 := Nat.mod_le (A % 2 ^ (32 - n)) (2 ^ (32 - m))
          have h3 := Nt.cut_whole A n
          omega
        have hpl : 2 ^ (31 - m) < 4294967296 := by have : 2 ^ (31 - m) < 2 ^ 32 := Nat.pow_lt_pow_right (by decide) (by omega)
                                                   omega
        have hbn := u32_andNot_nat _ _ hle hpl
        rw [hc] at hbn
        have hsub : (31 : Int) - (m : Int) = ((31 - m : Nat) : Int) := by omega
        have hw2 := bit_shl 1 (31 - m) (by decide) (by omega)
        rw [Nat.one_mul, Int.natCast_one, Int.one_mul] at hw2
        have hjw : IntKind.i64.wrap ((31 - m : Nat) : Int) = ((31 - m : Nat) : Int) := IntWalk.i64_in _ (by omega)
        have hjl : 31 - m ≤ 31 := by omega
        clear hc hpl
        generalize Nt.cut A n + A % 2 ^ (32 - m) = X at *
        generalize hY : Nt.cut A n + A % 2 ^ (32 - (m + 1)) = Y at hbn
        generalize hP : 2 ^ (31 - m) = P at hbn hw2
        generalize 31 - m = j at *
        have HY := Lib.hid hY
        clear hY hP
        go_wp2
        go_roundw
        case rel => exact ⟨m + 1, by omega, by omega, by go_num, by rw [HY.out], trivial⟩
        case measure => simp [intOf]; omega
      · obtain rfl : m = 32 := by omega
        have hx : Nt.cut A n + A % 2 ^ (32 - 32) = Nt.cut A n := by simp [Nat.mod_one]
        rw [hx, show ((32 : Nat) : Int) = (32 : Int) from rfl]
        clear hx
        have R := own_two (base := w.heap.size) (heap_alloc_last (w.alloc (.cells #[.int .i64 k, .int .i64 a, .int .i64 b, .string s] 67)) (.cells #[.int .u32 (Nt.cut A n : Int), .int .i64 (n : Int)] 24)) (by simp)
        rw [show (w.alloc (.cells #[.int .i64 k, .int .i64 a, .int .i64 b, .string s] 67)).heap.size = w.heap.size + 1 by simp] at R
        have HR := Lib.hid R
        clear R
        generalize Nt.cut A n = C at *
        go_wp2
        exact bodyPost_ret (net_ret1 Tryd.results36 rfl HR.out) rfl ⟨ret_agg (by rw [Hr.out.1, Hr.out.2]), ((Below.refl _ _).alloc (Nat.le_refl _) _).alloc (by simp) _⟩
end Go.Proofs.YthlagpmacnijfaaDoor

namespace Go.Proofs
open Go.Shelf
def Tryd.lays105_ren : Go.Shelf.Ren := ⟨fun | 105 => 40 | 212 => 66 | 99 => 67 | 165 => 43 | 166 => 44 | 170 => 68 | 169 => 45 | 263 => 86 | 264 => 87 | 206 => 88 | 240 => 70 | 241 => 71 | 276 => 89 | 277 => 90 | n => n, fun | 9 => 9 | 3 => 3 | 4 => 4 | 20 => 20 | 0 => 0 | 46 => 108 | 109 => 109 | 5 => 5 | 72 => 82 | 76 => 86 | 51 => 22 | 146 => 125 | 53 => 127 | 148 => 128 | 70 => 79 | 37 => 80 | 75 => 85 | 127 => 115 | 164 => 130 | 80 => 62 | n => n, fun | n => n⟩
theorem Tryd.lays105 : Go.Proofs.Lays.n105 Tryd.prog Tryd.lays105_ren := {
  mixed := by kernel_rfl
  f99 := Tryd.func67.trans (congrArg some (by kernel_rfl))
  f105 := Tryd.func40.trans (congrArg some (by kernel_rfl))
  f165 := Tryd.func43.trans (congrArg some (by kernel_rfl))
  f166 := Tryd.func44.trans (congrArg some (by kernel_rfl))
  f169 := Tryd.func45.trans (congrArg some (by kernel_rfl))
  f170 := Tryd.func68.trans (congrArg some (by kernel_rfl))
  f206 := Tryd.func88.trans (congrArg some (by kernel_rfl))
  f212 := Tryd.func66.trans (congrArg some (by kernel_rfl))
  f240 := Tryd.func70.trans (congrArg some (by kernel_rfl))
  f241 := Tryd.func71.trans (congrArg some (by kernel_rfl))
  f263 := Tryd.func86.trans (congrArg some (by kernel_rfl))
  f264 := Tryd.func87.trans (congrArg some (by kernel_rfl))
  f276 := Tryd.func89.trans (congrArg some (by kernel_rfl))
  f277 := Tryd.func90.trans (congrArg some (by kernel_rfl))
  t0 := Tryd.underlying0
  a0 := Tryd.isAgg0
  z0 := Tryd.sizeOf0
  v0 := Tryd.zeroValue0
  t3 := Tryd.underlying3
  a3 := Tryd.isAgg3
  z3 := Tryd.sizeOf3
  v3 := Tryd.zeroValue3
  t4 := Tryd.underlying4
  a4 := Tryd.isAgg4
  z4 := Tryd.sizeOf4
  v4 := Tryd.zeroValue4
  t5 := Tryd.underlying5
  a5 := Tryd.isAgg5
  z5 := Tryd.sizeOf5
  v5 := Tryd.zeroValue5
  t9 := Tryd.underlying9
  a9 := Tryd.isAgg9
  z9 := Tryd.sizeOf9
  v9 := Tryd.zeroValue9
  t20 := Tryd.underlying20
  a20 := Tryd.isAgg20
  z20 := Tryd.sizeOf20
  v20 := Tryd.zeroValue20
  t37 := Tryd.underlying80
  a37 := Tryd.isAgg80
  z37 := Tryd.sizeOf80
  v37 := Tryd.zeroValue80
  t46 := Tryd.underlying108
  a46 := Tryd.isAgg108
  z46 := Tryd.sizeOf108
  v46 := Tryd.zeroValue108
  t51 := Tryd.underlying22
  a51 := Tryd.isAgg22
  z51 := Tryd.sizeOf22
  v51 := Tryd.zeroValue22
  t53 := Tryd.underlying127
  a53 := Tryd.isAgg127
  z53 := Tryd.sizeOf127
  v53 := Tryd.zeroValue127
  t70 := Tryd.underlying79
  a70 := Tryd.isAgg79
  z70 := Tryd.sizeOf79
  v70 := Tryd.zeroValue79
  t72 := Tryd.underlying82
  a72 := Tryd.isAgg82
  z72 := Tryd.sizeOf82
  v72 := Tryd.zeroValue82
  t75 := Tryd.underlying85
  a75 := Tryd.isAgg85
  z75 := Tryd.sizeOf85
  v75 := Tryd.zeroValue85
  t76 := Tryd.underlying86
  a76 := Tryd.isAgg86
  z76 := Tryd.sizeOf86
  v76 := Tryd.zeroValue86
  t109 := Tryd.underlying109
  a109 := Tryd.isAgg109
  z109 := Tryd.sizeOf109
  v109 := Tryd.zeroValue109
  t127 := Tryd.underlying115
  a127 := Tryd.isAgg115
  z127 := Tryd.sizeOf115
  v127 := Tryd.zeroValue115
  t146 := Tryd.underlying125
  a146 := Tryd.isAgg125
  z146 := Tryd.sizeOf125
  v146 := Tryd.zeroValue125
  t148 := Tryd.underlying128
  a148 := Tryd.isAgg128
  z148 := Tryd.sizeOf128
  v148 := Tryd.zeroValue128
  t164 := Tryd.underlying130
  a164 := Tryd.isAgg130
  z164 := Tryd.sizeOf130
  v164 := Tryd.zeroValue130 }
theorem Tryd.Builder_Extra_105 : Builder.Extra Tryd.prog Tryd.lays105_ren := {
  sizeBuilder := by kernel_rfl
  liesBuilder := by kernel_rfl
  t5 := Tryd.underlying5
  a5 := Tryd.isAgg5
  z5 := Tryd.sizeOf5
  v5 := Tryd.zeroValue5
  infoByte := by kernel_rfl
  cellsByte := by kernel_rfl
  sizeByte := by kernel_rfl
  neB5 := by decide }
open Go.RowKit Go.Lib in
theorem Tryd.strings_Repeat (s : ByteArray) (c : Nat) (w : World) (hc : c ≤ 9223372036854775807) (hlen : s.size * c ≤ 140737488355328) :
    Calls Tryd.prog 40 #[.string s, .int .i64 c] w fun e w' => e = .returned (.string ⟨(Lib.repeatL s.data.toList c).toArray⟩) ∧ Below w.heap.size w w' := Any.strings_Repeat Tryd.lays105 Tryd.Builder_Extra_105 s c w hc hlen
end Go.Proofs

namespace Go.Proofs.YthlagpmacnijfaaDoor
open Go.RowKit

/-- The keys that the properties use. -/
def keyOf (p : Nat) : ByteArray := strOf (Lib.repeatL [49, UInt8.ofNat (50 + p)] 32)
theorem keyOf_good (p : Nat) (h : p < 8) : (keyOf p).size = 64 ∧ Hx.checkErr (keyOf p).data.toList = 0 := by
  have : p = 0 ∨ p = 1 ∨ p = 2 ∨ p = 3 ∨ p = 4 ∨ p = 5 ∨ p = 6 ∨ p = 7 := by omega
  rcases this with rfl | rfl | rfl | rfl | rfl | rfl | rfl | rfl <;> decide +kernel

set_option maxHeartbeats 400000 in
theorem keep_Key (n : Int) (w : World) (h0 : -9223372036854775808 ≤ n) (h1 : n ≤ 9223372036854775807) :
    Calls Tryd.prog 34 #[.int .i64 n] w fun e w' => e = .returned (.string (keyOf (pick n 8))) ∧ Below w.heap.size w w' := by
  have hp := pick_lt n 8 (by decide)
  have hP := fun W => keep_picked n 8 W h0 h1 (by decide) (by decide)
  generalize pick n 8 = p at *
  have : p = 0 ∨ p = 1 ∨ p = 2 ∨ p = 3 ∨ p = 4 ∨ p = 5 ∨ p = 6 ∨ p = 7 := by omega
  rcases this with rfl | rfl | rfl | rfl | rfl | rfl | rfl | rfl <;>
  · go_enter Tryd.func34, Tryd.ntmps34
    go_wp2_with (go_at_call 17; refine (hP _).mono ?_; rintro e w' ⟨rfl, rfl⟩)
    refine (Tryd.strings_Repeat _ 32 _ (by decide) (by decide +kernel)).mono ?_
    rintro e w1 ⟨rfl, hb1⟩
    go_wp2
    go_ret
    exact ⟨congrArg (fun x => Ending.returned (.string x)) (by decide +kernel), hb1⟩
end Go.Proofs.YthlagpmacnijfaaDoor

namespace Go.Proofs.YthlagpmacnijfaaDoor
open Go.ChangeShapes Go.WideShapes Go.ChangeAt Go.RowKit

theorem own_knob : ownKnob Tryd.prog.godebug = none := by kernel_rfl
theorem laid_out : laidOutB Tryd.prog = true := by kernel_rfl

theorem lt_of_cell {w : World} {a : Addr} {v : Value} (h : w.cell? a = some v) : a.block < w.heap.size := by
  rcases Nat.lt_or_ge a.block w.heap.size with hlt | hge
  · exact hlt
  · simp [World.cell?, Array.getElem?_eq_none hge] at h

theorem byte_wf {n : Int} (h : (Lit.int .u8 n).wf = true) : ((UInt8.ofNat n.toNat).toNat : Int) = n := by
  have hb := bounds_u8 h
  rw [UInt8.toNat_ofNat', Nat.mod_eq_of_lt (by omega)]
  omega
end Go.Proofs.YthlagpmacnijfaaDoor
