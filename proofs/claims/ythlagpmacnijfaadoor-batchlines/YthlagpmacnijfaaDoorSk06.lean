/- What the shorter list of variables gives. -/
import Derived.Test.YthlagpmacnijfaaDoorSk04
import Derived.Test.YthlagpmacnijfaaDoorSk05
import Derived.SizedLaws
import Derived.Test.YthlagpmacnijfaaDoorSk02
import Derived.Test.YthlagpmacnijfaaDoorSk01
import Derived.Test.YthlagpmacnijfaaDoorSk03
import Derived.Test.YthlagpmacnijfaaDoorCards
import Derived.Test.YthlagpmacnijfaaDoorTie
import Derived.Test.YthlagpmacnijfaaDoorCodeTabs
import Derived.Deep.DeepHandedRow
import Derived.Deep.DeepLaidRun
import Derived.Lib.LaidTab
import Derived.MakeChecks
import Derived.Stop.LaidErr
import Derived.Test.YthlagpmacnijfaaDoorBatchTabs
import Derived.OpenShut
namespace Go.Proofs.YthlagpmacnijfaaDoor
open Go.RowKit

set_option maxRecDepth 20000 in
set_option maxHeartbeats 1600000 in
theorem law_BatchBack (hPr : PrintDoes) (hPa : ParseDoes) (a : Option Addr) (n c : Nat) (l : List RawD) (w : World) (h : RawsAt w w.heap.size a n l) (hn : n ≤ maxLen) (hok : ∀ r ∈ l, r.ok) (hT : BTabs w) :
    Calls Tryd.prog 4 #[.slice a n c] w fun e w' => e = .returned (.bool true) ∧ Below w.heap.size w w' := by
  have H1 := Lib.hid (keep_Settings a n c 25 l w h hn (by decide) hok)
  obtain ⟨g1, g2, g3⟩ := Bt.raws_good l 25 (by decide)
  obtain ⟨t0, hto, pb, po⟩ := Bt.print_parse (fun s hs => (g1 s hs).1) (fun s hs => (g1 s hs).2.2.1) g3
  rw [Bt.map_lines (fun s hs => (g1 s hs).1)] at hto
  have H2 := Lib.hid (fun a n c W hW hn hT => hPr a n c _ W hW hn (SetsOk.of (fun s hs => ⟨(g1 s hs).2.1, (g1 s hs).2.2.1, (g1 s hs).2.2.2.1, (g1 s hs).2.2.2.2.1⟩)) hT)
  have H3 := Lib.hid (fun W hT => hPa (Ln.ofT (Bt.tOut (Bt.rawsS l 25))) W hT)
  unfold ParsePost at H3
  rw [pb, po] at H3
  rw [t0] at H2
  have H5 := Lib.hid (fun a n c W hW hn hT => keep_Text a n c _ W hW hn g1 hT)
  rw [← hto] at H5
  have HT := Lib.hid hT
  clear h hok hT hPr hPa g1 g3 t0 hto pb po
  generalize Bt.rawsS l 25 = L at *
  generalize Ln.ofT (Bt.tOut L) = T at *
  go_enter Tryd.func4, Tryd.ntmps4
  go_wp2_with fail
  refine H1.out.mono ?_
  rintro e w1 ⟨⟨v, rfl, hO⟩, hb1⟩
  obtain ⟨a1, c1, rfl, hat⟩ := hO.at
  have HL := Lib.hid hat
  have HB1 := Lib.hid hb1
  clear hat hb1 H1 hO
  go_wp2_with fail
  refine (H2.out _ _ _ w1 HL.out (by omega) (HT.out.below HB1.out)).mono ?_
  rintro e w2 ⟨rfl, hb2⟩
  have HL2 := Lib.hid (HL.out.kept hb2)
  have HB2 := Lib.hid (HB1.out.trans (hb2.mono HB1.out.size))
  clear hb2 HL HB1 H2
  go_wp2_with fail
  refine (H3.out w2 (HT.out.below HB2.out)).mono ?_
  rintro e w3 ⟨⟨a3, c3, rfl, hat3⟩, hb3⟩
  have HL3 := Lib.hid (HL2.out.kept hb3)
  have HM3 := Lib.hid hat3
  have HB3 := Lib.hid (HB2.out.trans (hb3.mono HB2.out.size))
  clear hb3 HL2 HB2 H3 hat3
  go_wp2_with fail
  refine (sets_Equal a1 a3 _ _ c1 c3 L L w3 HL3.out HM3.out (by omega)).mono ?_
  rintro e w4 ⟨r, rfl, hr, hb4⟩
  obtain rfl : r = true := hr.2 rfl
  have HL4 := Lib.hid (HL3.out.kept hb4)
  have HB4 := Lib.hid (HB3.out.trans (hb4.mono HB3.out.size))
  clear hb4 HL3 HB3 HM3 hr
  go_wp2_with fail
  refine (H5.out _ _ _ w4 HL4.out (by omega) (HT.out.below HB4.out).1.1).mono ?_
  rintro e w5 ⟨rfl, hb5⟩
  have HB5 := Lib.hid (HB4.out.trans (hb5.mono HB4.out.size))
  clear hb5 HL4 HB4 H5
  go_wp2
  go_ret
  exact ⟨rfl, HB5.out⟩
end Go.Proofs.YthlagpmacnijfaaDoor

namespace Go.Proofs.YthlagpmacnijfaaDoor
open Go.RowKit

theorem step_alloc_line (W : World) (xk xv : ByteArray) : Below W.heap.size W (W.alloc (.cells #[.string xk, .string xv] 30)) := (Below.refl _ _).alloc (Nat.le_refl _) _
theorem line_text (x : Ln.L) : x.k ++ (⟨#[61]⟩ : ByteArray) ++ x.v = Ln.ofT (Ln.lineT x) := by
  apply WideShapes.bytes_inj
  simp only [ByteArray.data_append, Array.toList_append, Ln.ofT_data]
  unfold Ln.lineT
  simp
theorem lib_JoinLines (l : List Ln.L) (w : World) (g : Nat) (hg : Blk w g 9 ((l.map fun x => Ln.ofT (Ln.lineT x)).map Value.string)) (hl : ∀ x ∈ l, Ln.err x = 0) (h60 : l.length ≤ 60) :
    Calls Tryd.prog 18 #[.slice (some ⟨g, 0, none⟩) l.length l.length, .string ⟨#[10]⟩] w fun e w' => e = .returned (.string (Ln.ofT (Ln.jText l))) ∧ Below w.heap.size w w' := by
  have hm : (l.map fun x => Ln.ofT (Ln.lineT x)).map (·.data.toList) = l.map Ln.lineT := by rw [List.map_map]; rfl
  have hjl : Lib.join ((l.map fun x => Ln.ofT (Ln.lineT x)).map (·.data.toList)) (⟨#[10]⟩ : ByteArray).data.toList = Ln.jText l := by
    rw [hm]; exact join_glue 10 _
  have hlen : (Ln.jText l).length ≤ 60 * 102 := by
    have h1 := Ln.glue_length 10 101 (l.map Ln.lineT) (by
      intro p hp
      obtain ⟨x, hx, rfl⟩ := List.mem_map.1 hp
      have := (Ln.err_zero (hl x hx)).1
      rw [Ln.lineT_length]; omega)
    rw [List.length_map] at h1
    have h2 : l.length * (101 + 1) ≤ 60 * 102 := by omega
    exact Nat.le_trans h1 h2
  have h := Tryd.strings_Join g 0 l.length (l.map fun x => Ln.ofT (Ln.lineT x)) ⟨#[10]⟩ w (by
    intro j x hx
    rw [Nat.zero_add]
    refine hg.cell j ?_
    rw [List.getElem?_map, hx]; rfl) hg.lt (by rw [List.length_map]; omega) (by rw [List.length_map]; exact Nat.le_refl _) (by rw [hjl]; omega)
  rw [hjl, List.length_map] at h
  exact h

set_option maxRecDepth 20000 in
set_option maxHeartbeats 1600000 in
theorem line_Join (a : Option Addr) (n c : Nat) (l : List Ln.L) (w : World) (h : LinesAt w w.heap.size a n l) :
    Calls Tryd.prog 37 #[.slice a n c] w fun e w' => e = .returned (.tuple #[.string (Ln.ofT (Ln.jOut l)), .int .i64 (Ln.jErr l : Int)]) ∧ Below w.heap.size w w' := by
  have hl := h.1
  have H := Lib.hid h
  clear h
  by_cases h60 : 60 < n
  · have Hr : Hid (Ln.jErr l = 1 ∧ Ln.jOut l = []) := Lib.hid (by
      have e : Ln.jErr l = 1 := by unfold Ln.jErr; rw [if_pos (by omega)]
      exact ⟨e, by unfold Ln.jOut; rw [if_neg (by rw [e]; decide)]⟩)
    go_enter Tryd.func37, Tryd.ntmps37
    go_wp2
    go_ret2
    rw [Hr.out.1, Hr.out.2]
    exact ⟨rfl, Below.refl _ _⟩
  · have hmk := make_texts n (by omega)
    obtain ⟨w1, hw1⟩ : ∃ w1, w1 = w.alloc (.cells (tcells [] n).toArray 9) := ⟨_, rfl⟩
    have HB := Lib.hid (show Below w.heap.size w w1 by rw [hw1]; exact (Below.refl _ _).alloc (Nat.le_refl _) _)
    have HT := Lib.hid (show Blk w1 w.heap.size 9 (tcells [] n) by rw [hw1]; exact Blk.new _ _ _)
    have Hl := Lib.hid hl
    have hfit : (n : Int) ≤ 60 := by omega
    go_enter Tryd.func37, Tryd.ntmps37
    go_wp2
    rw [← hw1]
    clear hmk hw1
    go_loopw [17] (fun i wr => ∃ k : Nat, k ≤ n ∧ i = .int .i64 k ∧ Hid (∀ x ∈ l.take k, Ln.err x = 0) ∧ Hid (Blk wr w.heap.size 9 (tcells ((l.take k).map fun x => Ln.ofT (Ln.lineT x)) n)) ∧ Hid (Below w.heap.size w wr)) (fun i _ => n - (intOf i).toNat)
    case atStart => exact ⟨0, Nat.zero_le _, rfl, Lib.hid (fun x hx => by simp at hx), Lib.hid (by simpa using HT.out), HB⟩
    case round =>
      obtain ⟨k, hk, rfl, Ha, Hb, HBr⟩ := hrel
      obtain ⟨wo, hwo⟩ : ∃ wo, wo = wr := ⟨_, rfl⟩
      subst hwo
      by_cases hlt : k < n
      · obtain ⟨b, off, rfl, hbl, hc⟩ := (H.out.below HBr.out).2 (by omega)
        have hkl : k < l.length := by omega
        obtain ⟨c0, c1⟩ := hc k hkl
        have Ht : Hid (l.take (k + 1) = l.take k ++ [l[k]]) := Lib.hid (List.take_succ_eq_append_getElem hkl)
        have Hf := Lib.hid (fun he => Ln.fault_at l k hkl Ha.out he)
        have Htl : Hid (((l.take k).map fun x => Ln.ofT (Ln.lineT x)).length = k) := Lib.hid (by rw [List.length_map, List.length_take]; omega)
        have hsz := HBr.out.size
        clear hc
        generalize l[k] = x at *
        have HC := Lib.hid (fun W => line_Check x W)
        obtain ⟨xk, xv⟩ := x
        unfold lineV at HC
        by_cases he : Ln.err ⟨xk, xv⟩ = 0
        · have Hz := Lib.hid (Ln.err_zero he)
          rw [he] at HC
          have Hx := Lib.hid he
          have HL := Lib.hid (line_text ⟨xk, xv⟩)
          have s1 : xk.size ≤ 30 := Hz.out.1.2.1
          have s2 : xv.size ≤ 70 := Hz.out.1.2.2
          clear he Hf
          go_wp2_with fail
          refine (HC.out _).mono ?_
          rintro e w2 ⟨rfl, hb2⟩
          have hA := step_alloc_line wo xk xv
          have hnew := (Blk.new wo 30 [.string xk, .string xv]).kept hb2
          have n0 := hnew.cell 0 rfl
          have n1 := hnew.cell 1 rfl
          have hgl := Hb.out.lt
          have hbk := ((Hb.out.kept hA).kept hb2)
          have ht0 := hbk.cell k (by have := tcells_old ((l.take k).map fun x => Ln.ofT (Ln.lineT x)) n (by rw [Htl.out]; exact hlt); rwa [Htl.out] at this)
          have ht1 := hbk.frozen (by rw [tcells_length _ _ (by rw [Htl.out]; exact hk)]; unfold maxLen; omega) k
          have Hset := Lib.hid (fun u => hbk.set (by rw [tcells_length _ _ (by rw [Htl.out]; exact hk)]; unfold maxLen; omega) k u)
          have HB2 := Lib.hid ((HBr.out.trans (hA.mono hsz)).trans (hb2.mono (Nat.le_trans hsz hA.size)))
          clear hnew hbk hA hb2 HC c0 c1
          have Hn := Lib.hid (show ∀ y ∈ l.take (k + 1), Ln.err y = 0 by
            intro y hy
            rw [Ht.out] at hy
            rcases List.mem_append.1 hy with hy | hy
            · exact Ha.out y hy
            · rw [List.mem_singleton.1 hy]; exact Hx.out)
          have Hs := Lib.hid (show (tcells ((l.take k).map fun x => Ln.ofT (Ln.lineT x)) n).set k (.string (xk ++ (⟨#[61]⟩ : ByteArray) ++ xv)) = tcells ((l.take (k + 1)).map fun x => Ln.ofT (Ln.lineT x)) n by
            have e := tcells_set ((l.take k).map fun x => Ln.ofT (Ln.lineT x)) n (by rw [Htl.out]; exact hlt) (xk ++ (⟨#[61]⟩ : ByteArray) ++ xv)
            rw [Htl.out] at e
            rw [e, Ht.out, List.map_append, List.map_singleton, ← HL.out])
          clear Ha Hx Htl Ht
          go_wp2
          go_roundw
          case rel => exact ⟨k + 1, by omega, by go_num, Hn, Lib.hid (by rw [← Hs.out]; exact Hset.out _), Lib.hid (HB2.out.setCell (Nat.le_refl _) _)⟩
          case measure => simp [intOf]; omega
        · have Hr : Hid (Ln.jErr l = Ln.err ⟨xk, xv⟩ ∧ Ln.jOut l = []) := Lib.hid (by
            have e : Ln.jErr l = Ln.err ⟨xk, xv⟩ := by
              unfold Ln.jErr
              rw [if_neg (by omega), if_pos (by rw [Hf.out he]; exact he), Hf.out he]
            exact ⟨e, by unfold Ln.jOut; rw [if_neg (by rw [e]; exact he)]⟩)
          have hn : ((Ln.err ⟨xk, xv⟩ : Int) != 0) = true := by simpa using he
          clear he Hf
          generalize Ln.err ⟨xk, xv⟩ = r at *
          go_wp2_with fail
          refine (HC.out _).mono ?_
          rintro e w2 ⟨rfl, hb2⟩
          have HB2 := Lib.hid ((HBr.out.trans ((step_alloc_line wo xk xv).mono hsz)).trans (hb2.mono (Nat.le_trans hsz (step_alloc_line wo xk xv).size)))
          clear hb2 HC c0 c1
          go_wp2
          go_ret2
          rw [Hr.out.1, Hr.out.2]
          exact ⟨rfl, HB2.out⟩
      · obtain rfl : k = n := by omega
        have htk : l.take k = l := List.take_of_length_le (by omega)
        rw [htk] at Ha Hb
        rw [tcells_full _ k (by rw [List.length_map]; exact Hl.out)] at Hb
        have HJ := Lib.hid (lib_JoinLines l wo w.heap.size Hb.out Ha.out (by omega))
        rw [Hl.out] at HJ
        have Hf := Lib.hid (Ln.fault_good l Ha.out)
        have hz : (Ln.ofT (Ln.jText l)).size = (Ln.jText l).length := by simp [Ln.ofT, ByteArray.size]
        by_cases h3 : 3000 < (Ln.jText l).length
        · have Hr : Hid (Ln.jErr l = 1 ∧ Ln.jOut l = []) := Lib.hid (by
            have e : Ln.jErr l = 1 := by unfold Ln.jErr; rw [if_neg (by omega), if_neg (by rw [Hf.out]; decide), if_pos h3]
            exact ⟨e, by unfold Ln.jOut; rw [if_neg (by rw [e]; decide)]⟩)
          rw [← hz] at h3
          have d3 : decide ((3000 : Int) < ((Ln.ofT (Ln.jText l)).size : Int)) = true := decide_eq_true (by omega)
          clear hz h3
          generalize Ln.ofT (Ln.jText l) = T at *
          go_wp2_with fail
          refine HJ.out.mono ?_
          rintro e w2 ⟨rfl, hb2⟩
          have HB2 := Lib.hid (HBr.out.trans (hb2.mono HBr.out.size))
          clear hb2 HJ
          go_wp2
          go_ret2
          rw [Hr.out.1, Hr.out.2]
          exact ⟨rfl, HB2.out⟩
        · have Hr : Hid (Ln.jErr l = 0 ∧ Ln.jOut l = Ln.jText l) := Lib.hid (by
            have e : Ln.jErr l = 0 := by unfold Ln.jErr; rw [if_neg (by omega), if_neg (by rw [Hf.out]; decide), if_neg h3]
            exact ⟨e, by unfold Ln.jOut; rw [if_pos e]⟩)
          rw [← hz] at h3
          have d3 : decide ((3000 : Int) < ((Ln.ofT (Ln.jText l)).size : Int)) = false := decide_eq_false (by omega)
          clear hz h3
          generalize hT : Ln.ofT (Ln.jText l) = T at *
          have HT := Lib.hid hT
          clear hT
          go_wp2_with fail
          refine HJ.out.mono ?_
          rintro e w2 ⟨rfl, hb2⟩
          have HB2 := Lib.hid (HBr.out.trans (hb2.mono HBr.out.size))
          clear hb2 HJ
          go_wp2
          go_ret2
          rw [Hr.out.1, Hr.out.2, HT.out]
          exact ⟨rfl, HB2.out⟩
end Go.Proofs.YthlagpmacnijfaaDoor

namespace Go.Proofs.YthlagpmacnijfaaDoor
open Go.RowKit

set_option maxRecDepth 20000 in
set_option maxHeartbeats 8000000 in
theorem batch_Print (a : Option Addr) (n c : Nat) (l : List Bt.S) (w : World) (h : SetsAt w w.heap.size a n l) (hn : n ≤ 2000000) (hok : SetsOk l) (hT : BTabs w) :
    Calls Tryd.prog 12 #[.slice a n c] w fun e w' => e = .returned (.tuple #[.string (Ln.ofT (Bt.tOut l)), .int .i64 (Bt.tErr l : Int)]) ∧ Below w.heap.size w w' := by
  have Hn : Hid (l.length = n) := Lib.hid h.1
  have H := Lib.hid h
  have Hok := Lib.hid hok
  have HT := Lib.hid hT
  have hmk := make_lines n hn
  have HE := Lib.hid (fun k hk ha hne => Bt.fault_at l k hk ha hne)
  have HG := Lib.hid (fun hall => Bt.fault_good l hall)
  have HTe : Hid (Bt.fault l ≠ 0 → Bt.tErr l = Bt.fault l ∧ Bt.tOut l = []) := Lib.hid (fun hf => by
    have : Bt.tErr l = Bt.fault l := by unfold Bt.tErr; rw [if_pos hf]
    exact ⟨this, by unfold Bt.tOut; rw [this, if_neg hf]⟩)
  have HTo : Hid (Bt.fault l = 0 → Bt.tErr l = Ln.jErr (l.map Bt.line) ∧ Bt.tOut l = Ln.jOut (l.map Bt.line)) := Lib.hid (fun hf => by
    have : Bt.tErr l = Ln.jErr (l.map Bt.line) := by unfold Bt.tErr; rw [if_neg (by omega)]
    exact ⟨this, by unfold Bt.tOut Ln.jOut; rw [this]⟩)
  obtain ⟨TO, hTO⟩ : ∃ TO, TO = Bt.tOut l := ⟨_, rfl⟩
  obtain ⟨TE, hTE⟩ : ∃ TE, TE = Bt.tErr l := ⟨_, rfl⟩
  rw [← hTO, ← hTE]
  rw [← hTO, ← hTE] at HTe HTo
  clear h hok hT hTO hTE
  obtain ⟨w2, hw2⟩ : ∃ w2, w2 = w.alloc (.cells (lcells [] n).toArray 30) := ⟨_, rfl⟩
  have HB2 := Lib.hid (show Below w.heap.size w w2 by rw [hw2]; exact (Below.refl _ _).alloc (Nat.le_refl _) _)
  have HG2 := Lib.hid (show Blk w2 w.heap.size 30 (lcells [] n) by rw [hw2]; exact Blk.new _ _ _)
  go_enter Tryd.func12, Tryd.ntmps12
  go_wp2
  rw [← hw2]
  clear hmk hw2
  go_loopw [14] (fun i wr => ∃ k : Nat, k ≤ n ∧ i = .int .i64 (k : Int) ∧ Hid (∀ x ∈ l.take k, Bt.err x = 0) ∧ Hid (Blk wr w.heap.size 30 (lcells ((l.take k).map Bt.line) n)) ∧ Hid (Below w.heap.size w wr)) (fun i _ => n - (intOf i).toNat)
  case atStart => exact ⟨0, Nat.zero_le _, rfl, Lib.hid (fun x hx => by simp at hx), Lib.hid (by simpa using HG2.out), HB2⟩
  case round =>
    obtain ⟨k, hk, rfl, Ha, Hbk, HBr⟩ := hrel
    obtain ⟨wo, hwo⟩ : ∃ wo, wo = wr := ⟨_, rfl⟩
    subst hwo
    have hsz := HBr.out.size
    by_cases hlt : k < n
    · have hll : k < l.length := by have := Hn.out; omega
      obtain ⟨b, off, rfl, hbl, hc⟩ := (H.out.below HBr.out).2 (by omega)
      obtain ⟨c0, c1, c2, c3, c4⟩ := hc k hll
      have Ht : Hid (l.take (k + 1) = l.take k ++ [l[k]]) := Lib.hid (List.take_succ_eq_append_getElem hll)
      have Htl : Hid (((l.take k).map Bt.line).length = k) := Lib.hid (by rw [List.length_map, List.length_take]; omega)
      have Hf := Lib.hid (HE.out k hll Ha.out)
      obtain ⟨k1, k2, k3, k4⟩ := Hok.out _ (List.getElem_mem hll)
      clear hc
      generalize l[k] = x at *
      have HLn := Lib.hid (fun W hW => batch_Line x W k1 k2 k3 k4 (HT.out.below hW))
      have Hm : Hid ((l.take (k + 1)).map Bt.line = (l.take k).map Bt.line ++ [Bt.line x]) := Lib.hid (by rw [Ht.out, List.map_append, List.map_singleton])
      have Hn1 := Lib.hid (fun (he : Bt.err x = 0) => show ∀ y ∈ l.take (k + 1), Bt.err y = 0 by
        intro y hy
        rw [Ht.out] at hy
        rcases List.mem_append.1 hy with hy | hy
        · exact Ha.out y hy
        · rw [List.mem_singleton.1 hy]; exact he)
      clear k1 k2 k3 k4
      generalize (l.take k).map Bt.line = D at *
      generalize Bt.line x = L at *
      obtain ⟨X, Y⟩ := L
      by_cases he : Bt.err x = 0
      · have Hall := Lib.hid (Hn1.out he)
        rw [he] at HLn
        clear he Hf Hn1 Ha
        obtain ⟨sk, st, sn, sa, sb⟩ := x
        unfold lineV setV at HLn
        obtain ⟨w3, hw3⟩ : ∃ w3, w3 = wo.alloc (.cells #[.int .i64 sk, .string st, .int .i64 sn, .int .u32 (sa : Int), .int .i64 sb] 26) := ⟨_, rfl⟩
        have hA3 : Below wo.heap.size wo w3 := by rw [hw3]; exact (Below.refl _ _).alloc (Nat.le_refl _) _
        have hM3 := show Blk w3 wo.heap.size 26 [.int .i64 sk, .string st, .int .i64 sn, .int .u32 (sa : Int), .int .i64 sb] by rw [hw3]; exact Blk.new _ _ _
        have HB3 := Lib.hid (HBr.out.trans (hA3.mono hsz))
        have HG3 := Lib.hid (Hbk.out.kept hA3)
        obtain ⟨⟨s0, s1, s2, s3, s4⟩, -⟩ := hM3.facts5
        simp only at c0 c1 c2 c3 c4
        clear hA3 hM3
        go_upto_region 5 with fail
        rw [← hw3]
        clear hw3 c0 c1 c2 c3 c4
        go_wp2_with fail
        refine (HLn.out w3 HB3.out).mono ?_
        rintro e w4 ⟨rfl, hb4⟩
        have hg4 := HG3.out.kept hb4
        obtain ⟨hset, q0, q1, f0, f1⟩ := hg4.set_at hn Htl.out hlt ⟨X, Y⟩
        rw [← Hm.out] at hset
        have hgl4 := hg4.lt
        have HB4 := Lib.hid (HB3.out.trans (hb4.mono HB3.out.size))
        have Hset := Lib.hid hset
        clear hset hg4 hb4 s0 s1 s2 s3 s4
        go_wp2
        go_roundw
        case rel =>
          have hB5 := (HB4.out.setCell (p := ⟨w.heap.size, k * 2, none⟩) (Nat.le_refl _) (.string X)).setCell (p := ⟨w.heap.size, k * 2 + 1, none⟩) (Nat.le_refl _) (.string Y)
          exact ⟨k + 1, by omega, by go_num, Hall, Lib.hid (Hset.out.kept ((Below.refl _ _).alloc (Nat.le_refl _) _)), Lib.hid (hB5.alloc hB5.size _)⟩
        case measure => simp [intOf]; omega
      · have hfl : Bt.fault l = Bt.err x := Hf.out he
        obtain ⟨r1, r2⟩ := HTe.out (by rw [hfl]; exact he)
        rw [hfl] at r1
        have R1 := Lib.hid r1
        have R2 := Lib.hid r2
        have hne : ((Bt.err x : Int) != 0) = true := by simpa using he
        clear he Hf Hn1 Ha hfl r1 r2
        generalize Bt.err x = r at *
        obtain ⟨sk, st, sn, sa, sb⟩ := x
        unfold lineV setV at HLn
        obtain ⟨w3, hw3⟩ : ∃ w3, w3 = wo.alloc (.cells #[.int .i64 sk, .string st, .int .i64 sn, .int .u32 (sa : Int), .int .i64 sb] 26) := ⟨_, rfl⟩
        have hA3 : Below wo.heap.size wo w3 := by rw [hw3]; exact (Below.refl _ _).alloc (Nat.le_refl _) _
        have hM3 := show Blk w3 wo.heap.size 26 [.int .i64 sk, .string st, .int .i64 sn, .int .u32 (sa : Int), .int .i64 sb] by rw [hw3]; exact Blk.new _ _ _
        have HB3 := Lib.hid (HBr.out.trans (hA3.mono hsz))
        obtain ⟨⟨s0, s1, s2, s3, s4⟩, -⟩ := hM3.facts5
        simp only at c0 c1 c2 c3 c4
        clear hA3 hM3
        go_upto_region 5 with fail
        rw [← hw3]
        clear hw3 c0 c1 c2 c3 c4
        go_wp2_with fail
        refine (HLn.out w3 HB3.out).mono ?_
        rintro e w4 ⟨rfl, hb4⟩
        have HB4 := Lib.hid (HB3.out.trans (hb4.mono HB3.out.size))
        have HB5 := Lib.hid (HB4.out.alloc HB4.out.size (.cells #[.string X, .string Y] 30))
        clear hb4 s0 s1 s2 s3 s4
        go_wp2
        go_ret2
        exact ⟨by rw [R1.out, R2.out]; rfl, HB5.out⟩
    · obtain rfl : k = n := by omega
      have htk : l.take k = l := List.take_of_length_le (by have := Hn.out; omega)
      rw [htk] at Ha Hbk
      obtain ⟨r1, r2⟩ := HTo.out (HG.out Ha.out)
      have HL := lines_blk Hbk.out (by rw [List.length_map]; exact Hn.out)
      have HJ := Lib.hid (line_Join _ k k _ wo HL)
      rw [← r1, ← r2] at HJ
      clear htk r1 r2 HL Hbk
      go_wp2_with fail
      refine HJ.out.mono ?_
      rintro e w3 ⟨rfl, hb3⟩
      have HBf := Lib.hid (HBr.out.trans (hb3.mono hsz))
      clear hb3
      go_wp2
      go_ret2
      exact ⟨rfl, HBf.out⟩
end Go.Proofs.YthlagpmacnijfaaDoor

namespace Go.Proofs.YthlagpmacnijfaaDoor
open Go.RowKit

namespace Bt
abbrev textP : ByteArray := ⟨#[108, 105, 115, 116, 101, 110, 95, 112, 111, 114, 116, 61, 55]⟩
theorem port_parsed : pBad textP = (0, 0) ∧ pOut textP = [⟨2, ⟨#[]⟩, 7, 0, 0⟩] := by
  have he : ∀ s ∈ [(⟨2, ⟨#[]⟩, 7, 0, 0⟩ : S)], err s = 0 := by decide
  obtain ⟨-, h2, h3, h4⟩ := print_parse (l := [⟨2, ⟨#[]⟩, 7, 0, 0⟩]) he (by decide) (by decide +kernel)
  have e : Ln.ofT (tOut [⟨2, ⟨#[]⟩, 7, 0, 0⟩]) = textP := by
    rw [h2]
    have e1 : Ln.jText ([(⟨2, ⟨#[]⟩, 7, 0, 0⟩ : S)].map line) = textP.data.toList := by decide +kernel
    rw [e1, Ln.ofT_of]
  rw [e] at h3 h4
  exact ⟨h3, h4⟩
theorem ofLine_ok (l : Ln.L) (hv : l.v.size ≤ 1048576) : (ofLine l).1.t.size ≤ 1048576 ∧ (ofLine l).1.a < 4294967296 ∧ -9223372036854775808 ≤ (ofLine l).1.n ∧ (ofLine l).1.n ≤ 9223372036854775807 := by
  have hz : zeroS.t.size ≤ 1048576 ∧ zeroS.a < 4294967296 ∧ -9223372036854775808 ≤ zeroS.n ∧ zeroS.n ≤ 9223372036854775807 := by decide
  unfold ofLine
  split
  · exact hz
  · unfold pick1
    split
    · rename_i s hs
      exact cands_ok _ _ hv s (List.mem_of_find?_eq_some hs)
    · exact hz
theorem out_ok (s : ByteArray) (h : (pBad s).2 = 0) : SetsOk (pOut s) ∧ (pOut s).length ≤ 60 := by
  have h0 : (Ln.sBad s).2 = 0 := by
    by_cases h0 : (Ln.sBad s).2 = 0
    · exact h0
    · rw [pBad_split h0] at h; exact absurd h h0
  obtain ⟨hl, h60⟩ := lines_ok h0
  have ho : pOut s = (Ln.sOut s).map (fun l => (ofLine l).1) := by unfold pOut; rw [if_pos h]
  rw [ho]
  refine ⟨fun x hx => ?_, by rw [List.length_map]; exact h60⟩
  obtain ⟨p, hp, rfl⟩ := List.mem_map.1 hx
  exact ofLine_ok p (by have := (Ln.err_zero (hl p hp)).1; omega)
end Bt
set_option maxRecDepth 20000 in
set_option maxHeartbeats 1600000 in
theorem law_BatchTurns (hPr : PrintDoes) (hPa : ParseDoes) (s : ByteArray) (w : World) (_ : s.size ≤ reachBytes) (hT : BTabs w) :
    Calls Tryd.prog 5 #[.string s] w fun e w' => e = .returned (.bool true) ∧ Below w.heap.size w w' := by
  have H1 := Lib.hid (hPa s w hT)
  have H2 := Lib.hid (fun W hT => hPa Bt.textP W hT)
  have HT := Lib.hid hT
  unfold ParsePost at H1 H2
  rw [Bt.port_parsed.1, Bt.port_parsed.2] at H2
  by_cases he : (Bt.pBad s).2 = 0
  · obtain ⟨k1, k2⟩ := Bt.out_ok s he
    obtain ⟨p1, p2⟩ := Bt.parse_print he
    have H4 := Lib.hid (fun a n c W hW hn hT => hPr a n c (Bt.pOut s) W hW hn k1 hT)
    rw [p1, p2] at H4
    rw [he] at H1
    clear he hT hPr hPa k1 p1 p2
    generalize Bt.pOut s = L at *
    generalize (Bt.pBad s).1 = bi at *
    go_enter Tryd.func5, Tryd.ntmps5
    go_wp2_with fail
    refine H1.out.mono ?_
    rintro e w1 ⟨⟨a, c, rfl, hat⟩, hb1⟩
    have HL := Lib.hid hat
    have HB1 := Lib.hid hb1
    clear hat hb1 H1
    go_wp2_with fail
    refine (H2.out w1 (HT.out.below HB1.out)).mono ?_
    rintro e w2 ⟨⟨a', c', rfl, hat'⟩, hb2⟩
    have HL2 := Lib.hid (HL.out.kept hb2)
    have HB2 := Lib.hid (HB1.out.trans (hb2.mono HB1.out.size))
    obtain ⟨b, off, rfl, hbl, hc⟩ := hat'.2 (by decide)
    obtain ⟨-, -, c2, -, -⟩ := hc 0 (by decide)
    simp only [List.getElem_cons_zero, Nat.zero_mul, Nat.add_zero] at c2
    clear hb2 HL HB1 H2 hc hat'
    go_wp2_with fail
    refine (H4.out _ _ _ w2 HL2.out (by omega) (HT.out.below HB2.out)).mono ?_
    rintro e w3 ⟨rfl, hb3⟩
    have HB3 := Lib.hid (HB2.out.trans (hb3.mono HB2.out.size))
    clear hb3 HL2 HB2 H4
    go_wp2
    go_ret
    exact ⟨rfl, HB3.out⟩
  · have ho := Bt.pOut_err he
    have hn : (((Bt.pBad s).2 : Int) != 0) = true := by simpa using he
    rw [ho] at H1
    clear he ho hT hPr hPa
    generalize (Bt.pBad s).1 = bi at *
    generalize (Bt.pBad s).2 = br at *
    have d1 : decide (0 ≤ (bi : Int)) = true := decide_eq_true (by omega)
    go_enter Tryd.func5, Tryd.ntmps5
    go_wp2_with fail
    refine H1.out.mono ?_
    rintro e w1 ⟨⟨a, c, rfl, hat⟩, hb1⟩
    have HB1 := Lib.hid hb1
    clear hat hb1 H1
    go_wp2_with fail
    refine (H2.out w1 (HT.out.below HB1.out)).mono ?_
    rintro e w2 ⟨⟨a', c', rfl, hat'⟩, hb2⟩
    have HB2 := Lib.hid (HB1.out.trans (hb2.mono HB1.out.size))
    obtain ⟨b, off, rfl, hbl, hc⟩ := hat'.2 (by decide)
    obtain ⟨-, -, c2, -, -⟩ := hc 0 (by decide)
    simp only [List.getElem_cons_zero, Nat.zero_mul, Nat.add_zero] at c2
    clear hb2 H2 hc hat' HB1
    go_wp2
    go_ret
    exact ⟨rfl, HB2.out⟩
end Go.Proofs.YthlagpmacnijfaaDoor

namespace Go.Proofs.YthlagpmacnijfaaDoor
open Go.RowKit

theorem print_does : PrintDoes := fun a n c l w h hn hok hT => batch_Print a n c l w h hn hok hT
theorem parse_does : ParseDoes := fun s w hT => batch_Parse s w hT
theorem line_does : LineDoes := fun s w h1 h2 h3 h4 hT => batch_Line s w h1 h2 h3 h4 hT
theorem read_does : ReadDoes := fun l w h hT => batch_Read l w h hT
theorem walk_BatchBack (a : Option Addr) (n c : Nat) (l : List RawD) (w : World) (h : RawsAt w w.heap.size a n l) (hn : n ≤ c) (hm : c ≤ maxLen) (hok : ∀ r ∈ l, r.ok) (hT : BTabs w) :
    Calls Tryd.prog 4 #[.slice a n c] w fun e w' => e = .returned (.bool true) ∧ Below w.heap.size w w' := law_BatchBack print_does parse_does a n c l w h (Nat.le_trans hn hm) hok hT
theorem walk_BatchTurns (s : ByteArray) (w : World) (h : s.size ≤ reachBytes) (hT : BTabs w) :
    Calls Tryd.prog 5 #[.string s] w fun e w' => e = .returned (.bool true) ∧ Below w.heap.size w w' := law_BatchTurns print_does parse_does s w h hT
theorem walk_BatchLines (a : Option Addr) (n c : Nat) (l : List RawD) (q : Int) (w : World) (h : RawsAt w w.heap.size a n l) (hn : n ≤ c) (hm : c ≤ maxLen) (hok : ∀ r ∈ l, r.ok) (q0 : -9223372036854775808 ≤ q) (q1 : q ≤ 9223372036854775807) (hT : BTabs w) :
    Calls Tryd.prog 6 #[.slice a n c, .int .i64 q] w fun e w' => e = .returned (.bool true) ∧ Below w.heap.size w w' := law_BatchLines line_does read_does parse_does a n c l q w h (Nat.le_trans hn hm) hok q0 q1 hT
end Go.Proofs.YthlagpmacnijfaaDoor

namespace Go.Proofs.YthlagpmacnijfaaDoor
open Go.ChangeShapes Go.WideShapes Go.ChangeAt Go.RowKit

theorem gPow : Tryd.prog.globalNamed "internal/strconv.uint64pow10" = some 2 := by kernel_rfl
theorem gPowType : (Tryd.prog.globals[2]?).map (·.type) = some 151 := by kernel_rfl
theorem cellsPow : Tryd.prog.cellsOf 151 = 20 := by kernel_rfl
theorem cellsU64 : Tryd.prog.cellsOf 127 = 1 := by kernel_rfl
theorem gRange : Tryd.prog.globalNamed "strconv.ErrRange" = some 4 := by kernel_rfl
theorem gRangeType : (Tryd.prog.globals[4]?).map (·.type) = some 85 := by kernel_rfl
theorem gSyntax : Tryd.prog.globalNamed "strconv.ErrSyntax" = some 3 := by kernel_rfl
theorem gSyntaxType : (Tryd.prog.globals[3]?).map (·.type) = some 85 := by kernel_rfl
theorem cellsErr : Tryd.prog.cellsOf 167 = 1 := by kernel_rfl
theorem cellsStr : Tryd.prog.cellsOf 9 = 1 := by kernel_rfl
theorem star_err : "*" ++ "errors.errorString" = "*errors.errorString" := by decide
theorem row_err (u : TypeId) (h : Tryd.prog.typeName? 3 u = some "*errors.errorString") : u = 165 :=
  typeName_ptr_named (nm := "errors.errorString") (by rw [star_err]; kernel_rfl) (by kernel_rfl) (by decide) u (by rw [star_err]; exact h)
theorem pow_of_head {W : World} {r : List (String × DataW Unit)} (h : laidMet Tryd.prog (("internal/strconv.uint64pow10", Rows.laid_internal_strconv_uint64pow10) :: r) W) : PowTab W :=
  Lib.tabIs_of_head (k := .u64) (zs := Lib.pow10Tab) gPow gPowType Tryd.underlying151 Tryd.underlying127 cellsU64 cellsPow h
theorem err_of_head {W : World} {n : String} {g : Nat} {text : List UInt8} {r : List (String × DataW Unit)} (hg : Tryd.prog.globalNamed n = some g) (ht : (Tryd.prog.globals[g]?).map (·.type) = some 85)
    (h : laidMet Tryd.prog ((n, .iface "*errors.errorString" (.ptr (.agg [.lit (.string text)]))) :: r) W) : ∃ t p, W.cell? ⟨g, 0, none⟩ = some (.iface t p) := by
  obtain ⟨a, s, hv, _⟩ := laid_sentinel h hg ht Tryd.underlying85 row_err Tryd.underlying165 Tryd.underlying167 rfl rfl Tryd.underlying9 cellsErr cellsStr
  exact ⟨_, _, World.var?_cell hg hv 0⟩
theorem max_of_shaped {W : World} (h : W.ShapedOpen Tryd.prog) : MaxTab W := Tryd.laysM145.s1_3 W h

/-- The cells of a datum. -/
def flat : Nat → DataW Unit → List Value
  | n + 1, .agg ps => ps.flatMap (flat n)
  | _, .lit (.int k z) => [.int k z]
  | _, .lit (.string s) => [.string ⟨s.toArray⟩]
  | _, _ => []
/-- A block's cells anew. -/
def put (vs : List Value) : Obj → Obj
  | .cells _ t frozen => .cells vs.toArray t frozen
  | o => o
noncomputable def low : Nat := (World.holding Tryd.prog default ⟨#[], #[], []⟩).heap.size
abbrev rangeS : ByteArray := ⟨#[118, 97, 108, 117, 101, 32, 111, 117, 116, 32, 111, 102, 32, 114, 97, 110, 103, 101]⟩
abbrev syntaxS : ByteArray := ⟨#[105, 110, 118, 97, 108, 105, 100, 32, 115, 121, 110, 116, 97, 120]⟩
end Go.Proofs.YthlagpmacnijfaaDoor

namespace Go.Proofs.YthlagpmacnijfaaDoor
open Go.ChangeShapes Go.WideShapes Go.ChangeAt Go.RowKit

theorem gShapes : Tryd.prog.globalNamed "cattlecreep/batch.shapes" = some 0 := by kernel_rfl
theorem gShapesType : (Tryd.prog.globals[0]?).map (·.type) = some 55 := by kernel_rfl
theorem cellsShapes : Tryd.prog.cellsOf 55 = 22 := by kernel_rfl
theorem cellsShape : Tryd.prog.cellsOf 54 = 2 := by kernel_rfl
/-- The table as the row lists it. -/
theorem shapes_list : (Rows.laid_cattlecreep_batch_shapes : DataW Unit) = .agg ((List.range 11).map fun k => .agg [.lit (.string (Bt.nameOf k).data.toList), .lit (.int .i64 (Bt.fld (k : Int) : Int))]) := by kernel_rfl
set_option maxRecDepth 100000 in
theorem shape_cells {W : World} {base : Nat} {sp : Nat → Bool} {held : Bool} {n : Nat} {cs : List Value} {x : DataW Unit × List MemPlace} {s : ByteArray} {z : Int} {enc : TypeId × Value → Unit} (hl : cs.length = 2)
    (h : DataW.trod enc Tryd.prog W base sp held n 54 cs = some x) (hx : x.1 = .agg [.lit (.string s.data.toList), .lit (.int .i64 z)]) : cs = [.string s, .int .i64 z] := by
  obtain ⟨xs, m, _, ex, _, hxl, hf⟩ := DataW.trod_struct Tryd.underlying54 h
  match xs, hxl, cs, hl with
  | [y0, y1], _, [v0, v1], _ =>
    have g0 := hf 0 _ rfl
    have g1 := hf 1 _ rfl
    change DataW.trod enc Tryd.prog W base sp held m 9 [v0] = some y0 at g0
    change DataW.trod enc Tryd.prog W base sp held m 3 [v1] = some y1 at g1
    obtain ⟨k, e0, d0, _⟩ := DataW.trod_string Tryd.underlying9 g0
    obtain ⟨a, e1, d1, _⟩ := DataW.trod_int Tryd.underlying3 g1
    injection e0 with e0
    injection e1 with e1
    subst e0 e1
    rw [ex] at hx
    simp only [List.map_cons, List.map_nil, DataW.agg.injEq, List.cons.injEq, and_true] at hx
    obtain ⟨h0, h1⟩ := hx
    rw [d0] at h0
    rw [d1] at h1
    injection h0 with h0
    injection h0 with h0
    injection h1 with h1
    injection h1 with _ h1
    rw [h1, show k = s from WideShapes.bytes_inj (by exact h0)]
set_option maxRecDepth 100000 in
theorem shapes_of_head {W : World} {r : List (String × DataW Unit)} (h : laidMet Tryd.prog (("cattlecreep/batch.shapes", Rows.laid_cattlecreep_batch_shapes) :: r) W) : ShapeTab W := by
  obtain ⟨ps, ⟨g', t', csa, fuel, p, q, hg', ht', hvar, hd, _, _⟩, _⟩ := h
  obtain rfl := Option.some.inj (gShapes.symm.trans hg')
  obtain rfl := Option.some.inj (gShapesType.symm.trans ht')
  rw [shapes_list] at hd
  obtain ⟨cs, hcs⟩ : ∃ cs, cs = csa.toList := ⟨_, rfl⟩
  rw [← hcs] at hd
  obtain ⟨xs, m, _, ex, hcl, hxl, hf⟩ := DataW.trod_array Tryd.underlying55 hd
  rw [cellsShapes] at hcl
  rw [cellsShape] at hf
  have e3 := (DataW.agg.inj (Prod.mk.inj ex).1).symm
  have key : ∀ k, k < 11 → (cs.drop (k * 2)).take 2 = [.string (Bt.nameOf k), .int .i64 (Bt.fld (k : Int) : Int)] := by
    intro k hk
    have hE := hf k hk
    rw [List.getElem?_eq_getElem (by omega)] at hE
    refine shape_cells (by rw [List.length_take, List.length_drop]; omega) hE ?_
    have e4 := congrArg (·[k]?) e3
    simp only [List.getElem?_map] at e4
    rw [List.getElem?_eq_getElem (by omega), List.getElem?_eq_getElem (by rw [List.length_range]; omega)] at e4
    simpa using e4
  have hc : ∀ i, i < 22 → W.cell? ⟨0, i, none⟩ = cs[i]? := by
    intro i hi
    have := World.var?_cell gShapes hvar i
    rw [hcs]
    simpa using this
  have hat : ∀ k, k < 11 → W.cell? ⟨0, k * 2, none⟩ = some (.string (Bt.nameOf k)) ∧ W.cell? ⟨0, k * 2 + 1, none⟩ = some (.int .i64 (Bt.fld (k : Int) : Int)) := by
    intro k hk
    have hk2 := key k hk
    have a0 := congrArg (·[0]?) hk2
    have a1 := congrArg (·[1]?) hk2
    simp only [List.getElem?_take, List.getElem?_drop] at a0 a1
    rw [hc _ (by omega), hc _ (by omega)]
    exact ⟨by simpa using a0, by simpa using a1⟩
  exact ⟨lt_of_cell (hat 0 (by decide)).1, hat⟩

/-- A WORLD FOR THE WITNESS: the settled one, the listed variables holding what their initialisers lay. -/
noncomputable def laidWorld (os : Os) : World :=
  let w0 := World.holding Tryd.prog os ⟨#[.cells #[.string rangeS] 167, .cells #[.string syntaxS] 167], #[], []⟩
  let h1 := w0.heap.modify 5 (put (flat 4 Rows.laid_math_bits_deBruijn32tab))
  let h2 := h1.modify 6 (put (flat 4 Rows.laid_math_bits_deBruijn64tab))
  let h3 := h2.modify 2 (put (flat 4 Rows.laid_internal_strconv_uint64pow10))
  let h4 := h3.modify 8 (put (flat 4 Rows.laid_unicode_utf8_acceptRanges))
  let h5 := h4.modify 4 (put [.iface 165 (.pointer (some ⟨low, 0, none⟩))])
  let h6 := h5.modify 3 (put [.iface 165 (.pointer (some ⟨low + 1, 0, none⟩))])
  let h7 := h6.modify 7 (put (flat 4 Rows.laid_unicode_utf8_first))
  let h8 := h7.modify 0 (put (flat 4 Rows.laid_cattlecreep_batch_shapes))
  { w0 with heap := h8 }
abbrev laid8 : List (String × DataW Unit) := [("math/bits.deBruijn32tab", Rows.laid_math_bits_deBruijn32tab), ("math/bits.deBruijn64tab", Rows.laid_math_bits_deBruijn64tab), ("internal/strconv.uint64pow10", Rows.laid_internal_strconv_uint64pow10), ("unicode/utf8.acceptRanges", Rows.laid_unicode_utf8_acceptRanges), ("strconv.ErrRange", Rows.laid_strconv_ErrRange), ("strconv.ErrSyntax", Rows.laid_strconv_ErrSyntax), ("cattlecreep/batch.shapes", Rows.laid_cattlecreep_batch_shapes), ("unicode/utf8.first", Rows.laid_unicode_utf8_first)]
/-- WHAT THE ROWS' LISTS GIVE. -/
theorem tabs8 {W : World} (h : laidMetH Tryd.prog laid8 W) (hs : W.ShapedOpen Tryd.prog) : ATabs W := by
  rw [MakeChecks.laidMetH_plain _ _ _ (by kernel_rfl)] at h
  exact ⟨⟨pow_of_head h.tail.tail, ⟨err_of_head gSyntax gSyntaxType h.tail.tail.tail.tail.tail, err_of_head gRange gRangeType h.tail.tail.tail.tail⟩, max_of_shaped hs⟩, shapes_of_head h.tail.tail.tail.tail.tail.tail⟩
theorem laid8_met (os : Os) (args : Array Value) : laidMet Tryd.prog laid8 ((laidWorld os).forCall (fun _ _ => 0) ⟨#[], args, []⟩).memory :=
  laidMet_of_run3 300 (by kernel_rfl) (by kernel_rfl) (by kernel_rfl)
end Go.Proofs.YthlagpmacnijfaaDoor

namespace Go.Proofs.YthlagpmacnijfaaDoor
open Go.ChangeShapes Go.WideShapes Go.ChangeAt Go.RowKit

abbrev laid6 : List (String × DataW Unit) := [("math/bits.deBruijn32tab", Rows.laid_math_bits_deBruijn32tab), ("math/bits.deBruijn64tab", Rows.laid_math_bits_deBruijn64tab), ("internal/strconv.uint64pow10", Rows.laid_internal_strconv_uint64pow10), ("unicode/utf8.acceptRanges", Rows.laid_unicode_utf8_acceptRanges), ("cattlecreep/batch.shapes", Rows.laid_cattlecreep_batch_shapes), ("unicode/utf8.first", Rows.laid_unicode_utf8_first)]
theorem tabs6 {W : World} (h : laidMetH Tryd.prog laid6 W) (hs : W.ShapedOpen Tryd.prog) : BTabs W := by
  rw [MakeChecks.laidMetH_plain _ _ _ (by kernel_rfl)] at h
  exact ⟨⟨pow_of_head h.tail.tail, max_of_shaped hs⟩, shapes_of_head h.tail.tail.tail.tail⟩
theorem laid6_met (os : Os) (args : Array Value) : laidMet Tryd.prog laid6 ((laidWorld os).forCall (fun _ _ => 0) ⟨#[], args, []⟩).memory :=
  laidMet_of_run3 300 (by kernel_rfl) (by kernel_rfl) (by kernel_rfl)
end Go.Proofs.YthlagpmacnijfaaDoor
