/- The contract of line.Split. -/
import Derived.Test.YtldfamdjdkaloabDoorLineCode3
import Derived.Test.YtldfamdjdkaloabDoorLineRows
namespace Go.Proofs.YtldfamdjdkaloabDoor
open Go.RowKit

/-- What Split hands back. -/
def SplitPost (s : ByteArray) (w : World) (e : Ending) (w' : World) : Prop :=
  (∃ a c, e = .returned (.tuple #[.slice a (Ln.sOut s).length c, .int .i64 ((Ln.sBad s).1 : Int), .int .i64 ((Ln.sBad s).2 : Int)]) ∧ LinesAt w' w'.heap.size a (Ln.sOut s).length (Ln.sOut s)) ∧ Below w.heap.size w w'
theorem splitPost_err {s : ByteArray} {w w' : World} {i r : Nat} (hb : Ln.sBad s = (i, r)) (ho : Ln.sOut s = []) (hB : Below w.heap.size w w') : SplitPost s w (.returned (.tuple #[.slice none 0 0, .int .i64 (i : Int), .int .i64 (r : Int)])) w' := by
  refine ⟨⟨none, 0, ?_, ?_⟩, hB⟩
  · rw [hb, ho]; rfl
  · rw [ho]; exact LinesAt.nil _ _ _
theorem sOut_err {s : ByteArray} {i r : Nat} (hb : Ln.sBad s = (i, r)) (hr : r ≠ 0) : Ln.sOut s = [] := by
  unfold Ln.sOut
  rw [hb, if_neg (fun e => hr e.1)]

set_option maxRecDepth 20000 in
set_option maxHeartbeats 1600000 in
theorem line_Split (s : ByteArray) (w : World) (hM : MaxTab w) : Calls Tryd.prog 7 #[.string s] w (SplitPost s w) := by
  by_cases h3 : 3000 < s.size
  · have hb : Ln.sBad s = (0, 1) := by unfold Ln.sBad; rw [if_pos h3]
    have Hr := Lib.hid (splitPost_err (w := w) hb (sOut_err hb (by decide)) (Below.refl _ _))
    clear hb
    go_enter Tryd.func7, Tryd.ntmps7
    go_wp2
    go_ret3
    exact Hr.out
  have hse : s.toList.isEmpty = decide (s.size = 0) := by
    rw [ByteArray.toList_eq]
    have : s.data.toList.length = s.size := by simp
    cases h : s.data.toList with
    | nil =>
      have hz : s.size = 0 := by rw [h] at this; exact this.symm
      rw [hz]; rfl
    | cons a r =>
      have hz : s.size ≠ 0 := by rw [h, List.length_cons] at this; omega
      rw [decide_eq_false hz]; rfl
  by_cases h0 : s.size = 0
  · have hb : Ln.sBad s = (0, 0) := by unfold Ln.sBad; rw [if_neg h3, if_pos h0]
    have Hr := Lib.hid (splitPost_err (w := w) hb (by unfold Ln.sOut; rw [if_neg (fun e => e.2 h0)]) (Below.refl _ _))
    rw [decide_eq_true h0] at hse
    clear hb h0
    go_enter Tryd.func7, Tryd.ntmps7
    go_wp2
    go_ret3
    exact Hr.out
  rw [decide_eq_false h0] at hse
  have HS := lib_Split s 10 w (by omega) hM
  have HM := Lib.hid hM
  have hs3 : s.size ≤ 3000 := by omega
  have H0 := Lib.hid h0
  clear hM h0
  go_enter Tryd.func7, Tryd.ntmps7
  go_wp2_with fail
  refine HS.mono ?_
  rintro e w1 ⟨ps, rfl, Hp, hl, hpl, hcell, hz1, hb1⟩
  have Hps := Lib.hid (Ln.pieces_of Hp.out)
  have Hc := Lib.hid hcell
  have Hpl := Lib.hid hpl
  have HM1 := Lib.hid (HM.out.below hb1)
  have HB1 := Lib.hid hb1
  have Hz1 := Lib.hid hz1
  clear hcell hpl hb1 HS Hp hl hz1
  by_cases h60 : 60 < ps.length
  · have hb : Ln.sBad s = (0, 1) := by unfold Ln.sBad; rw [if_neg h3, if_neg H0.out, ← Hps.out, if_pos h60]
    have Hr := Lib.hid (splitPost_err (w := w) hb (sOut_err hb (by decide)) HB1.out)
    clear hb
    go_wp2
    go_ret3
    exact Hr.out
  have hmk := make_lines ps.length (by omega)
  have Hb : Hid (Ln.sBad s = Ln.wrong 0 ps) := Lib.hid (by unfold Ln.sBad; rw [if_neg h3, if_neg H0.out, ← Hps.out, if_neg h60])
  obtain ⟨w2, hw2⟩ : ∃ w2, w2 = w1.alloc (.cells (lcells [] ps.length).toArray 23) := ⟨_, rfl⟩
  have HB2 := Lib.hid (show Below w1.heap.size w1 w2 by rw [hw2]; exact (Below.refl _ _).alloc (Nat.le_refl _) _)
  have HT := Lib.hid (show Blk w2 w1.heap.size 23 (lcells [] ps.length) by rw [hw2]; exact Blk.new _ _ _)
  go_wp2
  rw [← hw2]
  clear hmk hw2
  go_loopw [26] (fun i wr => ∃ k : Nat, k ≤ ps.length ∧ i = .int .i64 k ∧ Hid (∀ p ∈ ps.take k, Ln.pErr p = 0) ∧ Hid (Blk wr w1.heap.size 23 (lcells ((ps.take k).map Ln.line) ps.length)) ∧ Hid (Below w1.heap.size w1 wr)) (fun i _ => ps.length - (intOf i).toNat)
  case atStart => exact ⟨0, Nat.zero_le _, rfl, Lib.hid (fun x hx => by simp at hx), Lib.hid (by simpa using HT.out), HB2⟩
  case round =>
    obtain ⟨k, hk, rfl, Ha, Hbk, HBr⟩ := hrel
    obtain ⟨wo, hwo⟩ : ∃ wo, wo = wr := ⟨_, rfl⟩
    subst hwo
    by_cases hlt : k < ps.length
    · have hcell : wo.cell? ⟨w.heap.size, k, none⟩ = some (.string ps[k]) := by
        rw [HBr.out.cell (show (⟨w.heap.size, k, none⟩ : Addr).block < w1.heap.size by show w.heap.size < _; have := Hz1.out; omega)]
        exact Hc.out k hlt
      have hps := Hpl.out _ (List.getElem_mem hlt)
      have HC := Lib.hid (line_parse ps[k] wo (by omega) (HM1.out.below HBr.out))
      have Ht : Hid (ps.take (k + 1) = ps.take k ++ [ps[k]]) := Lib.hid (List.take_succ_eq_append_getElem hlt)
      have Htl : Hid ((ps.take k).length = k) := Lib.hid (by rw [List.length_take]; omega)
      have Hf := Lib.hid (fun hn => Ln.wrong_at ps 0 k hlt Ha.out hn)
      generalize ps[k] = p at *
      have hsz := HBr.out.size
      by_cases he : Ln.pErr p = 0
      · have Hn := Lib.hid (show ∀ y ∈ ps.take (k + 1), Ln.pErr y = 0 by
          intro y hy
          rw [Ht.out] at hy
          rcases List.mem_append.1 hy with hy | hy
          · exact Ha.out y hy
          · rw [List.mem_singleton.1 hy]; exact he)
        have hpl : Ln.pLine p = Ln.line p := by unfold Ln.pLine; rw [if_pos he]
        rw [he, hpl] at HC
        have Hm : Hid ((ps.take (k + 1)).map Ln.line = (ps.take k).map Ln.line ++ [Ln.line p]) := Lib.hid (by rw [Ht.out, List.map_append, List.map_singleton])
        clear he Hf hpl Ha
        generalize Ln.line p = L at *
        obtain ⟨X, Y⟩ := L
        unfold lineV at HC
        go_wp2_with fail
        refine HC.out.mono ?_
        rintro e w3 ⟨rfl, hb3⟩
        have hg3 := Hbk.out.kept hb3
        obtain ⟨hset, q0, q1, f0, f1⟩ := hg3.set_at (by omega) (by rw [List.length_map]; exact Htl.out) hlt ⟨X, Y⟩
        rw [← Hm.out] at hset
        have hgl3 := hg3.lt
        have HB3 := Lib.hid (HBr.out.trans (hb3.mono hsz))
        have Hset := Lib.hid hset
        clear hset hg3 hb3 HC hcell
        go_wp2
        go_roundw
        case rel =>
          have hB4 := (HB3.out.setCell (p := ⟨w1.heap.size, k * 2, none⟩) (Nat.le_refl _) (.string X)).setCell (p := ⟨w1.heap.size, k * 2 + 1, none⟩) (Nat.le_refl _) (.string Y)
          exact ⟨k + 1, by omega, by go_num, Hn, Lib.hid (Hset.out.kept ((Below.refl _ _).alloc (Nat.le_refl _) _)), Lib.hid (hB4.alloc hB4.size _)⟩
        case measure => simp [intOf]; omega
      · have hb : Ln.sBad s = (k + 1, Ln.pErr p) := by rw [Hb.out, Hf.out he, Nat.zero_add]
        have hn : ((Ln.pErr p : Int) != 0) = true := by simpa using he
        have ho := sOut_err hb he
        clear he Hf
        generalize Ln.pErr p = r at *
        have Hr := Lib.hid (fun w' hB' => splitPost_err (w := w) (w' := w') hb ho hB')
        clear hb ho
        generalize Ln.pLine p = L at *
        obtain ⟨X, Y⟩ := L
        unfold lineV at HC
        go_wp2_with fail
        refine HC.out.mono ?_
        rintro e w3 ⟨rfl, hb3⟩
        have HB3 := Lib.hid (HB1.out.trans ((HBr.out.trans (hb3.mono hsz)).mono HB1.out.size))
        have HB4 := Lib.hid (HB3.out.alloc HB3.out.size (.cells #[.string X, .string Y] 23))
        clear hb3 HC hcell
        go_wp2
        go_ret3
        have h := Hr.out _ HB4.out
        rwa [Int.natCast_add] at h
    · obtain rfl : k = ps.length := by omega
      have htk : ps.take ps.length = ps := List.take_of_length_le (Nat.le_refl _)
      rw [htk] at Ha Hbk
      have Hw := Lib.hid (Ln.wrong_good ps 0 Ha.out)
      have ho : Hid (Ln.sOut s = ps.map Ln.line) := Lib.hid (by unfold Ln.sOut; rw [Hb.out, Hw.out, if_pos ⟨rfl, H0.out⟩, ← Hps.out])
      have hol : Hid ((ps.map Ln.line).length = ps.length) := Lib.hid (by rw [List.length_map])
      have HL := Lib.hid (lines_blk Hbk.out hol.out)
      have HBf := Lib.hid (HB1.out.trans (HBr.out.mono HB1.out.size))
      clear htk
      go_wp2
      go_ret3
      refine ⟨⟨some ⟨w1.heap.size, 0, none⟩, ps.length, ?_, ?_⟩, HBf.out⟩
      rotate_left
      · rw [ho.out, hol.out]; exact HL.out
      · rw [Hb.out, Hw.out, ho.out, hol.out]; rfl
end Go.Proofs.YtldfamdjdkaloabDoor
