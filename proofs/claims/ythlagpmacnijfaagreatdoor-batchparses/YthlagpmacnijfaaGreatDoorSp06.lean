/- The contract of line.Split. -/
import Derived.Test.YthlagpmacnijfaaGreatDoorLibText
import Derived.Test.YthlagpmacnijfaaGreatDoorSp05
import Derived.Test.YthlagpmacnijfaaGreatDoorSp01
import Derived.Test.YthlagpmacnijfaaGreatDoorLinePlain2
import Derived.Test.YthlagpmacnijfaaGreatDoorStructMem
import Derived.Laws.MakeOwn
import Derived.Laws.OwnMore
namespace Go.Proofs.YthlagpmacnijfaaGreatDoor
open Go.RowKit

theorem lib_CutAt (s : ByteArray) (c : UInt8) (w : World) (hs : s.size ≤ 1048576) (hM : MaxTab w) :
    Calls Tryz.prog 43 #[.string s, .string ⟨#[c]⟩] w fun e w' => e = .returned (.tuple #[.string ⟨(Lib.cut s.data.toList [c]).1.toArray⟩, .string ⟨(Lib.cut s.data.toList [c]).2.1.toArray⟩, .bool (Lib.cut s.data.toList [c]).2.2]) ∧ Below w.heap.size w w' := by
  obtain ⟨m, hm⟩ := hM
  refine (Tryz.strings_Cut s ⟨#[c]⟩ m w (by omega) hm).mono ?_
  rintro e w' ⟨rfl, n, rfl⟩
  exact ⟨rfl, below_drewN (Below.refl _ _) n⟩
end Go.Proofs.YthlagpmacnijfaaGreatDoor

namespace Go.Proofs.YthlagpmacnijfaaGreatDoor
open Go.RowKit

/-- A line, where its piece is right; else none. -/
def Ln.pLine (p : ByteArray) : Ln.L := if Ln.pErr p = 0 then Ln.line p else ⟨⟨#[]⟩, ⟨#[]⟩⟩
theorem cut_line (p : ByteArray) (h : 0 ≤ Ln.at_ p) : (⟨(Lib.cut p.data.toList [61]).1.toArray⟩ : ByteArray) = (Ln.line p).k ∧ (⟨(Lib.cut p.data.toList [61]).2.1.toArray⟩ : ByteArray) = (Ln.line p).v ∧ (Lib.cut p.data.toList [61]).2.2 = true := by
  rw [cut_some 61 _ h]
  refine ⟨?_, ?_, rfl⟩
  · apply WideShapes.bytes_inj
    show (p.data.toList.take (Ln.at_ p).toNat) = (p.extract 0 (Ln.at_ p).toNat).data.toList
    rw [Lib.extract_from_zero]
  · apply WideShapes.bytes_inj
    show (p.data.toList.drop ((Ln.at_ p).toNat + 1)) = (p.extract ((Ln.at_ p).toNat + 1) p.size).data.toList
    rw [Lib.extract_to_end]
set_option maxRecDepth 20000 in
set_option maxHeartbeats 1600000 in
theorem line_parse (p : ByteArray) (w : World) (hs : p.size ≤ 1048576) (hM : MaxTab w) :
    Calls Tryz.prog 38 #[.string p] w fun e w' => e = .returned (.tuple #[lineV (Ln.pLine p), .int .i64 (Ln.pErr p : Int)]) ∧ Below w.heap.size w w' := by
  obtain ⟨w1, hw1⟩ : ∃ w1, w1 = w.alloc (.cells #[.string ⟨#[]⟩, .string ⟨#[]⟩] 23) := ⟨_, rfl⟩
  have hB : Below w.heap.size w w1 := by rw [hw1]; exact (Below.refl _ _).alloc (Nat.le_refl _) _
  have HB := Lib.hid hB
  have HG := Lib.hid (show Blk w1 w.heap.size 23 [.string ⟨#[]⟩, .string ⟨#[]⟩] by rw [hw1]; exact Blk.new _ _ _)
  have HI := lib_CutAt p 61 w1 hs (hM.below hB)
  clear hB hM
  by_cases h0 : Ln.at_ p < 0
  · have Hr : Hid (Ln.pErr p = 3 ∧ Ln.pLine p = ⟨⟨#[]⟩, ⟨#[]⟩⟩) := Lib.hid (by
      have e : Ln.pErr p = 3 := by unfold Ln.pErr; rw [if_pos h0]
      exact ⟨e, by unfold Ln.pLine; rw [if_neg (by rw [e]; decide)]⟩)
    rw [cut_none 61 _ h0] at HI
    clear h0
    generalize (⟨p.data.toList.toArray⟩ : ByteArray) = q at *
    go_enter Tryz.func38, Tryz.ntmps38
    go_wp2_with fail
    rw [← hw1]
    clear hw1
    refine HI.mono ?_
    rintro e w2 ⟨rfl, hb2⟩
    have hG2 := HG.out.kept hb2
    have HG2 := Lib.hid hG2
    have c0 := hG2.cell 0 rfl
    have c1 := hG2.cell 1 rfl
    have f0 := hG2.frozen (by decide) 0
    have f1 := hG2.frozen (by decide) 1
    have HB2 := Lib.hid (HB.out.trans (hb2.mono HB.out.size))
    have HE := Lib.hid (hG2.set2 (.string ⟨#[]⟩) (.string ⟨#[]⟩))
    clear hG2 hb2 HI
    go_wp2
    exact bodyPost_ret (ret_cell (load_line HE.out rfl) Tryz.results38 rfl rfl) rfl ⟨by rw [Hr.out.1, Hr.out.2]; rfl, (HB2.out.setCell (Nat.le_refl _) _).setCell (Nat.le_refl _) _⟩
  · have h0' : 0 ≤ Ln.at_ p := by omega
    obtain ⟨e1, e2, e3⟩ := cut_line p h0'
    rw [e1, e2, e3] at HI
    have Hp : Hid (Ln.pErr p = Ln.err (Ln.line p)) := Lib.hid (by unfold Ln.pErr; rw [if_neg h0])
    have Hl : Hid (Ln.pLine p = if Ln.err (Ln.line p) = 0 then Ln.line p else ⟨⟨#[]⟩, ⟨#[]⟩⟩) := Lib.hid (by unfold Ln.pLine; rw [Hp.out])
    clear e1 e2 e3 h0 h0'
    generalize Ln.line p = L at *
    have HC := Lib.hid (fun W => line_Check L W)
    obtain ⟨X, Y⟩ := L
    unfold lineV at HC
    have HD : Hid (∀ W, Below w1.heap.size w1 W → (Blk (W.alloc (.cells #[.string X, .string Y] 23)) W.heap.size 23 [.string X, .string Y] ∧ Below W.heap.size W (W.alloc (.cells #[.string X, .string Y] 23)))) := Lib.hid (fun W _ => ⟨Blk.new W 23 [.string X, .string Y], (Below.refl _ _).alloc (Nat.le_refl _) _⟩)
    by_cases he : Ln.err ⟨X, Y⟩ = 0
    · rw [he] at HC Hp
      rw [if_pos he] at Hl
      clear he
      go_enter Tryz.func38, Tryz.ntmps38
      go_wp2_with fail
      rw [← hw1]
      clear hw1
      refine HI.mono ?_
      rintro e w2 ⟨rfl, hb2⟩
      go_wp2_with fail
      refine (HC.out _).mono ?_
      rintro e w3 ⟨rfl, hb3⟩
      obtain ⟨hN, hA⟩ := HD.out w2 hb2
      have hG3 := ((HG.out.kept hb2).kept hA).kept hb3
      have hN3 := hN.kept hb3
      have c0 := hG3.cell 0 rfl
      have c1 := hG3.cell 1 rfl
      have f0 := hG3.frozen (by decide) 0
      have f1 := hG3.frozen (by decide) 1
      have n0 := hN3.cell 0 rfl
      have n1 := hN3.cell 1 rfl
      have HB3 := Lib.hid ((HB.out.trans (hb2.mono HB.out.size)).trans ((hA.trans (hb3.mono hA.size)).mono (Nat.le_trans HB.out.size hb2.size)))
      have HE := Lib.hid (hG3.set2 (.string X) (.string Y))
      have hlt : w.heap.size < w2.heap.size := Nat.lt_of_lt_of_le HG.out.lt hb2.size
      clear hG3 hN3 hN hA hb2 hb3 HI HC HD HG
      go_wp2
      exact bodyPost_ret (ret_cell (load_line HE.out rfl) Tryz.results38 rfl rfl) rfl ⟨by rw [Hp.out, Hl.out]; rfl, (HB3.out.setCell (Nat.le_refl _) _).setCell (Nat.le_refl _) _⟩
    · rw [if_neg he] at Hl
      have hn : ((Ln.err ⟨X, Y⟩ : Int) != 0) = true := by simpa using he
      clear he
      generalize Ln.err ⟨X, Y⟩ = r at *
      go_enter Tryz.func38, Tryz.ntmps38
      go_wp2_with fail
      rw [← hw1]
      clear hw1
      refine HI.mono ?_
      rintro e w2 ⟨rfl, hb2⟩
      go_wp2_with fail
      refine (HC.out _).mono ?_
      rintro e w3 ⟨rfl, hb3⟩
      obtain ⟨hN, hA⟩ := HD.out w2 hb2
      have hG3 := ((HG.out.kept hb2).kept hA).kept hb3
      have c0 := hG3.cell 0 rfl
      have c1 := hG3.cell 1 rfl
      have f0 := hG3.frozen (by decide) 0
      have f1 := hG3.frozen (by decide) 1
      have HB3 := Lib.hid ((HB.out.trans (hb2.mono HB.out.size)).trans ((hA.trans (hb3.mono hA.size)).mono (Nat.le_trans HB.out.size hb2.size)))
      have HE := Lib.hid (hG3.set2 (.string ⟨#[]⟩) (.string ⟨#[]⟩))
      clear hG3 hN hA hb2 hb3 HI HC HD HG
      go_wp2
      exact bodyPost_ret (ret_cell (load_line HE.out rfl) Tryz.results38 rfl rfl) rfl ⟨by rw [Hp.out, Hl.out]; rfl, (HB3.out.setCell (Nat.le_refl _) _).setCell (Nat.le_refl _) _⟩
end Go.Proofs.YthlagpmacnijfaaGreatDoor

namespace Go.Proofs.YthlagpmacnijfaaGreatDoor
open Go.RowKit

/-- The cells of n lines, the first ones written. -/
def lcells (done : List Ln.L) (n : Nat) : List Value := Ln.linesC done ++ List.replicate ((n - done.length) * 2) (.string ⟨#[]⟩)
theorem lcells_length (done : List Ln.L) (n : Nat) (h : done.length ≤ n) : (lcells done n).length = n * 2 := by unfold lcells; rw [List.length_append, Ln.linesC_length, List.length_replicate]; omega
theorem lcells_old (done : List Ln.L) (n : Nat) (h : done.length < n) : (lcells done n)[done.length * 2]? = some (.string ⟨#[]⟩) ∧ (lcells done n)[done.length * 2 + 1]? = some (.string ⟨#[]⟩) := by
  unfold lcells
  rw [List.getElem?_append_right (by rw [Ln.linesC_length]; exact Nat.le_refl _), List.getElem?_append_right (by rw [Ln.linesC_length]; omega), Ln.linesC_length, List.getElem?_replicate, List.getElem?_replicate, if_pos (by omega), if_pos (by omega)]
  exact ⟨rfl, rfl⟩
theorem lcells_set (done : List Ln.L) (n : Nat) (h : done.length < n) (x : Ln.L) : ((lcells done n).set (done.length * 2) (.string x.k)).set (done.length * 2 + 1) (.string x.v) = lcells (done ++ [x]) n := by
  unfold lcells
  rw [List.set_append_right (h := by rw [Ln.linesC_length]; exact Nat.le_refl _), List.set_append_right (h := by rw [Ln.linesC_length]; omega), Ln.linesC_length, Nat.sub_self, show done.length * 2 + 1 - done.length * 2 = 1 by omega, Ln.linesC_append, List.append_assoc]
  congr 1
  obtain ⟨m, hm⟩ : ∃ m, n - done.length = m + 1 := ⟨n - done.length - 1, by omega⟩
  rw [hm, show (m + 1) * 2 = m * 2 + 1 + 1 by omega, List.replicate_succ, List.replicate_succ, List.set_cons_zero, List.set_cons_succ, List.set_cons_zero, List.length_append, List.length_singleton]
  rw [show n - (done.length + 1) = m by omega]
  rfl
theorem lcells_full (done : List Ln.L) (n : Nat) (h : done.length = n) : lcells done n = Ln.linesC done := by
  unfold lcells
  rw [show n - done.length = 0 by omega]
  simp
theorem made_two (a : Value) (n : Nat) : madeCells #[a, a] n = (List.replicate n a).toArray := by
  apply Array.toList_inj.1
  apply List.ext_getElem?
  intro j
  unfold madeCells
  by_cases hj : j < n
  · have hm : j % 2 = 0 ∨ j % 2 = 1 := by omega
    simp only [Array.toList_map, List.getElem?_map, Array.toList_range, List.getElem?_range hj, Option.map_some, List.getElem?_replicate, hj, if_true]
    have h2 : (#[a, a] : Array Value).size = 2 := rfl
    rw [h2]
    rcases hm with h | h <;> rw [h] <;> rfl
  · simp [hj]
theorem make_lines (n : Nat) (hn : n ≤ 2000000) : ∀ W, (Instr.makeSlice 52 (.int .i64 (n : Int)) (.int .i64 (n : Int))).run Tryz.prog W = .ok (.slice (some ⟨W.heap.size, 0, none⟩) n n) (W.alloc (.cells (lcells [] n).toArray 23)) := fun W => by
  obtain ⟨i, hi, hz0, hz1, hz2⟩ := info_line
  have hr := run_make (P := Tryz.prog) W 52 23 i _ Tryz.underlying52 hi hz0 .i64 .i64 n n (by omega) (by omega) (by rw [hz2]; omega) (by omega)
  simp only [Int.toNat_natCast, hz1] at hr
  have e : madeCells (Value.agg #[Value.string ByteArray.empty, Value.string ByteArray.empty]).cells (n * 2) = (lcells [] n).toArray := by
    show madeCells #[Value.string ByteArray.empty, Value.string ByteArray.empty] (n * 2) = _
    rw [made_two]
    rfl
  rw [e] at hr
  exact hr
theorem Blk.set_at {w : World} {g : Nat} {t : TypeId} {done : List Ln.L} {n k : Nat} (h : Blk w g t (lcells done n)) (hn : n ≤ 2000000) (hk : done.length = k) (hlt : k < n) (x : Ln.L) :
    Blk ((w.setCell ⟨g, k * 2, none⟩ (.string x.k)).setCell ⟨g, k * 2 + 1, none⟩ (.string x.v)) g t (lcells (done ++ [x]) n) ∧ w.cell? ⟨g, k * 2, none⟩ = some (.string ⟨#[]⟩) ∧ w.cell? ⟨g, k * 2 + 1, none⟩ = some (.string ⟨#[]⟩) ∧ w.frozen? ⟨g, k * 2, none⟩ = false ∧ w.frozen? ⟨g, k * 2 + 1, none⟩ = false := by
  subst hk
  have hm : (lcells done n).length ≤ maxLen := by rw [lcells_length _ _ (by omega)]; unfold maxLen; omega
  have h1 := h.set hm (done.length * 2) (.string x.k)
  have h2 := h1.set (by rw [List.length_set]; exact hm) (done.length * 2 + 1) (.string x.v)
  rw [lcells_set done n hlt x] at h2
  exact ⟨h2, h.cell _ (lcells_old done n hlt).1, h.cell _ (lcells_old done n hlt).2, h.frozen hm _, h.frozen hm _⟩
theorem lines_blk {w : World} {g : Nat} {l : List Ln.L} {t : TypeId} {n : Nat} (h : Blk w g t (lcells l n)) (hl : l.length = n) : LinesAt w w.heap.size (some ⟨g, 0, none⟩) n l := by
  rw [lcells_full l n hl] at h
  have := lines_of_row h
  rwa [hl] at this
end Go.Proofs.YthlagpmacnijfaaGreatDoor

namespace Go.Proofs.YthlagpmacnijfaaGreatDoor
open Go.RowKit

/-- What Split hands back. -/
def SplitPost (s : ByteArray) (w : World) (e : Ending) (w' : World) : Prop :=
  (∃ a c, e = .returned (.tuple #[.slice a (Ln.sOut s).length c, .int .i64 ((Ln.sBad s).1 : Int), .int .i64 ((Ln.sBad s).2 : Int)]) ∧ LinesAt w' w'.heap.size a (Ln.sOut s).length (Ln.sOut s)) ∧ Below w.heap.size w w'
theorem splitPost_err {s : ByteArray} {w w' : World} {i r : Nat} (hb : Ln.sBad s = (i, r)) (ho : Ln.sOut s = []) (hB : Below w.heap.size w w') : SplitPost s w (.returned (.tuple #[.slice none 0 0, .int .i64 (i : Int), .int .i64 (r : Int)])) w' := by
  refine ⟨⟨none, 0, ?_, ?_⟩, hB⟩
  · rw [hb, ho]; rfl
  · rw [ho]; exact LinesAt.nil _ _ _
theorem sOut_err {s : ByteArray} {i r : Nat} (hb : Ln.sBad s = (i, r)) (hr : r ≠ 0) : Ln.sOut s = [] := by
  unfold Ln.sOut
  rw [hb, if_neg (fun e => hr e.1)]

set_option maxRecDepth 20000 in
set_option maxHeartbeats 1600000 in
theorem line_Split (s : ByteArray) (w : World) (hM : MaxTab w) : Calls Tryz.prog 20 #[.string s] w (SplitPost s w) := by
  by_cases h3 : 3000 < s.size
  · have hb : Ln.sBad s = (0, 1) := by unfold Ln.sBad; rw [if_pos h3]
    have Hr := Lib.hid (splitPost_err (w := w) hb (sOut_err hb (by decide)) (Below.refl _ _))
    clear hb
    go_enter Tryz.func20, Tryz.ntmps20
    go_wp2
    go_ret3
    exact Hr.out
  have hse : s.toList.isEmpty = decide (s.size = 0) := by
    rw [ByteArray.toList_eq]
    have : s.data.toList.length = s.size := by simp
    cases h : s.data.toList with
    | nil =>
      have hz : s.size = 0 := by rw [h] at this; exact this.symm
      rw [hz]; rfl
    | cons a r =>
      have hz : s.size ≠ 0 := by rw [h, List.length_cons] at this; omega
      rw [decide_eq_false hz]; rfl
  by_cases h0 : s.size = 0
  · have hb : Ln.sBad s = (0, 0) := by unfold Ln.sBad; rw [if_neg h3, if_pos h0]
    have Hr := Lib.hid (splitPost_err (w := w) hb (by unfold Ln.sOut; rw [if_neg (fun e => e.2 h0)]) (Below.refl _ _))
    rw [decide_eq_true h0] at hse
    clear hb h0
    go_enter Tryz.func20, Tryz.ntmps20
    go_wp2
    go_ret3
    exact Hr.out
  rw [decide_eq_false h0] at hse
  have HS := lib_Split s 10 w (by omega) hM
  have HM := Lib.hid hM
  have hs3 : s.size ≤ 3000 := by omega
  have H0 := Lib.hid h0
  clear hM h0
  go_enter Tryz.func20, Tryz.ntmps20
  go_wp2_with fail
  refine HS.mono ?_
  rintro e w1 ⟨ps, rfl, Hp, hl, hpl, hcell, hz1, hb1⟩
  have Hps := Lib.hid (Ln.pieces_of Hp.out)
  have Hc := Lib.hid hcell
  have Hpl := Lib.hid hpl
  have HM1 := Lib.hid (HM.out.below hb1)
  have HB1 := Lib.hid hb1
  have Hz1 := Lib.hid hz1
  clear hcell hpl hb1 HS Hp hl hz1
  by_cases h60 : 60 < ps.length
  · have hb : Ln.sBad s = (0, 1) := by unfold Ln.sBad; rw [if_neg h3, if_neg H0.out, ← Hps.out, if_pos h60]
    have Hr := Lib.hid (splitPost_err (w := w) hb (sOut_err hb (by decide)) HB1.out)
    clear hb
    go_wp2
    go_ret3
    exact Hr.out
  have hmk := make_lines ps.length (by omega)
  have Hb : Hid (Ln.sBad s = Ln.wrong 0 ps) := Lib.hid (by unfold Ln.sBad; rw [if_neg h3, if_neg H0.out, ← Hps.out, if_neg h60])
  obtain ⟨w2, hw2⟩ : ∃ w2, w2 = w1.alloc (.cells (lcells [] ps.length).toArray 23) := ⟨_, rfl⟩
  have HB2 := Lib.hid (show Below w1.heap.size w1 w2 by rw [hw2]; exact (Below.refl _ _).alloc (Nat.le_refl _) _)
  have HT := Lib.hid (show Blk w2 w1.heap.size 23 (lcells [] ps.length) by rw [hw2]; exact Blk.new _ _ _)
  go_wp2
  rw [← hw2]
  clear hmk hw2
  go_loopw [26] (fun i wr => ∃ k : Nat, k ≤ ps.length ∧ i = .int .i64 k ∧ Hid (∀ p ∈ ps.take k, Ln.pErr p = 0) ∧ Hid (Blk wr w1.heap.size 23 (lcells ((ps.take k).map Ln.line) ps.length)) ∧ Hid (Below w1.heap.size w1 wr)) (fun i _ => ps.length - (intOf i).toNat)
  case atStart => exact ⟨0, Nat.zero_le _, rfl, Lib.hid (fun x hx => by simp at hx), Lib.hid (by simpa using HT.out), HB2⟩
  case round =>
    obtain ⟨k, hk, rfl, Ha, Hbk, HBr⟩ := hrel
    obtain ⟨wo, hwo⟩ : ∃ wo, wo = wr := ⟨_, rfl⟩
    subst hwo
    by_cases hlt : k < ps.length
    · have hcell : wo.cell? ⟨w.heap.size, k, none⟩ = some (.string ps[k]) := by
        rw [HBr.out.cell (show (⟨w.heap.size, k, none⟩ : Addr).block < w1.heap.size by show w.heap.size < _; have := Hz1.out; omega)]
        exact Hc.out k hlt
      have hps := Hpl.out _ (List.getElem_mem hlt)
      have HC := Lib.hid (line_parse ps[k] wo (by omega) (HM1.out.below HBr.out))
      have Ht : Hid (ps.take (k + 1) = ps.take k ++ [ps[k]]) := Lib.hid (List.take_succ_eq_append_getElem hlt)
      have Htl : Hid ((ps.take k).length = k) := Lib.hid (by rw [List.length_take]; omega)
      have Hf := Lib.hid (fun hn => Ln.wrong_at ps 0 k hlt Ha.out hn)
      generalize ps[k] = p at *
      have hsz := HBr.out.size
      by_cases he : Ln.pErr p = 0
      · have Hn := Lib.hid (show ∀ y ∈ ps.take (k + 1), Ln.pErr y = 0 by
          intro y hy
          rw [Ht.out] at hy
          rcases List.mem_append.1 hy with hy | hy
          · exact Ha.out y hy
          · rw [List.mem_singleton.1 hy]; exact he)
        have hpl : Ln.pLine p = Ln.line p := by unfold Ln.pLine; rw [if_pos he]
        rw [he, hpl] at HC
        have Hm : Hid ((ps.take (k + 1)).map Ln.line = (ps.take k).map Ln.line ++ [Ln.line p]) := Lib.hid (by rw [Ht.out, List.map_append, List.map_singleton])
        clear he Hf hpl Ha
        generalize Ln.line p = L at *
        obtain ⟨X, Y⟩ := L
        unfold lineV at HC
        go_wp2_with fail
        refine HC.out.mono ?_
        rintro e w3 ⟨rfl, hb3⟩
        have hg3 := Hbk.out.kept hb3
        obtain ⟨hset, q0, q1, f0, f1⟩ := hg3.set_at (by omega) (by rw [List.length_map]; exact Htl.out) hlt ⟨X, Y⟩
        rw [← Hm.out] at hset
        have hgl3 := hg3.lt
        have HB3 := Lib.hid (HBr.out.trans (hb3.mono hsz))
        have Hset := Lib.hid hset
        clear hset hg3 hb3 HC hcell
        go_wp2
        go_roundw
        case rel =>
          have hB4 := (HB3.out.setCell (p := ⟨w1.heap.size, k * 2, none⟩) (Nat.le_refl _) (.string X)).setCell (p := ⟨w1.heap.size, k * 2 + 1, none⟩) (Nat.le_refl _) (.string Y)
          exact ⟨k + 1, by omega, by go_num, Hn, Lib.hid (Hset.out.kept ((Below.refl _ _).alloc (Nat.le_refl _) _)), Lib.hid (hB4.alloc hB4.size _)⟩
        case measure => simp [intOf]; omega
      · have hb : Ln.sBad s = (k + 1, Ln.pErr p) := by rw [Hb.out, Hf.out he, Nat.zero_add]
        have hn : ((Ln.pErr p : Int) != 0) = true := by simpa using he
        have ho := sOut_err hb he
        clear he Hf
        generalize Ln.pErr p = r at *
        have Hr := Lib.hid (fun w' hB' => splitPost_err (w := w) (w' := w') hb ho hB')
        clear hb ho
        generalize Ln.pLine p = L at *
        obtain ⟨X, Y⟩ := L
        unfold lineV at HC
        go_wp2_with fail
        refine HC.out.mono ?_
        rintro e w3 ⟨rfl, hb3⟩
        have HB3 := Lib.hid (HB1.out.trans ((HBr.out.trans (hb3.mono hsz)).mono HB1.out.size))
        have HB4 := Lib.hid (HB3.out.alloc HB3.out.size (.cells #[.string X, .string Y] 23))
        clear hb3 HC hcell
        go_wp2
        go_ret3
        have h := Hr.out _ HB4.out
        rwa [Int.natCast_add] at h
    · obtain rfl : k = ps.length := by omega
      have htk : ps.take ps.length = ps := List.take_of_length_le (Nat.le_refl _)
      rw [htk] at Ha Hbk
      have Hw := Lib.hid (Ln.wrong_good ps 0 Ha.out)
      have ho : Hid (Ln.sOut s = ps.map Ln.line) := Lib.hid (by unfold Ln.sOut; rw [Hb.out, Hw.out, if_pos ⟨rfl, H0.out⟩, ← Hps.out])
      have hol : Hid ((ps.map Ln.line).length = ps.length) := Lib.hid (by rw [List.length_map])
      have HL := Lib.hid (lines_blk Hbk.out hol.out)
      have HBf := Lib.hid (HB1.out.trans (HBr.out.mono HB1.out.size))
      clear htk
      go_wp2
      go_ret3
      refine ⟨⟨some ⟨w1.heap.size, 0, none⟩, ps.length, ?_, ?_⟩, HBf.out⟩
      rotate_left
      · rw [ho.out, hol.out]; exact HL.out
      · rw [Hb.out, Hw.out, ho.out, hol.out]; rfl
end Go.Proofs.YthlagpmacnijfaaGreatDoor
