/- The contract of line.parse. -/
import Derived.Test.YtldfamdjdkaloabDoorLineCode1
import Derived.Test.YtldfamdjdkaloabDoorLinePlain2
import Derived.Test.YtldfamdjdkaloabDoorLibCut
namespace Go.Proofs.YtldfamdjdkaloabDoor
open Go.RowKit

theorem load_line {w : World} {g : Nat} {xs : List Value} (R : Blk w g 23 xs) (h : xs.length = 2) : (loadVar 23 ⟨g, 0, none⟩).run Tryd.prog w = .ok (.agg xs.toArray) w :=
  run_loadVar_row (P := Tryd.prog) w g 23 23 xs.toArray (0, 0) _ R Tryd.underlying23 rfl (by rw [show (Tryd.prog.info? 23).map (·.size) = some 2 by kernel_rfl]; simp [h])
/-- A line, where its piece is right; else none. -/
def Ln.pLine (p : ByteArray) : Ln.L := if Ln.pErr p = 0 then Ln.line p else ⟨⟨#[]⟩, ⟨#[]⟩⟩
theorem cut_line (p : ByteArray) (h : 0 ≤ Ln.at_ p) : (⟨(Lib.cut p.data.toList [61]).1.toArray⟩ : ByteArray) = (Ln.line p).k ∧ (⟨(Lib.cut p.data.toList [61]).2.1.toArray⟩ : ByteArray) = (Ln.line p).v ∧ (Lib.cut p.data.toList [61]).2.2 = true := by
  rw [cut_some 61 _ h]
  refine ⟨?_, ?_, rfl⟩
  · apply WideShapes.bytes_inj
    show (p.data.toList.take (Ln.at_ p).toNat) = (p.extract 0 (Ln.at_ p).toNat).data.toList
    rw [Lib.extract_from_zero]
  · apply WideShapes.bytes_inj
    show (p.data.toList.drop ((Ln.at_ p).toNat + 1)) = (p.extract ((Ln.at_ p).toNat + 1) p.size).data.toList
    rw [Lib.extract_to_end]
theorem Blk.set2 {w : World} {g : Nat} {t : TypeId} {x0 x1 : Value} (h : Blk w g t [x0, x1]) (y0 y1 : Value) : Blk ((w.setCell ⟨g, 0, none⟩ y0).setCell ⟨g, 1, none⟩ y1) g t [y0, y1] := by
  have h2 : 2 ≤ maxLen := by decide
  exact (h.set h2 0 y0).set h2 1 y1

set_option maxRecDepth 20000 in
set_option maxHeartbeats 1600000 in
theorem line_parse (p : ByteArray) (w : World) (hs : p.size ≤ 1048576) (hM : MaxTab w) :
    Calls Tryd.prog 19 #[.string p] w fun e w' => e = .returned (.tuple #[lineV (Ln.pLine p), .int .i64 (Ln.pErr p : Int)]) ∧ Below w.heap.size w w' := by
  obtain ⟨w1, hw1⟩ : ∃ w1, w1 = w.alloc (.cells #[.string ⟨#[]⟩, .string ⟨#[]⟩] 23) := ⟨_, rfl⟩
  have hB : Below w.heap.size w w1 := by rw [hw1]; exact (Below.refl _ _).alloc (Nat.le_refl _) _
  have HB := Lib.hid hB
  have HG := Lib.hid (show Blk w1 w.heap.size 23 [.string ⟨#[]⟩, .string ⟨#[]⟩] by rw [hw1]; exact Blk.new _ _ _)
  have HI := lib_CutAt p 61 w1 hs (hM.below hB)
  clear hB hM
  by_cases h0 : Ln.at_ p < 0
  · have Hr : Hid (Ln.pErr p = 3 ∧ Ln.pLine p = ⟨⟨#[]⟩, ⟨#[]⟩⟩) := Lib.hid (by
      have e : Ln.pErr p = 3 := by unfold Ln.pErr; rw [if_pos h0]
      exact ⟨e, by unfold Ln.pLine; rw [if_neg (by rw [e]; decide)]⟩)
    rw [cut_none 61 _ h0] at HI
    clear h0
    generalize (⟨p.data.toList.toArray⟩ : ByteArray) = q at *
    go_enter Tryd.func19, Tryd.ntmps19
    go_wp2_with fail
    rw [← hw1]
    clear hw1
    refine HI.mono ?_
    rintro e w2 ⟨rfl, hb2⟩
    have hG2 := HG.out.kept hb2
    have HG2 := Lib.hid hG2
    have c0 := hG2.cell 0 rfl
    have c1 := hG2.cell 1 rfl
    have f0 := hG2.frozen (by decide) 0
    have f1 := hG2.frozen (by decide) 1
    have HB2 := Lib.hid (HB.out.trans (hb2.mono HB.out.size))
    have HE := Lib.hid (hG2.set2 (.string ⟨#[]⟩) (.string ⟨#[]⟩))
    clear hG2 hb2 HI
    go_wp2
    exact bodyPost_ret (ret_cell (load_line HE.out rfl) Tryd.results19 rfl rfl) rfl ⟨by rw [Hr.out.1, Hr.out.2]; rfl, (HB2.out.setCell (Nat.le_refl _) _).setCell (Nat.le_refl _) _⟩
  · have h0' : 0 ≤ Ln.at_ p := by omega
    obtain ⟨e1, e2, e3⟩ := cut_line p h0'
    rw [e1, e2, e3] at HI
    have Hp : Hid (Ln.pErr p = Ln.err (Ln.line p)) := Lib.hid (by unfold Ln.pErr; rw [if_neg h0])
    have Hl : Hid (Ln.pLine p = if Ln.err (Ln.line p) = 0 then Ln.line p else ⟨⟨#[]⟩, ⟨#[]⟩⟩) := Lib.hid (by unfold Ln.pLine; rw [Hp.out])
    clear e1 e2 e3 h0 h0'
    generalize Ln.line p = L at *
    have HC := Lib.hid (fun W => line_Check L W)
    obtain ⟨X, Y⟩ := L
    unfold lineV at HC
    have HD : Hid (∀ W, Below w1.heap.size w1 W → (Blk (W.alloc (.cells #[.string X, .string Y] 23)) W.heap.size 23 [.string X, .string Y] ∧ Below W.heap.size W (W.alloc (.cells #[.string X, .string Y] 23)))) := Lib.hid (fun W _ => ⟨Blk.new W 23 [.string X, .string Y], (Below.refl _ _).alloc (Nat.le_refl _) _⟩)
    by_cases he : Ln.err ⟨X, Y⟩ = 0
    · rw [he] at HC Hp
      rw [if_pos he] at Hl
      clear he
      go_enter Tryd.func19, Tryd.ntmps19
      go_wp2_with fail
      rw [← hw1]
      clear hw1
      refine HI.mono ?_
      rintro e w2 ⟨rfl, hb2⟩
      go_wp2_with fail
      refine (HC.out _).mono ?_
      rintro e w3 ⟨rfl, hb3⟩
      obtain ⟨hN, hA⟩ := HD.out w2 hb2
      have hG3 := ((HG.out.kept hb2).kept hA).kept hb3
      have hN3 := hN.kept hb3
      have c0 := hG3.cell 0 rfl
      have c1 := hG3.cell 1 rfl
      have f0 := hG3.frozen (by decide) 0
      have f1 := hG3.frozen (by decide) 1
      have n0 := hN3.cell 0 rfl
      have n1 := hN3.cell 1 rfl
      have HB3 := Lib.hid ((HB.out.trans (hb2.mono HB.out.size)).trans ((hA.trans (hb3.mono hA.size)).mono (Nat.le_trans HB.out.size hb2.size)))
      have HE := Lib.hid (hG3.set2 (.string X) (.string Y))
      have hlt : w.heap.size < w2.heap.size := Nat.lt_of_lt_of_le HG.out.lt hb2.size
      clear hG3 hN3 hN hA hb2 hb3 HI HC HD HG
      go_wp2
      exact bodyPost_ret (ret_cell (load_line HE.out rfl) Tryd.results19 rfl rfl) rfl ⟨by rw [Hp.out, Hl.out]; rfl, (HB3.out.setCell (Nat.le_refl _) _).setCell (Nat.le_refl _) _⟩
    · rw [if_neg he] at Hl
      have hn : ((Ln.err ⟨X, Y⟩ : Int) != 0) = true := by simpa using he
      clear he
      generalize Ln.err ⟨X, Y⟩ = r at *
      go_enter Tryd.func19, Tryd.ntmps19
      go_wp2_with fail
      rw [← hw1]
      clear hw1
      refine HI.mono ?_
      rintro e w2 ⟨rfl, hb2⟩
      go_wp2_with fail
      refine (HC.out _).mono ?_
      rintro e w3 ⟨rfl, hb3⟩
      obtain ⟨hN, hA⟩ := HD.out w2 hb2
      have hG3 := ((HG.out.kept hb2).kept hA).kept hb3
      have c0 := hG3.cell 0 rfl
      have c1 := hG3.cell 1 rfl
      have f0 := hG3.frozen (by decide) 0
      have f1 := hG3.frozen (by decide) 1
      have HB3 := Lib.hid ((HB.out.trans (hb2.mono HB.out.size)).trans ((hA.trans (hb3.mono hA.size)).mono (Nat.le_trans HB.out.size hb2.size)))
      have HE := Lib.hid (hG3.set2 (.string ⟨#[]⟩) (.string ⟨#[]⟩))
      clear hG3 hN hA hb2 hb3 HI HC HD HG
      go_wp2
      exact bodyPost_ret (ret_cell (load_line HE.out rfl) Tryd.results19 rfl rfl) rfl ⟨by rw [Hp.out, Hl.out]; rfl, (HB3.out.setCell (Nat.le_refl _) _).setCell (Nat.le_refl _) _⟩
end Go.Proofs.YtldfamdjdkaloabDoor
