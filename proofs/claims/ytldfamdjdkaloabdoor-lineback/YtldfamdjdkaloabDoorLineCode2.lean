/- The contract of line.Join. -/
import Derived.Test.YtldfamdjdkaloabDoorLineCode1
import Derived.Test.YtldfamdjdkaloabDoorLineTexts
import Derived.Test.YtldfamdjdkaloabDoorShelfJoin
namespace Go.Proofs.YtldfamdjdkaloabDoor
open Go.RowKit

theorem step_alloc_line (W : World) (xk xv : ByteArray) : Below W.heap.size W (W.alloc (.cells #[.string xk, .string xv] 23)) := (Below.refl _ _).alloc (Nat.le_refl _) _
theorem line_text (x : Ln.L) : x.k ++ (⟨#[61]⟩ : ByteArray) ++ x.v = Ln.ofT (Ln.lineT x) := by
  apply WideShapes.bytes_inj
  simp only [ByteArray.data_append, Array.toList_append, Ln.ofT_data]
  unfold Ln.lineT
  simp
theorem lib_JoinLines (l : List Ln.L) (w : World) (g : Nat) (hg : Blk w g 9 ((l.map fun x => Ln.ofT (Ln.lineT x)).map Value.string)) (hl : ∀ x ∈ l, Ln.err x = 0) (h60 : l.length ≤ 60) :
    Calls Tryd.prog 23 #[.slice (some ⟨g, 0, none⟩) l.length l.length, .string ⟨#[10]⟩] w fun e w' => e = .returned (.string (Ln.ofT (Ln.jText l))) ∧ Below w.heap.size w w' := by
  have hm : (l.map fun x => Ln.ofT (Ln.lineT x)).map (·.data.toList) = l.map Ln.lineT := by rw [List.map_map]; rfl
  have hjl : Lib.join ((l.map fun x => Ln.ofT (Ln.lineT x)).map (·.data.toList)) (⟨#[10]⟩ : ByteArray).data.toList = Ln.jText l := by
    rw [hm]; exact join_glue 10 _
  have hlen : (Ln.jText l).length ≤ 60 * 102 := by
    have h1 := Ln.glue_length 10 101 (l.map Ln.lineT) (by
      intro p hp
      obtain ⟨x, hx, rfl⟩ := List.mem_map.1 hp
      have := (Ln.err_zero (hl x hx)).1
      rw [Ln.lineT_length]; omega)
    rw [List.length_map] at h1
    have h2 : l.length * (101 + 1) ≤ 60 * 102 := by omega
    exact Nat.le_trans h1 h2
  have h := Tryd.strings_Join g 0 l.length (l.map fun x => Ln.ofT (Ln.lineT x)) ⟨#[10]⟩ w (by
    intro j x hx
    rw [Nat.zero_add]
    refine hg.cell j ?_
    rw [List.getElem?_map, hx]; rfl) hg.lt (by rw [List.length_map]; omega) (by rw [List.length_map]; exact Nat.le_refl _) (by rw [hjl]; omega)
  rw [hjl, List.length_map] at h
  exact h

set_option maxRecDepth 20000 in
set_option maxHeartbeats 1600000 in
theorem line_Join (a : Option Addr) (n c : Nat) (l : List Ln.L) (w : World) (h : LinesAt w w.heap.size a n l) :
    Calls Tryd.prog 12 #[.slice a n c] w fun e w' => e = .returned (.tuple #[.string (Ln.ofT (Ln.jOut l)), .int .i64 (Ln.jErr l : Int)]) ∧ Below w.heap.size w w' := by
  have hl := h.1
  have H := Lib.hid h
  clear h
  by_cases h60 : 60 < n
  · have Hr : Hid (Ln.jErr l = 1 ∧ Ln.jOut l = []) := Lib.hid (by
      have e : Ln.jErr l = 1 := by unfold Ln.jErr; rw [if_pos (by omega)]
      exact ⟨e, by unfold Ln.jOut; rw [if_neg (by rw [e]; decide)]⟩)
    go_enter Tryd.func12, Tryd.ntmps12
    go_wp2
    go_ret2
    rw [Hr.out.1, Hr.out.2]
    exact ⟨rfl, Below.refl _ _⟩
  · have hmk := make_texts n (by omega)
    obtain ⟨w1, hw1⟩ : ∃ w1, w1 = w.alloc (.cells (tcells [] n).toArray 9) := ⟨_, rfl⟩
    have HB := Lib.hid (show Below w.heap.size w w1 by rw [hw1]; exact (Below.refl _ _).alloc (Nat.le_refl _) _)
    have HT := Lib.hid (show Blk w1 w.heap.size 9 (tcells [] n) by rw [hw1]; exact Blk.new _ _ _)
    have Hl := Lib.hid hl
    have hfit : (n : Int) ≤ 60 := by omega
    go_enter Tryd.func12, Tryd.ntmps12
    go_wp2
    rw [← hw1]
    clear hmk hw1
    go_loopw [17] (fun i wr => ∃ k : Nat, k ≤ n ∧ i = .int .i64 k ∧ Hid (∀ x ∈ l.take k, Ln.err x = 0) ∧ Hid (Blk wr w.heap.size 9 (tcells ((l.take k).map fun x => Ln.ofT (Ln.lineT x)) n)) ∧ Hid (Below w.heap.size w wr)) (fun i _ => n - (intOf i).toNat)
    case atStart => exact ⟨0, Nat.zero_le _, rfl, Lib.hid (fun x hx => by simp at hx), Lib.hid (by simpa using HT.out), HB⟩
    case round =>
      obtain ⟨k, hk, rfl, Ha, Hb, HBr⟩ := hrel
      obtain ⟨wo, hwo⟩ : ∃ wo, wo = wr := ⟨_, rfl⟩
      subst hwo
      by_cases hlt : k < n
      · obtain ⟨b, off, rfl, hbl, hc⟩ := (H.out.below HBr.out).2 (by omega)
        have hkl : k < l.length := by omega
        obtain ⟨c0, c1⟩ := hc k hkl
        have Ht : Hid (l.take (k + 1) = l.take k ++ [l[k]]) := Lib.hid (List.take_succ_eq_append_getElem hkl)
        have Hf := Lib.hid (fun he => Ln.fault_at l k hkl Ha.out he)
        have Htl : Hid (((l.take k).map fun x => Ln.ofT (Ln.lineT x)).length = k) := Lib.hid (by rw [List.length_map, List.length_take]; omega)
        have hsz := HBr.out.size
        clear hc
        generalize l[k] = x at *
        have HC := Lib.hid (fun W => line_Check x W)
        obtain ⟨xk, xv⟩ := x
        unfold lineV at HC
        by_cases he : Ln.err ⟨xk, xv⟩ = 0
        · have Hz := Lib.hid (Ln.err_zero he)
          rw [he] at HC
          have Hx := Lib.hid he
          have HL := Lib.hid (line_text ⟨xk, xv⟩)
          have s1 : xk.size ≤ 30 := Hz.out.1.2.1
          have s2 : xv.size ≤ 70 := Hz.out.1.2.2
          clear he Hf
          go_wp2_with fail
          refine (HC.out _).mono ?_
          rintro e w2 ⟨rfl, hb2⟩
          have hA := step_alloc_line wo xk xv
          have hnew := (Blk.new wo 23 [.string xk, .string xv]).kept hb2
          have n0 := hnew.cell 0 rfl
          have n1 := hnew.cell 1 rfl
          have hgl := Hb.out.lt
          have hbk := ((Hb.out.kept hA).kept hb2)
          have ht0 := hbk.cell k (by have := tcells_old ((l.take k).map fun x => Ln.ofT (Ln.lineT x)) n (by rw [Htl.out]; exact hlt); rwa [Htl.out] at this)
          have ht1 := hbk.frozen (by rw [tcells_length _ _ (by rw [Htl.out]; exact hk)]; unfold maxLen; omega) k
          have Hset := Lib.hid (fun u => hbk.set (by rw [tcells_length _ _ (by rw [Htl.out]; exact hk)]; unfold maxLen; omega) k u)
          have HB2 := Lib.hid ((HBr.out.trans (hA.mono hsz)).trans (hb2.mono (Nat.le_trans hsz hA.size)))
          clear hnew hbk hA hb2 HC c0 c1
          have Hn := Lib.hid (show ∀ y ∈ l.take (k + 1), Ln.err y = 0 by
            intro y hy
            rw [Ht.out] at hy
            rcases List.mem_append.1 hy with hy | hy
            · exact Ha.out y hy
            · rw [List.mem_singleton.1 hy]; exact Hx.out)
          have Hs := Lib.hid (show (tcells ((l.take k).map fun x => Ln.ofT (Ln.lineT x)) n).set k (.string (xk ++ (⟨#[61]⟩ : ByteArray) ++ xv)) = tcells ((l.take (k + 1)).map fun x => Ln.ofT (Ln.lineT x)) n by
            have e := tcells_set ((l.take k).map fun x => Ln.ofT (Ln.lineT x)) n (by rw [Htl.out]; exact hlt) (xk ++ (⟨#[61]⟩ : ByteArray) ++ xv)
            rw [Htl.out] at e
            rw [e, Ht.out, List.map_append, List.map_singleton, ← HL.out])
          clear Ha Hx Htl Ht
          go_wp2
          go_roundw
          case rel => exact ⟨k + 1, by omega, by go_num, Hn, Lib.hid (by rw [← Hs.out]; exact Hset.out _), Lib.hid (HB2.out.setCell (Nat.le_refl _) _)⟩
          case measure => simp [intOf]; omega
        · have Hr : Hid (Ln.jErr l = Ln.err ⟨xk, xv⟩ ∧ Ln.jOut l = []) := Lib.hid (by
            have e : Ln.jErr l = Ln.err ⟨xk, xv⟩ := by
              unfold Ln.jErr
              rw [if_neg (by omega), if_pos (by rw [Hf.out he]; exact he), Hf.out he]
            exact ⟨e, by unfold Ln.jOut; rw [if_neg (by rw [e]; exact he)]⟩)
          have hn : ((Ln.err ⟨xk, xv⟩ : Int) != 0) = true := by simpa using he
          clear he Hf
          generalize Ln.err ⟨xk, xv⟩ = r at *
          go_wp2_with fail
          refine (HC.out _).mono ?_
          rintro e w2 ⟨rfl, hb2⟩
          have HB2 := Lib.hid ((HBr.out.trans ((step_alloc_line wo xk xv).mono hsz)).trans (hb2.mono (Nat.le_trans hsz (step_alloc_line wo xk xv).size)))
          clear hb2 HC c0 c1
          go_wp2
          go_ret2
          rw [Hr.out.1, Hr.out.2]
          exact ⟨rfl, HB2.out⟩
      · obtain rfl : k = n := by omega
        have htk : l.take k = l := List.take_of_length_le (by omega)
        rw [htk] at Ha Hb
        rw [tcells_full _ k (by rw [List.length_map]; exact Hl.out)] at Hb
        have HJ := Lib.hid (lib_JoinLines l wo w.heap.size Hb.out Ha.out (by omega))
        rw [Hl.out] at HJ
        have Hf := Lib.hid (Ln.fault_good l Ha.out)
        have hz : (Ln.ofT (Ln.jText l)).size = (Ln.jText l).length := by simp [Ln.ofT, ByteArray.size]
        by_cases h3 : 3000 < (Ln.jText l).length
        · have Hr : Hid (Ln.jErr l = 1 ∧ Ln.jOut l = []) := Lib.hid (by
            have e : Ln.jErr l = 1 := by unfold Ln.jErr; rw [if_neg (by omega), if_neg (by rw [Hf.out]; decide), if_pos h3]
            exact ⟨e, by unfold Ln.jOut; rw [if_neg (by rw [e]; decide)]⟩)
          rw [← hz] at h3
          have d3 : decide ((3000 : Int) < ((Ln.ofT (Ln.jText l)).size : Int)) = true := decide_eq_true (by omega)
          clear hz h3
          generalize Ln.ofT (Ln.jText l) = T at *
          go_wp2_with fail
          refine HJ.out.mono ?_
          rintro e w2 ⟨rfl, hb2⟩
          have HB2 := Lib.hid (HBr.out.trans (hb2.mono HBr.out.size))
          clear hb2 HJ
          go_wp2
          go_ret2
          rw [Hr.out.1, Hr.out.2]
          exact ⟨rfl, HB2.out⟩
        · have Hr : Hid (Ln.jErr l = 0 ∧ Ln.jOut l = Ln.jText l) := Lib.hid (by
            have e : Ln.jErr l = 0 := by unfold Ln.jErr; rw [if_neg (by omega), if_neg (by rw [Hf.out]; decide), if_neg h3]
            exact ⟨e, by unfold Ln.jOut; rw [if_pos e]⟩)
          rw [← hz] at h3
          have d3 : decide ((3000 : Int) < ((Ln.ofT (Ln.jText l)).size : Int)) = false := decide_eq_false (by omega)
          clear hz h3
          generalize hT : Ln.ofT (Ln.jText l) = T at *
          have HT := Lib.hid hT
          clear hT
          go_wp2_with fail
          refine HJ.out.mono ?_
          rintro e w2 ⟨rfl, hb2⟩
          have HB2 := Lib.hid (HBr.out.trans (hb2.mono HBr.out.size))
          clear hb2 HJ
          go_wp2
          go_ret2
          rw [Hr.out.1, Hr.out.2, HT.out]
          exact ⟨rfl, HB2.out⟩
end Go.Proofs.YtldfamdjdkaloabDoor
