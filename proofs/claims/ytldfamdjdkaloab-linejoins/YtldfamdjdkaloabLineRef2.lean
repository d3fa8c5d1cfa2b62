/- The contract of the reference's LinesText. -/
import Derived.Test.YtldfamdjdkaloabLineRef1
import Derived.Test.YtldfamdjdkaloabLineTexts
namespace Go.Proofs.Ytldfamdjdkaloab
open Go.RowKit

theorem glue_snoc (c : UInt8) (y : List UInt8) : ∀ (l : List (List UInt8)), l ≠ [] → Ad.glue c (l ++ [y]) = Ad.glue c l ++ c :: y := by
  intro l
  induction l with
  | nil => intro h; exact absurd rfl h
  | cons x r ih =>
    intro _
    cases r with
    | nil => rfl
    | cons z r =>
      rw [List.cons_append, List.cons_append, Ln.glue_cons, Ln.glue_cons, List.append_assoc]
      have := ih (by simp)
      rw [List.cons_append] at this
      rw [this, List.cons_append]
theorem text_step (l : List Ln.L) (x : Ln.L) : Ln.ofT (Ln.jText (l ++ [x])) = if l.length = 0 then Ln.ofT (Ln.jText l) ++ (x.k ++ (⟨#[61]⟩ : ByteArray) ++ x.v) else Ln.ofT (Ln.jText l) ++ (⟨#[10]⟩ : ByteArray) ++ (x.k ++ (⟨#[61]⟩ : ByteArray) ++ x.v) := by
  have hx : x.k ++ (⟨#[61]⟩ : ByteArray) ++ x.v = Ln.ofT (Ln.lineT x) := by
    apply WideShapes.bytes_inj
    simp only [ByteArray.data_append, Array.toList_append, Ln.ofT_data]
    unfold Ln.lineT
    simp
  rw [hx]
  cases l with
  | nil =>
    rw [if_pos (show ([] : List Ln.L).length = 0 from rfl)]
    apply WideShapes.bytes_inj
    simp only [ByteArray.data_append, Array.toList_append, Ln.ofT_data]
    rfl
  | cons y r =>
    rw [if_neg (by simp)]
    apply WideShapes.bytes_inj
    simp only [ByteArray.data_append, Array.toList_append, Ln.ofT_data]
    unfold Ln.jText
    rw [List.map_append, List.map_singleton, glue_snoc 10 _ _ (by simp)]
    simp
theorem text_size (l : List Ln.L) (hl : ∀ x ∈ l, Ln.err x = 0) (h60 : l.length ≤ 60) : (Ln.ofT (Ln.jText l)).size ≤ 6120 := by
  have hz : (Ln.ofT (Ln.jText l)).size = (Ln.jText l).length := by simp [Ln.ofT, ByteArray.size]
  rw [hz]
  have h1 := Ln.glue_length 10 101 (l.map Ln.lineT) (by
    intro p hp
    obtain ⟨x, hx, rfl⟩ := List.mem_map.1 hp
    have := (Ln.err_zero (hl x hx)).1
    rw [Ln.lineT_length]; omega)
  rw [List.length_map] at h1
  have h2 : l.length * (101 + 1) ≤ 60 * 102 := by omega
  exact Nat.le_trans h1 h2
theorem below_new (W : World) (xk xv : ByteArray) : Below W.heap.size W (W.alloc (.cells #[.string xk, .string xv] 29)) := (Below.refl _ _).alloc (Nat.le_refl _) _

set_option maxRecDepth 20000 in
set_option maxHeartbeats 1600000 in
theorem ref_LinesText (a : Option Addr) (n c : Nat) (l : List Ln.L) (w : World) (h : LinesAt w w.heap.size a n l) :
    Calls Try.prog 5 #[.slice a n c] w fun e w' => e = .returned (.tuple #[.string (Ln.ofT (Ln.jOut l)), .int .i64 (Ln.jErr l : Int)]) ∧ Below w.heap.size w w' := by
  have hl := h.1
  have H := Lib.hid h
  clear h
  by_cases h60 : 60 < n
  · have Hr : Hid (Ln.jErr l = 1 ∧ Ln.jOut l = []) := Lib.hid (by
      have e : Ln.jErr l = 1 := by unfold Ln.jErr; rw [if_pos (by omega)]
      exact ⟨e, by unfold Ln.jOut; rw [if_neg (by rw [e]; decide)]⟩)
    go_enter Try.func5, Try.ntmps5
    go_wp2
    go_ret2
    rw [Hr.out.1, Hr.out.2]
    exact ⟨rfl, Below.refl _ _⟩
  · have Hl := Lib.hid hl
    have hfit : (n : Int) ≤ 60 := by omega
    go_enter Try.func5, Try.ntmps5
    go_wp2
    go_loopw [4, 13] (fun v i wr => ∃ k : Nat, ∃ S : ByteArray, k ≤ n ∧ i = .int .i64 k ∧ v = .string S ∧ S.size ≤ 6120 ∧ Hid (S = Ln.ofT (Ln.jText (l.take k))) ∧ Hid (∀ x ∈ l.take k, Ln.err x = 0) ∧ Hid (Below w.heap.size w wr)) (fun _ i _ => n - (intOf i).toNat)
    case atStart => exact ⟨0, ⟨#[]⟩, Nat.zero_le _, rfl, rfl, by decide, Lib.hid rfl, Lib.hid (fun x hx => by simp at hx), Lib.hid (Below.refl _ _)⟩
    case round =>
      obtain ⟨k, S, hk, rfl, rfl, hS, HS, Ha, HBr⟩ := hrel
      obtain ⟨wo, hwo⟩ : ∃ wo, wo = wr := ⟨_, rfl⟩
      subst hwo
      by_cases hlt : k < n
      · obtain ⟨b, off, rfl, hbl, hc⟩ := (H.out.below HBr.out).2 (by omega)
        have hkl : k < l.length := by omega
        obtain ⟨c0, c1⟩ := hc k hkl
        have Ht : Hid (l.take (k + 1) = l.take k ++ [l[k]]) := Lib.hid (List.take_succ_eq_append_getElem hkl)
        have Hf := Lib.hid (fun he => Ln.fault_at l k hkl Ha.out he)
        have Htl : Hid ((l.take k).length = k) := Lib.hid (by rw [List.length_take]; omega)
        have hsz := HBr.out.size
        have h1k : Hid ((l.take (k + 1)).length ≤ 60) := Lib.hid (by rw [List.length_take]; omega)
        clear hc
        generalize l[k] = x at *
        have HC := Lib.hid (fun W => ref_LineFault x W)
        obtain ⟨xk, xv⟩ := x
        unfold lineV at HC
        by_cases he : Ln.err ⟨xk, xv⟩ = 0
        · have Hz := Lib.hid (Ln.err_zero he)
          rw [he] at HC
          have Hn := Lib.hid (show ∀ y ∈ l.take (k + 1), Ln.err y = 0 by
            intro y hy
            rw [Ht.out] at hy
            rcases List.mem_append.1 hy with hy | hy
            · exact Ha.out y hy
            · rw [List.mem_singleton.1 hy]; exact he)
          have s1 : xk.size ≤ 30 := Hz.out.1.2.1
          have s2 : xv.size ≤ 70 := Hz.out.1.2.2
          have HT := Lib.hid (text_step (l.take k) ⟨xk, xv⟩)
          have HN := Lib.hid (text_size (l.take (k + 1)) Hn.out h1k.out)
          clear he Hf
          go_wp2_with fail
          refine (HC.out _).mono ?_
          rintro e w2 ⟨rfl, hb2⟩
          have hnew := (Blk.new wo 29 [.string xk, .string xv]).kept hb2
          have n0 := hnew.cell 0 rfl
          have n1 := hnew.cell 1 rfl
          have HB2 := Lib.hid ((HBr.out.trans ((below_new wo xk xv).mono hsz)).trans (hb2.mono (Nat.le_trans hsz (below_new wo xk xv).size)))
          clear hnew hb2 HC c0 c1
          by_cases h0 : k = 0
          · have d0 : ¬ 0 < k := by omega
            rw [Htl.out, if_pos h0, ← HS.out, ← Ht.out] at HT
            rw [HT.out] at HN
            clear Htl h0 Ha Ht
            have hN := HN.out
            go_wp2
            go_roundw
            case rel => exact ⟨k + 1, _, by omega, by go_num, rfl, hN, Lib.hid HT.out.symm, Hn, HB2⟩
            case measure => simp [intOf]; omega
          · have d0 : 0 < k := by omega
            rw [Htl.out, if_neg h0, ← HS.out, ← Ht.out] at HT
            rw [HT.out] at HN
            clear Htl h0 Ha Ht
            have hN := HN.out
            go_wp2
            go_roundw
            case rel => exact ⟨k + 1, _, by omega, by go_num, rfl, hN, Lib.hid HT.out.symm, Hn, HB2⟩
            case measure => simp [intOf]; omega
        · have Hr : Hid (Ln.jErr l = Ln.err ⟨xk, xv⟩ ∧ Ln.jOut l = []) := Lib.hid (by
            have e : Ln.jErr l = Ln.err ⟨xk, xv⟩ := by
              unfold Ln.jErr
              rw [if_neg (by omega), if_pos (by rw [Hf.out he]; exact he), Hf.out he]
            exact ⟨e, by unfold Ln.jOut; rw [if_neg (by rw [e]; exact he)]⟩)
          have hn : ((Ln.err ⟨xk, xv⟩ : Int) != 0) = true := by simpa using he
          clear he Hf
          generalize Ln.err ⟨xk, xv⟩ = r at *
          go_wp2_with fail
          refine (HC.out _).mono ?_
          rintro e w2 ⟨rfl, hb2⟩
          have HB2 := Lib.hid ((HBr.out.trans ((below_new wo xk xv).mono hsz)).trans (hb2.mono (Nat.le_trans hsz (below_new wo xk xv).size)))
          clear hb2 HC c0 c1
          go_wp2
          go_ret2
          rw [Hr.out.1, Hr.out.2]
          exact ⟨rfl, HB2.out⟩
      · obtain rfl : k = n := by omega
        have htk : l.take k = l := List.take_of_length_le (by omega)
        rw [htk] at Ha HS
        have Hf := Lib.hid (Ln.fault_good l Ha.out)
        have hz : S.size = (Ln.jText l).length := by rw [HS.out]; simp [Ln.ofT, ByteArray.size]
        by_cases h3 : 3000 < (Ln.jText l).length
        · have Hr : Hid (Ln.jErr l = 1 ∧ Ln.jOut l = []) := Lib.hid (by
            have e : Ln.jErr l = 1 := by unfold Ln.jErr; rw [if_neg (by omega), if_neg (by rw [Hf.out]; decide), if_pos h3]
            exact ⟨e, by unfold Ln.jOut; rw [if_neg (by rw [e]; decide)]⟩)
          rw [← hz] at h3
          have d3 : decide ((3000 : Int) < (S.size : Int)) = true := decide_eq_true (by omega)
          clear hz h3
          go_wp2
          go_ret2
          rw [Hr.out.1, Hr.out.2]
          exact ⟨rfl, HBr.out⟩
        · have Hr : Hid (Ln.jErr l = 0 ∧ Ln.jOut l = Ln.jText l) := Lib.hid (by
            have e : Ln.jErr l = 0 := by unfold Ln.jErr; rw [if_neg (by omega), if_neg (by rw [Hf.out]; decide), if_neg h3]
            exact ⟨e, by unfold Ln.jOut; rw [if_pos e]⟩)
          rw [← hz] at h3
          have d3 : decide ((3000 : Int) < (S.size : Int)) = false := decide_eq_false (by omega)
          clear hz h3
          go_wp2
          go_ret2
          rw [Hr.out.1, Hr.out.2, ← HS.out]
          exact ⟨rfl, HBr.out⟩
end Go.Proofs.Ytldfamdjdkaloab
