/- The contract of the reference's NumberOf. -/
import Derived.Test.YtjdflnnpamjjcaaDoorNumTabs
import Derived.Test.YtjdflnnpamjjcaaDoorAddrFold
namespace Go.Proofs.YtjdflnnpamjjcaaDoor
open Go.RowKit

theorem num_cases (l : List UInt8) (most : Int) :
    (Ad.isNum l = true ∧ Lib.atoiAll l = .ok (Ad.val l : Int) ∧ Lib.itoa (Ad.val l : Int) = l ∧ l.length ≤ 5 ∧ (Ad.val l : Int) ≤ most ∧ Ad.numErr l most = 0 ∧ Ad.numOut l most = Ad.val l) ∨
    (Ad.numErr l most = 3 ∧ Ad.numOut l most = 0 ∧
      ((∀ v, Lib.atoiAll l ≠ .ok v) ∨ ∃ v, Lib.atoiAll l = .ok v ∧ (5 < l.length ∨ (l.length ≤ 5 ∧ v < 0) ∨ (l.length ≤ 5 ∧ 0 ≤ v ∧ most < v) ∨ (l.length ≤ 5 ∧ 0 ≤ v ∧ v ≤ most ∧ Lib.itoa v ≠ l)))) := by
  by_cases he : Ad.numErr l most = 0
  · left
    have hc : Ad.isNum l = true ∧ (Ad.val l : Int) ≤ most := by
      unfold Ad.numErr at he
      by_cases hc : Ad.isNum l = true ∧ (Ad.val l : Int) ≤ most
      · exact hc
      · rw [if_neg hc] at he; cases he
    obtain ⟨h1, h2⟩ := Ad.num_atoi l hc.1
    refine ⟨hc.1, h1, h2, (Ad.num_parts l hc.1).2.1, hc.2, he, ?_⟩
    unfold Ad.numOut
    rw [if_pos he]
  · right
    obtain ⟨h1, h2⟩ := numOut_bad l most he
    refine ⟨h1, h2, ?_⟩
    rcases hm : Lib.atoiAll l with v | _ | _
    rotate_left
    · left; intro v h; cases h
    · left; intro v h; cases h
    · right
      refine ⟨v, rfl, ?_⟩
      by_cases h5 : 5 < l.length
      · exact .inl h5
      by_cases h0 : v < 0
      · exact .inr (.inl ⟨by omega, h0⟩)
      by_cases h3 : most < v
      · exact .inr (.inr (.inl ⟨by omega, by omega, h3⟩))
      refine .inr (.inr (.inr ⟨by omega, by omega, by omega, fun hi => ?_⟩))
      obtain ⟨g1, g2⟩ := Ad.num_back l v (by omega) (by omega) hi
      unfold Ad.numErr at he
      rw [if_pos ⟨g1, by omega⟩] at he
      exact he rfl

theorem bytes_ne {t s : ByteArray} (h : t.data.toList ≠ s.data.toList) : (t == s) = false := by
  cases t with
  | mk a =>
    cases s with
    | mk b =>
      show (a == b) = false
      rw [beq_eq_false_iff_ne]
      intro e
      exact h (by rw [e])
theorem atoi_bounds (l : List UInt8) (v : Int) (h : Lib.atoiAll l = .ok v) : -9223372036854775808 ≤ v ∧ v ≤ 9223372036854775807 := by
  cases l with
  | nil => cases h
  | cons c r =>
    simp only [Lib.atoiAll] at h
    split at h
    · cases h
    · cases h
    · rename_i u hu
      split at h
      · cases h
      · split at h
        · cases h
        · injection h with h
          split at h <;> omega

set_option maxHeartbeats 400000 in
theorem ref_NumberOf (s : ByteArray) (most : Int) (w : World) (hs : s.size ≤ 281474976710656) (hT : PowTab w) (hE : ErrTab w) :
    Calls Tryd.prog 37 #[.string s, .int .i64 most] w fun e w' => e = .returned (.tuple #[.int .i64 (Ad.numOut s.data.toList most : Int), .int .i64 (Ad.numErr s.data.toList most : Int)]) ∧ Below w.heap.size w w' := by
  have hsl : s.data.toList.length = s.size := by simp
  rcases num_cases s.data.toList most with ⟨h1, h2, h3, h4, h5, h6, h7⟩ | ⟨h6, h7, h8⟩
  · have H6 := Lib.hid h6
    have H7 := Lib.hid h7
    have hv := Ad.num_lt _ h1
    rw [hsl] at h4
    have hc := lib_Atoi_ok s _ w hs h2
    have H3 := Lib.hid h3
    have hu0 : (0 : Int) ≤ (Ad.val s.data.toList : Int) := by omega
    have hu1 : (Ad.val s.data.toList : Int) < 100000 := by omega
    have H7' : Hid ((Ad.numOut s.data.toList most : Int) = (Ad.val s.data.toList : Int)) := Lib.hid (by rw [h7])
    generalize (Ad.val s.data.toList : Int) = u at *
    have d1 : decide ((5 : Int) < (s.size : Int)) = false := decide_eq_false (by omega)
    have d2 : decide (u < 0) = false := decide_eq_false (by omega)
    have d3 : decide (most < u) = false := decide_eq_false (by omega)
    clear h1 h2 h3 h6 h7 H7
    go_enter Tryd.func37, Tryd.ntmps37
    go_wp2_with fail
    refine hc.mono ?_
    rintro e w1 ⟨rfl, hb1⟩
    have hT1 := hT.below hb1
    go_wp2_with fail
    refine (lib_Itoa u _ (by omega) (by omega) hT1).mono ?_
    rintro e w2 ⟨rfl, hb2⟩
    rw [H3.out]
    go_wp2
    go_ret2
    rw [H6.out, H7'.out]
    exact ⟨rfl, hb1.trans (hb2.mono hb1.size)⟩
  · have H6 := Lib.hid h6
    have H7 := Lib.hid h7
    clear h6 h7
    rcases h8 with hn | ⟨v, hv, h8⟩
    · have hc := lib_Atoi_err s w hs hE hn
      clear hn
      go_enter Tryd.func37, Tryd.ntmps37
      go_wp2_with fail
      refine hc.mono ?_
      rintro e w1 ⟨⟨v, t, p, rfl⟩, hb1⟩
      go_wp2
      go_ret2
      rw [H6.out, H7.out]
      exact ⟨rfl, hb1⟩
    · obtain ⟨v0, v1⟩ := atoi_bounds _ _ hv
      have hc := lib_Atoi_ok s _ w hs hv
      rw [hsl] at h8
      clear hv
      rcases h8 with h8 | ⟨h4, h8⟩ | ⟨h4, h5, h8⟩ | ⟨h4, h5, h8, h9⟩
      · have d1 : decide ((5 : Int) < (s.size : Int)) = true := decide_eq_true (by omega)
        go_enter Tryd.func37, Tryd.ntmps37
        go_wp2_with fail
        refine hc.mono ?_
        rintro e w1 ⟨rfl, hb1⟩
        go_wp2
        go_ret2
        rw [H6.out, H7.out]
        exact ⟨rfl, hb1⟩
      · have d1 : decide ((5 : Int) < (s.size : Int)) = false := decide_eq_false (by omega)
        have d2 : decide (v < 0) = true := decide_eq_true (by omega)
        go_enter Tryd.func37, Tryd.ntmps37
        go_wp2_with fail
        refine hc.mono ?_
        rintro e w1 ⟨rfl, hb1⟩
        go_wp2
        go_ret2
        rw [H6.out, H7.out]
        exact ⟨rfl, hb1⟩
      · have d1 : decide ((5 : Int) < (s.size : Int)) = false := decide_eq_false (by omega)
        have d2 : decide (v < 0) = false := decide_eq_false (by omega)
        have d3 : decide (most < v) = true := decide_eq_true (by omega)
        go_enter Tryd.func37, Tryd.ntmps37
        go_wp2_with fail
        refine hc.mono ?_
        rintro e w1 ⟨rfl, hb1⟩
        go_wp2
        go_ret2
        rw [H6.out, H7.out]
        exact ⟨rfl, hb1⟩
      · have d1 : decide ((5 : Int) < (s.size : Int)) = false := decide_eq_false (by omega)
        have d2 : decide (v < 0) = false := decide_eq_false (by omega)
        have d3 : decide (most < v) = false := decide_eq_false (by omega)
        obtain ⟨t, ht⟩ : ∃ t : ByteArray, t = ⟨(Lib.itoa v).toArray⟩ := ⟨_, rfl⟩
        have d4 : (t.toList == s.toList) = false := by rw [← beq_toListBytes]; exact bytes_ne (by rw [ht]; exact h9)
        have Ht := Lib.hid ht
        clear ht
        clear h9
        go_enter Tryd.func37, Tryd.ntmps37
        go_wp2_with fail
        refine hc.mono ?_
        rintro e w1 ⟨rfl, hb1⟩
        have hT1 := hT.below hb1
        go_wp2_with fail
        refine (lib_Itoa v _ v0 v1 hT1).mono ?_
        rintro e w2 ⟨rfl, hb2⟩
        rw [← Ht.out]
        go_wp2
        go_ret2
        rw [H6.out, H7.out]
        exact ⟨rfl, hb1.trans (hb2.mono hb1.size)⟩
end Go.Proofs.YtjdflnnpamjjcaaDoor
