/- The contract of the reference's little. -/
import Derived.Test.YtfgkodgdoplpbabWireCheck
import Derived.Test.YtfgkodgdoplpbabRefBig2
namespace Go.Proofs.Ytfgkodgdoplpbab
open Go.RowKit

theorem strOf_append (a b : List UInt8) : strOf (a ++ b) = strOf a ++ strOf b := by
  rw [← strOf_eq (strOf a ++ strOf b)]
  congr 1
theorem beL_cell (w : World) (n m i : Nat) (hi : i < m) : BytesAt (w.alloc (bigObj n m)) (w.alloc (bigObj n m)).heap.size (some ⟨w.heap.size, i, none⟩) 1 [(Sl.beL n m).getD i 0] := by
  have h := alloc_bytes w n m
  have h2 := (h.part (m := i) (by omega)).cut (m := 1) (by omega)
  rw [Nat.zero_add] at h2
  have hl : i < (Sl.beL n m).length := by rw [Sl.beL_length]; exact hi
  have e : ((Sl.beL n m).drop i).take 1 = [(Sl.beL n m).getD i 0] := by
    rw [List.drop_eq_getElem_cons hl, List.getD_eq_getElem?_getD, List.getElem?_eq_getElem hl]
    rfl
  rw [e] at h2
  exact h2
theorem Wr.le_step (n m j : Nat) (hj : j < m) : (Wr.leL n m).take j ++ [(Sl.beL n m).getD (m - 1 - j) 0] = (Wr.leL n m).take (j + 1) := by
  have hl : j < (Wr.leL n m).length := by rw [Wr.leL_length]; exact hj
  rw [List.take_succ_eq_append_getElem hl]
  congr 1
  have := Wr.leL_get n m j hj
  rw [List.getElem?_eq_getElem hl] at this
  rw [List.getD_eq_getElem?_getD, ← this]
  rfl

set_option maxHeartbeats 1600000 in
theorem ref_little (n m : Nat) (w : World) (hn : n ≤ 9223372036854775807) (hm : m ≤ 100) (hm0 : 0 < m) :
    Calls Try.prog 26 #[.int .i64 (n : Int), .int .i64 (m : Int)] w fun e w' => e = .returned (.string (strOf (Wr.leL n m))) ∧ w' = w.alloc (bigObj n m) := by
  go_enter Try.func26, Try.ntmps26
  go_wp2_with fail
  refine (ref_big n m w hn hm hm0).mono ?_
  rintro e w1 ⟨rfl, hw1⟩
  have HX := Lib.hid (beL_cell w n m)
  rw [← hw1] at HX
  have HW := Lib.hid hw1
  clear hw1
  obtain ⟨g, hg⟩ : ∃ g, g = w.heap.size := ⟨_, rfl⟩
  rw [← hg] at HX ⊢
  clear hg
  go_wp2
  go_loopw [6, 7] (fun vs vi wr => ∃ j : Nat, j ≤ m ∧ vs = .string (strOf ((Wr.leL n m).take j)) ∧ vi = .int .i64 ((m : Int) - 1 - (j : Int)) ∧ wr = w1) (fun _ vi _ => (intOf vi + 1).toNat)
  case atStart => exact ⟨0, Nat.zero_le _, by simp; rfl, by go_num, rfl⟩
  case round =>
    obtain ⟨j, hj, rfl, rfl, rfl⟩ := hrel
    by_cases hlt : j < m
    · have Hs := Lib.hid (Wr.le_step n m j hlt)
      have hS : (strOf ((Wr.leL n m).take j)).size ≤ 100 := by rw [strOf_size, List.length_take]; omega
      have hX1 := HX.out (m - 1 - j) (by omega)
      obtain ⟨k, hk⟩ : ∃ k : Nat, k = m - 1 - j := ⟨_, rfl⟩
      rw [← hk] at hX1 Hs
      have hkk : (m : Int) - 1 - (j : Int) = (k : Int) := by omega
      have Hk := Lib.hid hkk
      have hkm : k < m := by omega
      rw [hkk]
      clear hk hkk
      generalize (Sl.beL n m).getD k 0 = x at *
      have hc := fun C => conv_bytes (P := Try.prog) hX1 22 5 9 C Try.underlying22 Try.underlying5 Try.underlying9
      have HE := Lib.hid (strOf_append ((Wr.leL n m).take j) [x])
      rw [Hs.out] at HE
      have hXs : (strOf [x]).size = 1 := by rw [strOf_size]; rfl
      clear hX1
      generalize strOf ((Wr.leL n m).take j) = S at *
      generalize strOf [x] = X at *
      have hkm' : (k : Int) + 1 ≤ (m : Int) := by omega
      have hkm2 : ¬ m = k := by omega
      have hkm3 : ¬ m - k = 0 := by omega
      go_wp2
      go_roundw
      case rel => exact ⟨j + 1, by omega, by rw [HE.out], by have := Hk.out; go_num, trivial⟩
      case measure => simp [intOf]
    · obtain rfl : j = m := by omega
      have HT : Hid ((Wr.leL n j).take j = Wr.leL n j) := Lib.hid (List.take_of_length_le (by rw [Wr.leL_length]; omega))
      go_wp2
      go_ret
      exact ⟨by rw [HT.out]; rfl, HW.out⟩
end Go.Proofs.Ytfgkodgdoplpbab
