/- The contract of the reference's SettingFault. -/
import Derived.Test.YthlagpmacnijfaaGreatDoorBatchRef2
import Derived.Test.YthlagpmacnijfaaGreatDoorBatchRef2b
import Derived.Test.YthlagpmacnijfaaGreatDoorBatchFaultMoreT1
import Derived.Test.YthlagpmacnijfaaGreatDoorBatchFaultMoreT2
import Derived.Test.YthlagpmacnijfaaGreatDoorBatchFaultMoreN
import Derived.Test.YthlagpmacnijfaaGreatDoorBatchFaultMoreC
import Derived.Test.YthlagpmacnijfaaGreatDoorBatchFaultMoreZ
namespace Go.Proofs.YthlagpmacnijfaaGreatDoor
open Go.RowKit

theorem not_empty {t : ByteArray} (h : t.size ≠ 0) : t.toList.isEmpty = false := by rw [empty_size, decide_eq_false h]
theorem is_empty {t : ByteArray} (h : t.size = 0) : t = ⟨#[]⟩ := by
  apply WideShapes.bytes_inj
  have : t.data.toList.length = 0 := by simpa using h
  rw [List.length_eq_zero_iff.1 this]
theorem fld_one : Bt.fld 1 = 1 ∧ Bt.fld 4 = 1 ∧ Bt.fld 6 = 1 ∧ Bt.fld 7 = 1 ∧ Bt.fld 2 = 2 ∧ Bt.fld 8 = 2 ∧ Bt.fld 10 = 3 ∧ Bt.fld 3 = 0 ∧ Bt.fld 5 = 0 ∧ Bt.fld 9 = 0 := by decide
/-- What a kind's field leaves to the other ones. -/
theorem more_fld (s : Bt.S) : Bt.more s = true ↔ ((s.t.size ≠ 0 ∧ Bt.fld s.k ≠ 1) ∨ (s.n ≠ 0 ∧ Bt.fld s.k ≠ 2) ∨ ((s.a ≠ 0 ∨ s.b ≠ 0) ∧ Bt.fld s.k ≠ 3)) := by
  unfold Bt.more
  simp only [Bool.or_eq_true, Bool.and_eq_true, decide_eq_true_eq]
  constructor
  · rintro ((h | h) | h)
    · exact .inl h
    · exact .inr (.inl h)
    · exact .inr (.inr h)
  · rintro (h | h | h)
    · exact .inl (.inl h)
    · exact .inl (.inr h)
    · exact .inr h
theorem ref_SettingFault (s : Bt.S) (w : World) (hs : s.t.size ≤ 1048576) (ha : s.a < 4294967296) (hT : AllTabs w) :
    Calls Tryz.prog 34 #[setV s] w fun e w' => e = .returned (.int .i64 (Bt.err s : Int)) ∧ Below w.heap.size w w' := by
  by_cases hk : s.k < 1 ∨ 10 < s.k
  · exact ref_SettingFault_kind s w hk
  have h1 : 1 ≤ s.k := by omega
  have h2 : s.k ≤ 10 := by omega
  have hml : s.t.size ≤ maxLen := by unfold maxLen; omega
  obtain ⟨f1, f4, f6, f7, f2, f8, f10, f3, f5, f9⟩ := fld_one
  by_cases hm : Bt.more s = true
  · have he := more_cases s h1 h2 hm
    rw [he]
    rw [more_fld] at hm
    obtain ⟨k, t, n, a, b⟩ := s
    simp only at h1 h2 hm hs ha
    unfold setV
    rcases Bt.fld_cases k h1 h2 with rfl | rfl | rfl | rfl | rfl | rfl | rfl | rfl | rfl | rfl
    · exact faultMoreT1 1 (by omega) t n a b w (by rw [f1] at hm; omega)
    · exact faultMoreN 2 (by omega) t n a b w (by
        rw [f2] at hm
        rcases hm with h | h | h
        · exact .inl (not_empty h.1)
        · exact absurd rfl h.2
        · exact .inr h.1)
    · exact faultMoreZ 3 (by omega) t n a b w (by
        rcases hm with h | h | h
        · exact .inl (not_empty h.1)
        · exact .inr (.inl h.1)
        · exact .inr (.inr h.1))
    · exact faultMoreT1 4 (by omega) t n a b w (by rw [f4] at hm; omega)
    · exact faultMoreZ 5 (by omega) t n a b w (by
        rcases hm with h | h | h
        · exact .inl (not_empty h.1)
        · exact .inr (.inl h.1)
        · exact .inr (.inr h.1))
    · exact faultMoreT2 6 (by omega) t n a b w (by rw [f6] at hm; omega)
    · exact faultMoreT2 7 (by omega) t n a b w (by rw [f7] at hm; omega)
    · exact faultMoreN 8 (by omega) t n a b w (by
        rw [f8] at hm
        rcases hm with h | h | h
        · exact .inl (not_empty h.1)
        · exact absurd rfl h.2
        · exact .inr h.1)
    · exact faultMoreZ 9 (by omega) t n a b w (by
        rcases hm with h | h | h
        · exact .inl (not_empty h.1)
        · exact .inr (.inl h.1)
        · exact .inr (.inr h.1))
    · exact faultMoreC 10 (by omega) t n a b w (by
        rw [f10] at hm
        rcases hm with h | h | h
        · exact .inl (not_empty h.1)
        · exact .inr h.1
        · exact absurd rfl h.2)
  · have hm' : Bt.more s = false := by simpa using hm
    rw [err_kind h1 h2 hm']
    rw [more_fld] at hm
    obtain ⟨k, t, n, a, b⟩ := s
    simp only at h1 h2 hm hs ha hml ⊢
    clear hm'
    rcases Bt.fld_cases k h1 h2 with rfl | rfl | rfl | rfl | rfl | rfl | rfl | rfl | rfl | rfl
    · rw [f1] at hm ⊢
      obtain ⟨rfl, rfl, rfl⟩ : n = 0 ∧ a = 0 ∧ b = 0 := by omega
      exact fault_key 1 t w (by omega) hml
    · rw [f2] at hm ⊢
      obtain ⟨ht, rfl, rfl⟩ : t.size = 0 ∧ a = 0 ∧ b = 0 := by omega
      rw [is_empty ht]
      exact fault_num 2 n w (by omega)
    · rw [f3] at hm ⊢
      obtain ⟨ht, rfl, rfl, rfl⟩ : t.size = 0 ∧ n = 0 ∧ a = 0 ∧ b = 0 := by omega
      rw [is_empty ht]
      exact fault_none 3 w (by omega)
    · rw [f4] at hm ⊢
      obtain ⟨rfl, rfl, rfl⟩ : n = 0 ∧ a = 0 ∧ b = 0 := by omega
      exact fault_key 4 t w (by omega) hml
    · rw [f5] at hm ⊢
      obtain ⟨ht, rfl, rfl, rfl⟩ : t.size = 0 ∧ n = 0 ∧ a = 0 ∧ b = 0 := by omega
      rw [is_empty ht]
      exact fault_none 5 w (by omega)
    · rw [f6] at hm ⊢
      obtain ⟨rfl, rfl, rfl⟩ : n = 0 ∧ a = 0 ∧ b = 0 := by omega
      have := fault_shared t w hml
      simpa using this
    · rw [f7] at hm ⊢
      obtain ⟨rfl, rfl, rfl⟩ : n = 0 ∧ a = 0 ∧ b = 0 := by omega
      exact fault_end t w hs hT
    · rw [f8] at hm ⊢
      obtain ⟨ht, rfl, rfl⟩ : t.size = 0 ∧ a = 0 ∧ b = 0 := by omega
      rw [is_empty ht]
      exact fault_num 8 n w (by omega)
    · rw [f9] at hm ⊢
      obtain ⟨ht, rfl, rfl, rfl⟩ : t.size = 0 ∧ n = 0 ∧ a = 0 ∧ b = 0 := by omega
      rw [is_empty ht]
      exact fault_none 9 w (by omega)
    · rw [f10] at hm ⊢
      obtain ⟨ht, rfl⟩ : t.size = 0 ∧ n = 0 := by omega
      rw [is_empty ht]
      exact fault_net a b w ha
end Go.Proofs.YthlagpmacnijfaaGreatDoor
