/- The contracts of package hex: hex.value, hex.allDigits, hex.Check return what HexPlain's words compute, and leave the world alone. -/
import Derived.Test.YtjdflnnpamjjcaaDoorRows
import Derived.Test.YtjdflnnpamjjcaaDoorHexPlain
import Derived.Test.YtjdflnnpamjjcaaDoorMem
namespace Go.Proofs.YtjdflnnpamjjcaaDoor
open Go.RowKit

set_option maxHeartbeats 400000 in
theorem hex_value (c : UInt8) (w : World) :
    Calls Tryd.prog 44 #[.int .u8 (c.toNat : Int)] w fun e w' => e = .returned (.tuple #[.int .u8 (Hx.digVal c : Int), .bool (Hx.isDig c)]) ∧ w = w' := by
  have hc := c.toNat_lt
  by_cases h1 : 48 ≤ c.toNat <;> by_cases h2 : c.toNat ≤ 57 <;> by_cases h3 : 97 ≤ c.toNat <;> by_cases h4 : c.toNat ≤ 102 <;> first
  | omega
  | (go_enter Tryd.func44, Tryd.ntmps44
     go_wp2
     go_ret2
     exact ⟨ret_int_bool (by simp [Hx.digVal, *]; try omega) (by simp [Hx.isDig, *]), rfl⟩)

def allD (s : ByteArray) : Bool := s.data.toList.all Hx.isDig
theorem allD_step (s : ByteArray) (k : Nat) (h : k < s.size) : ((s.data.toList.take (k + 1)).all Hx.isDig) = ((s.data.toList.take k).all Hx.isDig && Hx.isDig s[k]) := by
  rw [List.take_succ_eq_append_getElem (by simpa using h)]
  simp [List.all_append]; rfl
theorem allD_no (s : ByteArray) (k : Nat) (h : k < s.size) (hn : Hx.isDig s[k] = false) : allD s = false := by
  unfold allD
  rw [List.all_eq_false]
  exact ⟨s[k], by simp [ByteArray.getElem_eq_getElem_data], by simp [hn]⟩

set_option maxHeartbeats 400000 in
theorem hex_allDigits (s : ByteArray) (w : World) (hs : s.size ≤ maxLen) :
    Calls Tryd.prog 29 #[.string s] w fun e w' => e = .returned (.bool (allD s)) ∧ w = w' := by
  unfold maxLen at hs
  go_enter Tryd.func29, Tryd.ntmps29
  go_wp2
  go_loop [8] (fun i => ∃ k : Nat, k ≤ s.size ∧ i = .int .i64 k ∧ Hid ((s.data.toList.take k).all Hx.isDig = true)) (fun i => s.size - (intOf i).toNat)
  case atStart => exact ⟨0, Nat.zero_le _, rfl, Lib.hid rfl⟩
  case round =>
    obtain ⟨k, hk, rfl, H⟩ := hrel
    by_cases hlt : k < s.size
    · cases hd : Hx.isDig s[k]
      · have Hn := Lib.hid (allD_no s k hlt hd)
        go_wp2_with (go_at_call 44; refine (hex_value _ _).mono ?_; rintro e w' ⟨rfl, rfl⟩)
        go_ret
        exact ⟨by rw [Hn.out]; rfl, rfl⟩
      · have Hn := Lib.hid (show (s.data.toList.take (k + 1)).all Hx.isDig = true by rw [allD_step s k hlt, H.out, hd]; rfl)
        go_wp2_with (go_at_call 44; refine (hex_value _ _).mono ?_; rintro e w' ⟨rfl, rfl⟩)
        go_round
        case rel => exact ⟨k + 1, by omega, by go_num, Hn⟩
        case measure => simp [intOf]; omega
    · go_wp2
      go_ret
      exact ⟨by unfold allD; rw [← H.out, List.take_of_length_le (by simp; omega)]; rfl, rfl⟩

theorem allD_err (s : ByteArray) : Hx.checkErr s.data.toList = if s.size ≠ 64 then 1 else if allD s = false then 3 else 0 := by
  simp [Hx.checkErr, allD]

set_option maxHeartbeats 400000 in
theorem hex_Check (s : ByteArray) (w : World) (hs : s.size ≤ maxLen) :
    Calls Tryd.prog 10 #[.string s] w fun e w' => e = .returned (.int .i64 (Hx.checkErr s.data.toList : Int)) ∧ w = w' := by
  rw [allD_err]
  have hs' := hs
  unfold maxLen at hs'
  generalize hz : (if s.size ≠ 64 then 1 else if allD s = false then 3 else 0 : Nat) = r
  have Hz := Lib.hid hz
  clear hz
  by_cases h : s.size = 64
  · have h1 : ((s.size : Int) != 64) = false := by simp [h]
    have H := Lib.hid h
    clear h
    cases hd : allD s <;>
    · have Hd := Lib.hid hd
      go_enter Tryd.func10, Tryd.ntmps10
      go_wp2_with (go_at_call 29; refine (hex_allDigits _ _ hs).mono ?_; rintro e w' ⟨rfl, rfl⟩)
      go_ret
      exact ⟨ret_int (by rw [← Hz.out]; simp [H.out, Hd.out]), rfl⟩
  · have h1 : ((s.size : Int) != 64) = true := by simp; omega
    go_enter Tryd.func10, Tryd.ntmps10
    go_wp2
    go_ret
    exact ⟨ret_int (by rw [← Hz.out]; simp [h]), rfl⟩
end Go.Proofs.YtjdflnnpamjjcaaDoor
