/- The contract of the reference's LineFault. -/
import Derived.Test.YtldfamdjdkaloabDoorLineCode1
import Derived.Test.YtldfamdjdkaloabDoorConv
namespace Go.Proofs.YtldfamdjdkaloabDoor
open Go.RowKit

theorem key_cases (c : UInt8) : (Ln.inKey c = true ∧ ((c.toNat : Int) != 95) = false) ∨ (Ln.inKey c = true ∧ ((c.toNat : Int) != 95) = true ∧ decide ((c.toNat : Int) < 97) = false ∧ decide ((122 : Int) < (c.toNat : Int)) = false) ∨
    (Ln.inKey c = false ∧ ((c.toNat : Int) != 95) = true ∧ decide ((c.toNat : Int) < 97) = true) ∨ (Ln.inKey c = false ∧ ((c.toNat : Int) != 95) = true ∧ decide ((c.toNat : Int) < 97) = false ∧ decide ((122 : Int) < (c.toNat : Int)) = true) := by
  by_cases h : c.toNat = 95
  · exact .inl ⟨by unfold Ln.inKey; rw [decide_eq_true h, Bool.or_true], by simp; omega⟩
  have h0 : ((c.toNat : Int) != 95) = true := by simp; omega
  by_cases h1 : 97 ≤ c.toNat
  · by_cases h2 : c.toNat ≤ 122
    · exact .inr (.inl ⟨by unfold Ln.inKey; rw [decide_eq_true ⟨h1, h2⟩]; rfl, h0, decide_eq_false (by omega), decide_eq_false (by omega)⟩)
    · exact .inr (.inr (.inr ⟨by unfold Ln.inKey; rw [decide_eq_false (by omega), decide_eq_false h]; rfl, h0, decide_eq_false (by omega), decide_eq_true (by omega)⟩))
  · exact .inr (.inr (.inl ⟨by unfold Ln.inKey; rw [decide_eq_false (by omega), decide_eq_false h]; rfl, h0, decide_eq_true (by omega)⟩))
theorem val_cases (c : UInt8) : (Ln.inVal c = true ∧ decide ((c.toNat : Int) < 33) = false ∧ decide ((126 : Int) < (c.toNat : Int)) = false) ∨ (Ln.inVal c = false ∧ decide ((c.toNat : Int) < 33) = true) ∨
    (Ln.inVal c = false ∧ decide ((c.toNat : Int) < 33) = false ∧ decide ((126 : Int) < (c.toNat : Int)) = true) := by
  unfold Ln.inVal
  by_cases h1 : 33 ≤ c.toNat
  · by_cases h2 : c.toNat ≤ 126
    · exact .inl ⟨decide_eq_true ⟨h1, h2⟩, decide_eq_false (by omega), decide_eq_false (by omega)⟩
    · exact .inr (.inr ⟨decide_eq_false (by omega), decide_eq_false (by omega), decide_eq_true (by omega)⟩)
  · exact .inr (.inl ⟨decide_eq_false (by omega), decide_eq_true (by omega)⟩)
theorem all_step {P : UInt8 → Bool} (s : ByteArray) (k : Nat) (hk : k < s.size) (ha : (s.data.toList.take k).all P = true) (hp : P s[k] = true) : (s.data.toList.take (k + 1)).all P = true := by
  have e : s.data.toList.take (k + 1) = s.data.toList.take k ++ [s[k]] := List.take_succ_eq_append_getElem (by simpa using hk)
  rw [e, List.all_append, ha]; simp [hp]
theorem all_no {P : UInt8 → Bool} (s : ByteArray) (k : Nat) (hk : k < s.size) (hp : P s[k] = false) : s.data.toList.all P = false := by
  rw [List.all_eq_false]
  exact ⟨s[k], List.getElem_mem (l := s.data.toList) (by simpa using hk), by simp [hp]⟩
theorem all_end {P : UInt8 → Bool} (s : ByteArray) (k : Nat) (hk : ¬ k < s.size) (ha : (s.data.toList.take k).all P = true) : s.data.toList.all P = true := by
  rwa [List.take_of_length_le (by simp; omega)] at ha

set_option maxRecDepth 20000 in
set_option maxHeartbeats 1600000 in
theorem ref_LineFault (x : Ln.L) (w : World) : Calls Tryd.prog 8 #[lineV x] w fun e w' => e = .returned (.int .i64 (Ln.err x : Int)) ∧ Below w.heap.size w w' := by
  obtain ⟨s, v⟩ := x
  have HC := Lib.hid (sized_cases ⟨s, v⟩)
  obtain ⟨w1, hw1⟩ : ∃ w1, w1 = w.alloc (.cells #[.string s, .string v] 23) := ⟨_, rfl⟩
  have hB : Below w.heap.size w w1 := by rw [hw1]; exact (Below.refl _ _).alloc (Nat.le_refl _) _
  have HB := Lib.hid hB
  have hb : Blk w1 w.heap.size 23 [.string s, .string v] := by rw [hw1]; exact Blk.new _ _ _
  have Hb := Lib.hid hb
  have c0 := hb.cell 0 rfl
  have c1 := hb.cell 1 rfl
  clear hB hb
  unfold lineV
  rcases HC.out with ⟨hz, h⟩ | ⟨hz, d0, d1, d2, z1, z2⟩
  · have Hr := Lib.hid (Ln.err_size hz)
    clear HC hz
    rcases h with d0 | ⟨d0, d1⟩ | ⟨d0, d1, d2⟩
    all_goals
      go_enter Tryd.func8, Tryd.ntmps8
      go_wp2
      rw [← hw1]
      go_ret
      rw [Hr.out]
      exact ⟨rfl, HB.out⟩
  · clear HC
    obtain ⟨w2, cap, hrun, hsz2, hbel2, hcs2⟩ := conv_string s w1
    have Hcs := Lib.hid hcs2
    have HB2 := Lib.hid (HB.out.trans (hbel2.mono HB.out.size))
    have Hb2 := Lib.hid (Hb.out.kept hbel2)
    have Hz := Lib.hid hz
    have hsm : s.size ≤ 30 := z1
    clear hsz2 hbel2 hcs2 z1 z2 hz
    obtain ⟨g1, hg1⟩ : ∃ g1, g1 = w1.heap.size := ⟨_, rfl⟩
    rw [← hg1] at hrun Hcs
    rw [hw1] at hrun
    clear hw1 hg1 c0 c1
    go_enter Tryd.func8, Tryd.ntmps8
    go_wp2
    clear hrun
    go_loopw [4, 26] (fun c i wr => ∃ k : Nat, k ≤ s.size ∧ i = .int .i64 k ∧ Hid ((s.data.toList.take k).all Ln.inKey = true) ∧ Hid (wr = w2)) (fun _ i _ => s.size - (intOf i).toNat)
    case atStart => exact ⟨0, Nat.zero_le _, rfl, Lib.hid (by simp), Lib.hid rfl⟩
    case round =>
      obtain ⟨k, hk, rfl, Ha, Hw⟩ := hrel
      by_cases hlt : k < s.size
      · have hcell : wr.cell? ⟨g1, k, none⟩ = some (.int .u8 (s[k].toNat : Int)) := by rw [Hw.out]; exact Hcs.out k hlt
        have Hst := Lib.hid (fun hp => all_step (P := Ln.inKey) s k hlt Ha.out hp)
        have Hno := Lib.hid (fun hp => Ln.err_form (x := ⟨s, v⟩) Hz.out (show Ln.formed ⟨s, v⟩ = false by unfold Ln.formed; rw [all_no s k hlt hp]; rfl))
        have KC := Lib.hid (key_cases s[k])
        generalize s[k] = c at *
        rcases KC.out with ⟨hp, e0⟩ | ⟨hp, e0, e1, e2⟩ | ⟨hp, e0, e1⟩ | ⟨hp, e0, e1, e2⟩
        · have Hn := Lib.hid (Hst.out hp)
          clear KC hp Hst Hno
          go_wp2
          go_roundw
          case rel => exact ⟨k + 1, by omega, by go_num, Hn, Hw⟩
          case measure => simp [intOf]; omega
        · have Hn := Lib.hid (Hst.out hp)
          clear KC hp Hst Hno
          go_wp2
          go_roundw
          case rel => exact ⟨k + 1, by omega, by go_num, Hn, Hw⟩
          case measure => simp [intOf]; omega
        · have Hn := Lib.hid (Hno.out hp)
          clear KC hp Hst Hno
          go_wp2
          go_ret
          rw [Hn.out]
          exact ⟨rfl, by rw [Hw.out]; exact HB2.out⟩
        · have Hn := Lib.hid (Hno.out hp)
          clear KC hp Hst Hno
          go_wp2
          go_ret
          rw [Hn.out]
          exact ⟨rfl, by rw [Hw.out]; exact HB2.out⟩
      · have Hk := Lib.hid (all_end s k hlt Ha.out)
        obtain ⟨w3, cap3, hrun3, hsz3, hbel3, hcs3⟩ := conv_string v wr
        have c0 : wr.cell? ⟨w.heap.size, 1, none⟩ = some (.string v) := by rw [Hw.out]; exact Hb2.out.cell 1 rfl
        have Hcs3 := Lib.hid hcs3
        have HB3 := Lib.hid (show Below w.heap.size w w3 by rw [Hw.out] at hbel3; exact HB2.out.trans (hbel3.mono HB2.out.size))
        have hvm : v.size ≤ 70 := by have : ¬ (70 : Int) < (v.size : Int) := of_decide_eq_false d2; omega
        clear hsz3 hbel3 hcs3 Ha Hcs
        obtain ⟨g3, hg3⟩ : ∃ g3, g3 = wr.heap.size := ⟨_, rfl⟩
        rw [← hg3] at hrun3 Hcs3
        clear hg3
        go_wp2
        clear hrun3 c0
        go_loopw [6, 45] (fun c i wr => ∃ k : Nat, k ≤ v.size ∧ i = .int .i64 k ∧ Hid ((v.data.toList.take k).all Ln.inVal = true) ∧ Hid (wr = w3)) (fun _ i _ => v.size - (intOf i).toNat)
        case atStart => exact ⟨0, Nat.zero_le _, rfl, Lib.hid (by simp), Lib.hid rfl⟩
        case round =>
          obtain ⟨j, hj, rfl, Ha, Hw3⟩ := hrel
          obtain ⟨wo, hwo⟩ : ∃ wo, wo = wr := ⟨_, rfl⟩
          subst hwo
          by_cases hlt3 : j < v.size
          · have hcell : wo.cell? ⟨g3, j, none⟩ = some (.int .u8 (v[j].toNat : Int)) := by rw [Hw3.out]; exact Hcs3.out j hlt3
            have Hst := Lib.hid (fun hp => all_step (P := Ln.inVal) v j hlt3 Ha.out hp)
            have Hno := Lib.hid (fun hp => Ln.err_form (x := ⟨s, v⟩) Hz.out (show Ln.formed ⟨s, v⟩ = false by unfold Ln.formed; rw [all_no v j hlt3 hp, Bool.and_false]))
            have KC := Lib.hid (val_cases v[j])
            generalize v[j] = c at *
            rcases KC.out with ⟨hp, e0, e1⟩ | ⟨hp, e0⟩ | ⟨hp, e0, e1⟩
            · have Hn := Lib.hid (Hst.out hp)
              clear KC hp Hst Hno
              go_wp2
              go_roundw
              case rel => exact ⟨j + 1, by omega, by go_num, Hn, Hw3⟩
              case measure => simp [intOf]; omega
            · have Hn := Lib.hid (Hno.out hp)
              clear KC hp Hst Hno
              go_wp2
              go_ret
              rw [Hn.out]
              exact ⟨rfl, by rw [Hw3.out]; exact HB3.out⟩
            · have Hn := Lib.hid (Hno.out hp)
              clear KC hp Hst Hno
              go_wp2
              go_ret
              rw [Hn.out]
              exact ⟨rfl, by rw [Hw3.out]; exact HB3.out⟩
          · have Hn := Lib.hid (Ln.err_ok (x := ⟨s, v⟩) Hz.out (show Ln.formed ⟨s, v⟩ = true by unfold Ln.formed; rw [Hk.out, all_end v j hlt3 Ha.out]; rfl))
            go_wp2
            go_ret
            rw [Hn.out]
            exact ⟨rfl, by rw [Hw3.out]; exact HB3.out⟩
end Go.Proofs.YtldfamdjdkaloabDoor
