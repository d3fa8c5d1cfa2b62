/- The contracts of line.Check and what it calls. -/
import Derived.Test.YthlagpmacnijfaaGreatDoorLineMem
import Derived.Test.YthlagpmacnijfaaGreatDoorStructMem
import Derived.Shelf.Abstract
namespace Go.Proofs.YthlagpmacnijfaaGreatDoor
open Go.RowKit

/-- The function F tells of a byte what P tells. -/
def MayAt (F : Nat) (P : UInt8 → Bool) : Prop := (∀ (args : Array Value) (W : World), (callFunc F args).run Tryz.prog W = .ok (.enter F args) W) ∧ ∀ (c : UInt8) (W : World), Calls Tryz.prog F #[.int .u8 (c.toNat : Int)] W fun e W' => e = .returned (.bool (P c)) ∧ W' = W

set_option maxHeartbeats 400000 in
theorem line_inKey (c : UInt8) (w : World) : Calls Tryz.prog 65 #[.int .u8 (c.toNat : Int)] w fun e w' => e = .returned (.bool (Ln.inKey c)) ∧ w' = w := by
  have hc := c.toNat_lt
  by_cases h1 : 97 ≤ c.toNat
  · have d1 : decide ((97 : Int) ≤ (c.toNat : Int)) = true := decide_eq_true (by omega)
    by_cases h2 : c.toNat ≤ 122
    · have d2 : decide ((c.toNat : Int) ≤ 122) = true := decide_eq_true (by omega)
      have He := Lib.hid (show Ln.inKey c = true by unfold Ln.inKey; rw [decide_eq_true ⟨h1, h2⟩]; rfl)
      clear h1 h2
      go_enter Tryz.func65, Tryz.ntmps65
      go_wp2
      go_ret
      rw [He.out]
      exact ⟨rfl, rfl⟩
    · have d2 : decide ((c.toNat : Int) ≤ 122) = false := decide_eq_false (by omega)
      have d3 : ((c.toNat : Int) == 95) = false := by simp; omega
      have He := Lib.hid (show Ln.inKey c = false by unfold Ln.inKey; rw [decide_eq_false (by omega), decide_eq_false (by omega)]; rfl)
      clear h1 h2
      go_enter Tryz.func65, Tryz.ntmps65
      go_wp2
      go_ret
      rw [He.out]
      exact ⟨rfl, rfl⟩
  · have d1 : decide ((97 : Int) ≤ (c.toNat : Int)) = false := decide_eq_false (by omega)
    by_cases h2 : c.toNat = 95
    · have d3 : ((c.toNat : Int) == 95) = true := by simp; omega
      have He := Lib.hid (show Ln.inKey c = true by unfold Ln.inKey; rw [decide_eq_true h2, Bool.or_true])
      clear h1 h2
      go_enter Tryz.func65, Tryz.ntmps65
      go_wp2
      go_ret
      rw [He.out]
      exact ⟨rfl, rfl⟩
    · have d3 : ((c.toNat : Int) == 95) = false := by simp; omega
      have He := Lib.hid (show Ln.inKey c = false by unfold Ln.inKey; rw [decide_eq_false (by omega), decide_eq_false h2]; rfl)
      clear h1 h2
      go_enter Tryz.func65, Tryz.ntmps65
      go_wp2
      go_ret
      rw [He.out]
      exact ⟨rfl, rfl⟩
set_option maxHeartbeats 400000 in
theorem line_inValue (c : UInt8) (w : World) : Calls Tryz.prog 66 #[.int .u8 (c.toNat : Int)] w fun e w' => e = .returned (.bool (Ln.inVal c)) ∧ w' = w := by
  have hc := c.toNat_lt
  by_cases h1 : 33 ≤ c.toNat
  · have d1 : decide ((33 : Int) ≤ (c.toNat : Int)) = true := decide_eq_true (by omega)
    by_cases h2 : c.toNat ≤ 126
    · have d2 : decide ((c.toNat : Int) ≤ 126) = true := decide_eq_true (by omega)
      have He := Lib.hid (show Ln.inVal c = true by unfold Ln.inVal; rw [decide_eq_true ⟨h1, h2⟩])
      clear h1 h2
      go_enter Tryz.func66, Tryz.ntmps66
      go_wp2
      go_ret
      rw [He.out]
      exact ⟨rfl, rfl⟩
    · have d2 : decide ((c.toNat : Int) ≤ 126) = false := decide_eq_false (by omega)
      have He := Lib.hid (show Ln.inVal c = false by unfold Ln.inVal; rw [decide_eq_false (by omega)])
      clear h1 h2
      go_enter Tryz.func66, Tryz.ntmps66
      go_wp2
      go_ret
      rw [He.out]
      exact ⟨rfl, rfl⟩
  · have d1 : decide ((33 : Int) ≤ (c.toNat : Int)) = false := decide_eq_false (by omega)
    have He := Lib.hid (show Ln.inVal c = false by unfold Ln.inVal; rw [decide_eq_false (by omega)])
    clear h1
    go_enter Tryz.func66, Tryz.ntmps66
    go_wp2
    go_ret
    rw [He.out]
    exact ⟨rfl, rfl⟩
theorem may_inKey : MayAt 65 Ln.inKey := ⟨enters_of Tryz.func65 (by kernel_rfl) rfl, line_inKey⟩
theorem may_inValue : MayAt 66 Ln.inVal := ⟨enters_of Tryz.func66 (by kernel_rfl) rfl, line_inValue⟩

set_option maxHeartbeats 800000 in
theorem line_all (F : Nat) (P : UInt8 → Bool) (hF : MayAt F P) (s : ByteArray) (w : World) (hs : s.size ≤ 1000) :
    Calls Tryz.prog 64 #[.string s, .func (.func F) #[] #[]] w fun e w' => e = .returned (.bool (s.data.toList.all P)) ∧ w' = w := by
  have hent := hF.1
  have HF := Lib.hid hF.2
  have hsl : s.data.toList.length = s.size := by simp
  have Hsl := Lib.hid hsl
  clear hF hsl
  go_enter Tryz.func64, Tryz.ntmps64
  go_wp2
  go_loopw [8] (fun i wr => ∃ k : Nat, k ≤ s.size ∧ i = .int .i64 k ∧ Hid ((s.data.toList.take k).all P = true) ∧ wr = w) (fun i _ => s.size - (intOf i).toNat)
  case atStart => exact ⟨0, Nat.zero_le _, rfl, Lib.hid (by simp), rfl⟩
  case round =>
    obtain ⟨k, hk, rfl, Ha, hw⟩ := hrel
    have Hw := Lib.hid hw
    clear hw
    by_cases hlt : k < s.size
    · have hkl : k < s.data.toList.length := by rw [Hsl.out]; exact hlt
      have HC := Lib.hid (HF.out s[k] wr)
      have Ht : Hid (s.data.toList.take (k + 1) = s.data.toList.take k ++ [s[k]]) := Lib.hid (List.take_succ_eq_append_getElem hkl)
      have Hm : Hid (s[k] ∈ s.data.toList) := Lib.hid (List.getElem_mem hkl)
      cases hp : P s[k] with
      | true =>
        rw [hp] at HC
        have Hr := Lib.hid (show (s.data.toList.take (k + 1)).all P = true by rw [Ht.out, List.all_append, Ha.out]; simp [hp])
        clear hp
        go_wp2_with fail
        refine HC.out.mono ?_
        rintro e w2 ⟨rfl, rfl⟩
        go_wp2
        go_roundw
        case rel => exact ⟨k + 1, by omega, by go_num, Hr, Hw.out⟩
        case measure => simp [intOf]; omega
      | false =>
        rw [hp] at HC
        have Hr := Lib.hid (show s.data.toList.all P = false by rw [List.all_eq_false]; exact ⟨s[k], Hm.out, by simp [hp]⟩)
        clear hp
        go_wp2_with fail
        refine HC.out.mono ?_
        rintro e w2 ⟨rfl, rfl⟩
        go_wp2
        go_ret
        rw [Hr.out]
        exact ⟨rfl, Hw.out⟩
    · have Hr := Lib.hid (show s.data.toList.all P = true by
        have h := Ha.out
        rwa [List.take_of_length_le (by rw [Hsl.out]; omega)] at h)
      clear Ha
      go_wp2
      go_ret
      rw [Hr.out]
      exact ⟨rfl, Hw.out⟩

/-- The three tests of a line's sizes, as the walks meet them. -/
theorem sized_cases (x : Ln.L) : (Ln.sized x = false ∧ (x.k.toList.isEmpty = true ∨ (x.k.toList.isEmpty = false ∧ decide ((30 : Int) < (x.k.size : Int)) = true) ∨ (x.k.toList.isEmpty = false ∧ decide ((30 : Int) < (x.k.size : Int)) = false ∧ decide ((70 : Int) < (x.v.size : Int)) = true))) ∨
    (Ln.sized x = true ∧ x.k.toList.isEmpty = false ∧ decide ((30 : Int) < (x.k.size : Int)) = false ∧ decide ((70 : Int) < (x.v.size : Int)) = false ∧ x.k.size ≤ 30 ∧ x.v.size ≤ 70) := by
  have he : x.k.toList.isEmpty = decide (x.k.size = 0) := by
    rw [ByteArray.toList_eq]
    have : x.k.data.toList.length = x.k.size := by simp
    cases h : x.k.data.toList with
    | nil =>
      have hz : x.k.size = 0 := by rw [h] at this; exact this.symm
      rw [hz]; rfl
    | cons a r =>
      have hz : x.k.size ≠ 0 := by rw [h, List.length_cons] at this; omega
      rw [decide_eq_false hz]; rfl
  rw [he]
  unfold Ln.sized
  by_cases h1 : x.k.size = 0
  · exact .inl ⟨by simp [h1], .inl (by simp [h1])⟩
  by_cases h2 : x.k.size ≤ 30
  · by_cases h3 : x.v.size ≤ 70
    · exact .inr ⟨by simp [h2, h3]; omega, by simp [h1], by simp; omega, by simp; omega, h2, h3⟩
    · exact .inl ⟨by simp [h3], .inr (.inr ⟨by simp [h1], by simp; omega, by simp; omega⟩)⟩
  · exact .inl ⟨by simp [h2], .inr (.inl ⟨by simp [h1], by simp; omega⟩)⟩

set_option maxHeartbeats 800000 in
theorem line_Check (x : Ln.L) (w : World) : Calls Tryz.prog 41 #[lineV x] w fun e w' => e = .returned (.int .i64 (Ln.err x : Int)) ∧ Below w.heap.size w w' := by
  obtain ⟨k, v⟩ := x
  have HC := Lib.hid (sized_cases ⟨k, v⟩)
  obtain ⟨w1, hw1⟩ : ∃ w1, w1 = w.alloc (.cells #[.string k, .string v] 23) := ⟨_, rfl⟩
  have hB : Below w.heap.size w w1 := by rw [hw1]; exact (Below.refl _ _).alloc (Nat.le_refl _) _
  have HB := Lib.hid hB
  have hb : Blk w1 w.heap.size 23 [.string k, .string v] := by rw [hw1]; exact Blk.new _ _ _
  have c0 := hb.cell 0 rfl
  have c1 := hb.cell 1 rfl
  clear hB hb
  unfold lineV
  rcases HC.out with ⟨hz, h⟩ | ⟨hz, d0, d1, d2, z1, z2⟩
  · have Hr := Lib.hid (Ln.err_size hz)
    clear HC hz
    rcases h with d0 | ⟨d0, d1⟩ | ⟨d0, d1, d2⟩
    all_goals
      go_enter Tryz.func41, Tryz.ntmps41
      go_wp2
      rw [← hw1]
      go_ret
      rw [Hr.out]
      exact ⟨rfl, HB.out⟩
  · clear HC
    have HK := Lib.hid (line_all _ _ may_inKey k w1 (Nat.le_trans z1 (by decide)))
    have HV := Lib.hid (line_all _ _ may_inValue v w1 (Nat.le_trans z2 (by decide)))
    cases hk : k.data.toList.all Ln.inKey with
    | false =>
      have Hr := Lib.hid (Ln.err_form hz (show Ln.formed ⟨k, v⟩ = false by unfold Ln.formed; rw [hk]; rfl))
      rw [hk] at HK
      clear hz hk HV
      go_enter Tryz.func41, Tryz.ntmps41
      go_wp2_with fail
      rw [← hw1]
      clear hw1
      refine HK.out.mono ?_
      rintro e w2 ⟨rfl, rfl⟩
      go_wp2
      go_ret
      rw [Hr.out]
      exact ⟨rfl, HB.out⟩
    | true =>
      rw [hk] at HK
      cases hv : v.data.toList.all Ln.inVal with
      | false =>
        have Hr := Lib.hid (Ln.err_form hz (show Ln.formed ⟨k, v⟩ = false by unfold Ln.formed; rw [hv, Bool.and_false]))
        rw [hv] at HV
        clear hz hk hv
        go_enter Tryz.func41, Tryz.ntmps41
        go_wp2_with fail
        rw [← hw1]
        clear hw1
        refine HK.out.mono ?_
        rintro e w2 ⟨rfl, rfl⟩
        go_wp2_with fail
        refine HV.out.mono ?_
        rintro e w2 ⟨rfl, rfl⟩
        go_wp2
        go_ret
        rw [Hr.out]
        exact ⟨rfl, HB.out⟩
      | true =>
        have Hr := Lib.hid (Ln.err_ok hz (show Ln.formed ⟨k, v⟩ = true by unfold Ln.formed; rw [hk, hv]; rfl))
        rw [hv] at HV
        clear hz hk hv
        go_enter Tryz.func41, Tryz.ntmps41
        go_wp2_with fail
        rw [← hw1]
        clear hw1
        refine HK.out.mono ?_
        rintro e w2 ⟨rfl, rfl⟩
        go_wp2_with fail
        refine HV.out.mono ?_
        rintro e w2 ⟨rfl, rfl⟩
        go_wp2
        go_ret
        rw [Hr.out]
        exact ⟨rfl, HB.out⟩
end Go.Proofs.YthlagpmacnijfaaGreatDoor
