/- The contract of addr.Number. -/
import Derived.Test.YthlagpmacnijfaaGreatDoorLineMem
import Derived.Test.YthlagpmacnijfaaGreatDoorStructMem
import Derived.Shelf.Abstract
import Derived.Test.YthlagpmacnijfaaGreatDoorConv
import Derived.Test.YthlagpmacnijfaaGreatDoorLinePlain2
import Derived.Lib.Join
import Derived.Laws.MakeOwn
import Derived.Deep.OwnRows
import Derived.Test.YthlagpmacnijfaaGreatDoorBatchPlain
import Derived.Test.YthlagpmacnijfaaGreatDoorBatchMem
import Derived.Test.YthlagpmacnijfaaGreatDoorBatchRef5
import Derived.Test.YthlagpmacnijfaaGreatDoorRows
import Derived.Test.YthlagpmacnijfaaGreatDoorMem
import Derived.Test.YthlagpmacnijfaaGreatDoorAddrPlain
import Derived.Lib.Strings
namespace Go.Proofs.YthlagpmacnijfaaGreatDoor
open Go.RowKit

/-- The function F tells of a byte what P tells. -/
def MayAt (F : Nat) (P : UInt8 → Bool) : Prop := (∀ (args : Array Value) (W : World), (callFunc F args).run Tryz.prog W = .ok (.enter F args) W) ∧ ∀ (c : UInt8) (W : World), Calls Tryz.prog F #[.int .u8 (c.toNat : Int)] W fun e W' => e = .returned (.bool (P c)) ∧ W' = W

set_option maxHeartbeats 400000 in
theorem line_inKey (c : UInt8) (w : World) : Calls Tryz.prog 65 #[.int .u8 (c.toNat : Int)] w fun e w' => e = .returned (.bool (Ln.inKey c)) ∧ w' = w := by
  have hc := c.toNat_lt
  by_cases h1 : 97 ≤ c.toNat
  · have d1 : decide ((97 : Int) ≤ (c.toNat : Int)) = true := decide_eq_true (by omega)
    by_cases h2 : c.toNat ≤ 122
    · have d2 : decide ((c.toNat : Int) ≤ 122) = true := decide_eq_true (by omega)
      have He := Lib.hid (show Ln.inKey c = true by unfold Ln.inKey; rw [decide_eq_true ⟨h1, h2⟩]; rfl)
      clear h1 h2
      go_enter Tryz.func65, Tryz.ntmps65
      go_wp2
      go_ret
      rw [He.out]
      exact ⟨rfl, rfl⟩
    · have d2 : decide ((c.toNat : Int) ≤ 122) = false := decide_eq_false (by omega)
      have d3 : ((c.toNat : Int) == 95) = false := by simp; omega
      have He := Lib.hid (show Ln.inKey c = false by unfold Ln.inKey; rw [decide_eq_false (by omega), decide_eq_false (by omega)]; rfl)
      clear h1 h2
      go_enter Tryz.func65, Tryz.ntmps65
      go_wp2
      go_ret
      rw [He.out]
      exact ⟨rfl, rfl⟩
  · have d1 : decide ((97 : Int) ≤ (c.toNat : Int)) = false := decide_eq_false (by omega)
    by_cases h2 : c.toNat = 95
    · have d3 : ((c.toNat : Int) == 95) = true := by simp; omega
      have He := Lib.hid (show Ln.inKey c = true by unfold Ln.inKey; rw [decide_eq_true h2, Bool.or_true])
      clear h1 h2
      go_enter Tryz.func65, Tryz.ntmps65
      go_wp2
      go_ret
      rw [He.out]
      exact ⟨rfl, rfl⟩
    · have d3 : ((c.toNat : Int) == 95) = false := by simp; omega
      have He := Lib.hid (show Ln.inKey c = false by unfold Ln.inKey; rw [decide_eq_false (by omega), decide_eq_false h2]; rfl)
      clear h1 h2
      go_enter Tryz.func65, Tryz.ntmps65
      go_wp2
      go_ret
      rw [He.out]
      exact ⟨rfl, rfl⟩
set_option maxHeartbeats 400000 in
theorem line_inValue (c : UInt8) (w : World) : Calls Tryz.prog 66 #[.int .u8 (c.toNat : Int)] w fun e w' => e = .returned (.bool (Ln.inVal c)) ∧ w' = w := by
  have hc := c.toNat_lt
  by_cases h1 : 33 ≤ c.toNat
  · have d1 : decide ((33 : Int) ≤ (c.toNat : Int)) = true := decide_eq_true (by omega)
    by_cases h2 : c.toNat ≤ 126
    · have d2 : decide ((c.toNat : Int) ≤ 126) = true := decide_eq_true (by omega)
      have He := Lib.hid (show Ln.inVal c = true by unfold Ln.inVal; rw [decide_eq_true ⟨h1, h2⟩])
      clear h1 h2
      go_enter Tryz.func66, Tryz.ntmps66
      go_wp2
      go_ret
      rw [He.out]
      exact ⟨rfl, rfl⟩
    · have d2 : decide ((c.toNat : Int) ≤ 126) = false := decide_eq_false (by omega)
      have He := Lib.hid (show Ln.inVal c = false by unfold Ln.inVal; rw [decide_eq_false (by omega)])
      clear h1 h2
      go_enter Tryz.func66, Tryz.ntmps66
      go_wp2
      go_ret
      rw [He.out]
      exact ⟨rfl, rfl⟩
  · have d1 : decide ((33 : Int) ≤ (c.toNat : Int)) = false := decide_eq_false (by omega)
    have He := Lib.hid (show Ln.inVal c = false by unfold Ln.inVal; rw [decide_eq_false (by omega)])
    clear h1
    go_enter Tryz.func66, Tryz.ntmps66
    go_wp2
    go_ret
    rw [He.out]
    exact ⟨rfl, rfl⟩
theorem may_inKey : MayAt 65 Ln.inKey := ⟨enters_of Tryz.func65 (by kernel_rfl) rfl, line_inKey⟩
theorem may_inValue : MayAt 66 Ln.inVal := ⟨enters_of Tryz.func66 (by kernel_rfl) rfl, line_inValue⟩

set_option maxHeartbeats 800000 in
theorem line_all (F : Nat) (P : UInt8 → Bool) (hF : MayAt F P) (s : ByteArray) (w : World) (hs : s.size ≤ 1000) :
    Calls Tryz.prog 64 #[.string s, .func (.func F) #[] #[]] w fun e w' => e = .returned (.bool (s.data.toList.all P)) ∧ w' = w := by
  have hent := hF.1
  have HF := Lib.hid hF.2
  have hsl : s.data.toList.length = s.size := by simp
  have Hsl := Lib.hid hsl
  clear hF hsl
  go_enter Tryz.func64, Tryz.ntmps64
  go_wp2
  go_loopw [8] (fun i wr => ∃ k : Nat, k ≤ s.size ∧ i = .int .i64 k ∧ Hid ((s.data.toList.take k).all P = true) ∧ wr = w) (fun i _ => s.size - (intOf i).toNat)
  case atStart => exact ⟨0, Nat.zero_le _, rfl, Lib.hid (by simp), rfl⟩
  case round =>
    obtain ⟨k, hk, rfl, Ha, hw⟩ := hrel
    have Hw := Lib.hid hw
    clear hw
    by_cases hlt : k < s.size
    · have hkl : k < s.data.toList.length := by rw [Hsl.out]; exact hlt
      have HC := Lib.hid (HF.out s[k] wr)
      have Ht : Hid (s.data.toList.take (k + 1) = s.data.toList.take k ++ [s[k]]) := Lib.hid (List.take_succ_eq_append_getElem hkl)
      have Hm : Hid (s[k] ∈ s.data.toList) := Lib.hid (List.getElem_mem hkl)
      cases hp : P s[k] with
      | true =>
        rw [hp] at HC
        have Hr := Lib.hid (show (s.data.toList.take (k + 1)).all P = true by rw [Ht.out, List.all_append, Ha.out]; simp [hp])
        clear hp
        go_wp2_with fail
        refine HC.out.mono ?_
        rintro e w2 ⟨rfl, rfl⟩
        go_wp2
        go_roundw
        case rel => exact ⟨k + 1, by omega, by go_num, Hr, Hw.out⟩
        case measure => simp [intOf]; omega
      | false =>
        rw [hp] at HC
        have Hr := Lib.hid (show s.data.toList.all P = false by rw [List.all_eq_false]; exact ⟨s[k], Hm.out, by simp [hp]⟩)
        clear hp
        go_wp2_with fail
        refine HC.out.mono ?_
        rintro e w2 ⟨rfl, rfl⟩
        go_wp2
        go_ret
        rw [Hr.out]
        exact ⟨rfl, Hw.out⟩
    · have Hr := Lib.hid (show s.data.toList.all P = true by
        have h := Ha.out
        rwa [List.take_of_length_le (by rw [Hsl.out]; omega)] at h)
      clear Ha
      go_wp2
      go_ret
      rw [Hr.out]
      exact ⟨rfl, Hw.out⟩

/-- The three tests of a line's sizes, as the walks meet them. -/
theorem sized_cases (x : Ln.L) : (Ln.sized x = false ∧ (x.k.toList.isEmpty = true ∨ (x.k.toList.isEmpty = false ∧ decide ((30 : Int) < (x.k.size : Int)) = true) ∨ (x.k.toList.isEmpty = false ∧ decide ((30 : Int) < (x.k.size : Int)) = false ∧ decide ((70 : Int) < (x.v.size : Int)) = true))) ∨
    (Ln.sized x = true ∧ x.k.toList.isEmpty = false ∧ decide ((30 : Int) < (x.k.size : Int)) = false ∧ decide ((70 : Int) < (x.v.size : Int)) = false ∧ x.k.size ≤ 30 ∧ x.v.size ≤ 70) := by
  have he : x.k.toList.isEmpty = decide (x.k.size = 0) := by
    rw [ByteArray.toList_eq]
    have : x.k.data.toList.length = x.k.size := by simp
    cases h : x.k.data.toList with
    | nil =>
      have hz : x.k.size = 0 := by rw [h] at this; exact this.symm
      rw [hz]; rfl
    | cons a r =>
      have hz : x.k.size ≠ 0 := by rw [h, List.length_cons] at this; omega
      rw [decide_eq_false hz]; rfl
  rw [he]
  unfold Ln.sized
  by_cases h1 : x.k.size = 0
  · exact .inl ⟨by simp [h1], .inl (by simp [h1])⟩
  by_cases h2 : x.k.size ≤ 30
  · by_cases h3 : x.v.size ≤ 70
    · exact .inr ⟨by simp [h2, h3]; omega, by simp [h1], by simp; omega, by simp; omega, h2, h3⟩
    · exact .inl ⟨by simp [h3], .inr (.inr ⟨by simp [h1], by simp; omega, by simp; omega⟩)⟩
  · exact .inl ⟨by simp [h2], .inr (.inl ⟨by simp [h1], by simp; omega⟩)⟩

set_option maxHeartbeats 800000 in
theorem line_Check (x : Ln.L) (w : World) : Calls Tryz.prog 41 #[lineV x] w fun e w' => e = .returned (.int .i64 (Ln.err x : Int)) ∧ Below w.heap.size w w' := by
  obtain ⟨k, v⟩ := x
  have HC := Lib.hid (sized_cases ⟨k, v⟩)
  obtain ⟨w1, hw1⟩ : ∃ w1, w1 = w.alloc (.cells #[.string k, .string v] 23) := ⟨_, rfl⟩
  have hB : Below w.heap.size w w1 := by rw [hw1]; exact (Below.refl _ _).alloc (Nat.le_refl _) _
  have HB := Lib.hid hB
  have hb : Blk w1 w.heap.size 23 [.string k, .string v] := by rw [hw1]; exact Blk.new _ _ _
  have c0 := hb.cell 0 rfl
  have c1 := hb.cell 1 rfl
  clear hB hb
  unfold lineV
  rcases HC.out with ⟨hz, h⟩ | ⟨hz, d0, d1, d2, z1, z2⟩
  · have Hr := Lib.hid (Ln.err_size hz)
    clear HC hz
    rcases h with d0 | ⟨d0, d1⟩ | ⟨d0, d1, d2⟩
    all_goals
      go_enter Tryz.func41, Tryz.ntmps41
      go_wp2
      rw [← hw1]
      go_ret
      rw [Hr.out]
      exact ⟨rfl, HB.out⟩
  · clear HC
    have HK := Lib.hid (line_all _ _ may_inKey k w1 (Nat.le_trans z1 (by decide)))
    have HV := Lib.hid (line_all _ _ may_inValue v w1 (Nat.le_trans z2 (by decide)))
    cases hk : k.data.toList.all Ln.inKey with
    | false =>
      have Hr := Lib.hid (Ln.err_form hz (show Ln.formed ⟨k, v⟩ = false by unfold Ln.formed; rw [hk]; rfl))
      rw [hk] at HK
      clear hz hk HV
      go_enter Tryz.func41, Tryz.ntmps41
      go_wp2_with fail
      rw [← hw1]
      clear hw1
      refine HK.out.mono ?_
      rintro e w2 ⟨rfl, rfl⟩
      go_wp2
      go_ret
      rw [Hr.out]
      exact ⟨rfl, HB.out⟩
    | true =>
      rw [hk] at HK
      cases hv : v.data.toList.all Ln.inVal with
      | false =>
        have Hr := Lib.hid (Ln.err_form hz (show Ln.formed ⟨k, v⟩ = false by unfold Ln.formed; rw [hv, Bool.and_false]))
        rw [hv] at HV
        clear hz hk hv
        go_enter Tryz.func41, Tryz.ntmps41
        go_wp2_with fail
        rw [← hw1]
        clear hw1
        refine HK.out.mono ?_
        rintro e w2 ⟨rfl, rfl⟩
        go_wp2_with fail
        refine HV.out.mono ?_
        rintro e w2 ⟨rfl, rfl⟩
        go_wp2
        go_ret
        rw [Hr.out]
        exact ⟨rfl, HB.out⟩
      | true =>
        have Hr := Lib.hid (Ln.err_ok hz (show Ln.formed ⟨k, v⟩ = true by unfold Ln.formed; rw [hk, hv]; rfl))
        rw [hv] at HV
        clear hz hk hv
        go_enter Tryz.func41, Tryz.ntmps41
        go_wp2_with fail
        rw [← hw1]
        clear hw1
        refine HK.out.mono ?_
        rintro e w2 ⟨rfl, rfl⟩
        go_wp2_with fail
        refine HV.out.mono ?_
        rintro e w2 ⟨rfl, rfl⟩
        go_wp2
        go_ret
        rw [Hr.out]
        exact ⟨rfl, HB.out⟩
end Go.Proofs.YthlagpmacnijfaaGreatDoor

namespace Go.Proofs.YthlagpmacnijfaaGreatDoor
open Go.RowKit

theorem key_cases (c : UInt8) : (Ln.inKey c = true ∧ ((c.toNat : Int) != 95) = false) ∨ (Ln.inKey c = true ∧ ((c.toNat : Int) != 95) = true ∧ decide ((c.toNat : Int) < 97) = false ∧ decide ((122 : Int) < (c.toNat : Int)) = false) ∨
    (Ln.inKey c = false ∧ ((c.toNat : Int) != 95) = true ∧ decide ((c.toNat : Int) < 97) = true) ∨ (Ln.inKey c = false ∧ ((c.toNat : Int) != 95) = true ∧ decide ((c.toNat : Int) < 97) = false ∧ decide ((122 : Int) < (c.toNat : Int)) = true) := by
  by_cases h : c.toNat = 95
  · exact .inl ⟨by unfold Ln.inKey; rw [decide_eq_true h, Bool.or_true], by simp; omega⟩
  have h0 : ((c.toNat : Int) != 95) = true := by simp; omega
  by_cases h1 : 97 ≤ c.toNat
  · by_cases h2 : c.toNat ≤ 122
    · exact .inr (.inl ⟨by unfold Ln.inKey; rw [decide_eq_true ⟨h1, h2⟩]; rfl, h0, decide_eq_false (by omega), decide_eq_false (by omega)⟩)
    · exact .inr (.inr (.inr ⟨by unfold Ln.inKey; rw [decide_eq_false (by omega), decide_eq_false h]; rfl, h0, decide_eq_false (by omega), decide_eq_true (by omega)⟩))
  · exact .inr (.inr (.inl ⟨by unfold Ln.inKey; rw [decide_eq_false (by omega), decide_eq_false h]; rfl, h0, decide_eq_true (by omega)⟩))
theorem val_cases (c : UInt8) : (Ln.inVal c = true ∧ decide ((c.toNat : Int) < 33) = false ∧ decide ((126 : Int) < (c.toNat : Int)) = false) ∨ (Ln.inVal c = false ∧ decide ((c.toNat : Int) < 33) = true) ∨
    (Ln.inVal c = false ∧ decide ((c.toNat : Int) < 33) = false ∧ decide ((126 : Int) < (c.toNat : Int)) = true) := by
  unfold Ln.inVal
  by_cases h1 : 33 ≤ c.toNat
  · by_cases h2 : c.toNat ≤ 126
    · exact .inl ⟨decide_eq_true ⟨h1, h2⟩, decide_eq_false (by omega), decide_eq_false (by omega)⟩
    · exact .inr (.inr ⟨decide_eq_false (by omega), decide_eq_false (by omega), decide_eq_true (by omega)⟩)
  · exact .inr (.inl ⟨decide_eq_false (by omega), decide_eq_true (by omega)⟩)
theorem all_step {P : UInt8 → Bool} (s : ByteArray) (k : Nat) (hk : k < s.size) (ha : (s.data.toList.take k).all P = true) (hp : P s[k] = true) : (s.data.toList.take (k + 1)).all P = true := by
  have e : s.data.toList.take (k + 1) = s.data.toList.take k ++ [s[k]] := List.take_succ_eq_append_getElem (by simpa using hk)
  rw [e, List.all_append, ha]; simp [hp]
theorem all_no {P : UInt8 → Bool} (s : ByteArray) (k : Nat) (hk : k < s.size) (hp : P s[k] = false) : s.data.toList.all P = false := by
  rw [List.all_eq_false]
  exact ⟨s[k], List.getElem_mem (l := s.data.toList) (by simpa using hk), by simp [hp]⟩
theorem all_end {P : UInt8 → Bool} (s : ByteArray) (k : Nat) (hk : ¬ k < s.size) (ha : (s.data.toList.take k).all P = true) : s.data.toList.all P = true := by
  rwa [List.take_of_length_le (by simp; omega)] at ha

set_option maxRecDepth 20000 in
set_option maxHeartbeats 1600000 in
theorem ref_LineFault (x : Ln.L) (w : World) : Calls Tryz.prog 40 #[lineV x] w fun e w' => e = .returned (.int .i64 (Ln.err x : Int)) ∧ Below w.heap.size w w' := by
  obtain ⟨s, v⟩ := x
  have HC := Lib.hid (sized_cases ⟨s, v⟩)
  obtain ⟨w1, hw1⟩ : ∃ w1, w1 = w.alloc (.cells #[.string s, .string v] 23) := ⟨_, rfl⟩
  have hB : Below w.heap.size w w1 := by rw [hw1]; exact (Below.refl _ _).alloc (Nat.le_refl _) _
  have HB := Lib.hid hB
  have hb : Blk w1 w.heap.size 23 [.string s, .string v] := by rw [hw1]; exact Blk.new _ _ _
  have Hb := Lib.hid hb
  have c0 := hb.cell 0 rfl
  have c1 := hb.cell 1 rfl
  clear hB hb
  unfold lineV
  rcases HC.out with ⟨hz, h⟩ | ⟨hz, d0, d1, d2, z1, z2⟩
  · have Hr := Lib.hid (Ln.err_size hz)
    clear HC hz
    rcases h with d0 | ⟨d0, d1⟩ | ⟨d0, d1, d2⟩
    all_goals
      go_enter Tryz.func40, Tryz.ntmps40
      go_wp2
      rw [← hw1]
      go_ret
      rw [Hr.out]
      exact ⟨rfl, HB.out⟩
  · clear HC
    obtain ⟨w2, cap, hrun, hsz2, hbel2, hcs2⟩ := conv_string s w1
    have Hcs := Lib.hid hcs2
    have HB2 := Lib.hid (HB.out.trans (hbel2.mono HB.out.size))
    have Hb2 := Lib.hid (Hb.out.kept hbel2)
    have Hz := Lib.hid hz
    have hsm : s.size ≤ 30 := z1
    clear hsz2 hbel2 hcs2 z1 z2 hz
    obtain ⟨g1, hg1⟩ : ∃ g1, g1 = w1.heap.size := ⟨_, rfl⟩
    rw [← hg1] at hrun Hcs
    rw [hw1] at hrun
    clear hw1 hg1 c0 c1
    go_enter Tryz.func40, Tryz.ntmps40
    go_wp2
    clear hrun
    go_loopw [4, 26] (fun c i wr => ∃ k : Nat, k ≤ s.size ∧ i = .int .i64 k ∧ Hid ((s.data.toList.take k).all Ln.inKey = true) ∧ Hid (wr = w2)) (fun _ i _ => s.size - (intOf i).toNat)
    case atStart => exact ⟨0, Nat.zero_le _, rfl, Lib.hid (by simp), Lib.hid rfl⟩
    case round =>
      obtain ⟨k, hk, rfl, Ha, Hw⟩ := hrel
      by_cases hlt : k < s.size
      · have hcell : wr.cell? ⟨g1, k, none⟩ = some (.int .u8 (s[k].toNat : Int)) := by rw [Hw.out]; exact Hcs.out k hlt
        have Hst := Lib.hid (fun hp => all_step (P := Ln.inKey) s k hlt Ha.out hp)
        have Hno := Lib.hid (fun hp => Ln.err_form (x := ⟨s, v⟩) Hz.out (show Ln.formed ⟨s, v⟩ = false by unfold Ln.formed; rw [all_no s k hlt hp]; rfl))
        have KC := Lib.hid (key_cases s[k])
        generalize s[k] = c at *
        rcases KC.out with ⟨hp, e0⟩ | ⟨hp, e0, e1, e2⟩ | ⟨hp, e0, e1⟩ | ⟨hp, e0, e1, e2⟩
        · have Hn := Lib.hid (Hst.out hp)
          clear KC hp Hst Hno
          go_wp2
          go_roundw
          case rel => exact ⟨k + 1, by omega, by go_num, Hn, Hw⟩
          case measure => simp [intOf]; omega
        · have Hn := Lib.hid (Hst.out hp)
          clear KC hp Hst Hno
          go_wp2
          go_roundw
          case rel => exact ⟨k + 1, by omega, by go_num, Hn, Hw⟩
          case measure => simp [intOf]; omega
        · have Hn := Lib.hid (Hno.out hp)
          clear KC hp Hst Hno
          go_wp2
          go_ret
          rw [Hn.out]
          exact ⟨rfl, by rw [Hw.out]; exact HB2.out⟩
        · have Hn := Lib.hid (Hno.out hp)
          clear KC hp Hst Hno
          go_wp2
          go_ret
          rw [Hn.out]
          exact ⟨rfl, by rw [Hw.out]; exact HB2.out⟩
      · have Hk := Lib.hid (all_end s k hlt Ha.out)
        obtain ⟨w3, cap3, hrun3, hsz3, hbel3, hcs3⟩ := conv_string v wr
        have c0 : wr.cell? ⟨w.heap.size, 1, none⟩ = some (.string v) := by rw [Hw.out]; exact Hb2.out.cell 1 rfl
        have Hcs3 := Lib.hid hcs3
        have HB3 := Lib.hid (show Below w.heap.size w w3 by rw [Hw.out] at hbel3; exact HB2.out.trans (hbel3.mono HB2.out.size))
        have hvm : v.size ≤ 70 := by have : ¬ (70 : Int) < (v.size : Int) := of_decide_eq_false d2; omega
        clear hsz3 hbel3 hcs3 Ha Hcs
        obtain ⟨g3, hg3⟩ : ∃ g3, g3 = wr.heap.size := ⟨_, rfl⟩
        rw [← hg3] at hrun3 Hcs3
        clear hg3
        go_wp2
        clear hrun3 c0
        go_loopw [6, 45] (fun c i wr => ∃ k : Nat, k ≤ v.size ∧ i = .int .i64 k ∧ Hid ((v.data.toList.take k).all Ln.inVal = true) ∧ Hid (wr = w3)) (fun _ i _ => v.size - (intOf i).toNat)
        case atStart => exact ⟨0, Nat.zero_le _, rfl, Lib.hid (by simp), Lib.hid rfl⟩
        case round =>
          obtain ⟨j, hj, rfl, Ha, Hw3⟩ := hrel
          obtain ⟨wo, hwo⟩ : ∃ wo, wo = wr := ⟨_, rfl⟩
          subst hwo
          by_cases hlt3 : j < v.size
          · have hcell : wo.cell? ⟨g3, j, none⟩ = some (.int .u8 (v[j].toNat : Int)) := by rw [Hw3.out]; exact Hcs3.out j hlt3
            have Hst := Lib.hid (fun hp => all_step (P := Ln.inVal) v j hlt3 Ha.out hp)
            have Hno := Lib.hid (fun hp => Ln.err_form (x := ⟨s, v⟩) Hz.out (show Ln.formed ⟨s, v⟩ = false by unfold Ln.formed; rw [all_no v j hlt3 hp, Bool.and_false]))
            have KC := Lib.hid (val_cases v[j])
            generalize v[j] = c at *
            rcases KC.out with ⟨hp, e0, e1⟩ | ⟨hp, e0⟩ | ⟨hp, e0, e1⟩
            · have Hn := Lib.hid (Hst.out hp)
              clear KC hp Hst Hno
              go_wp2
              go_roundw
              case rel => exact ⟨j + 1, by omega, by go_num, Hn, Hw3⟩
              case measure => simp [intOf]; omega
            · have Hn := Lib.hid (Hno.out hp)
              clear KC hp Hst Hno
              go_wp2
              go_ret
              rw [Hn.out]
              exact ⟨rfl, by rw [Hw3.out]; exact HB3.out⟩
            · have Hn := Lib.hid (Hno.out hp)
              clear KC hp Hst Hno
              go_wp2
              go_ret
              rw [Hn.out]
              exact ⟨rfl, by rw [Hw3.out]; exact HB3.out⟩
          · have Hn := Lib.hid (Ln.err_ok (x := ⟨s, v⟩) Hz.out (show Ln.formed ⟨s, v⟩ = true by unfold Ln.formed; rw [Hk.out, all_end v j hlt3 Ha.out]; rfl))
            go_wp2
            go_ret
            rw [Hn.out]
            exact ⟨rfl, by rw [Hw3.out]; exact HB3.out⟩
end Go.Proofs.YthlagpmacnijfaaGreatDoor

namespace Go.Proofs.YthlagpmacnijfaaGreatDoor
open Go.RowKit

/-- The cells of n texts, the first ones written. -/
def tcells (done : List ByteArray) (n : Nat) : List Value := done.map Value.string ++ List.replicate (n - done.length) (.string ByteArray.empty)
theorem tcells_length (done : List ByteArray) (n : Nat) (h : done.length ≤ n) : (tcells done n).length = n := by unfold tcells; simp; omega
theorem tcells_old (done : List ByteArray) (n : Nat) (h : done.length < n) : (tcells done n)[done.length]? = some (.string ByteArray.empty) := by
  unfold tcells
  rw [List.getElem?_append_right (by simp), List.length_map, Nat.sub_self]
  rw [List.getElem?_replicate, if_pos (by omega)]
theorem tcells_set (done : List ByteArray) (n : Nat) (h : done.length < n) (x : ByteArray) : (tcells done n).set done.length (.string x) = tcells (done ++ [x]) n := by
  unfold tcells
  rw [List.set_append_right (h := by simp), List.length_map, Nat.sub_self, List.map_append, List.append_assoc]
  congr 1
  obtain ⟨m, hm⟩ : ∃ m, n - done.length = m + 1 := ⟨n - done.length - 1, by omega⟩
  rw [hm, List.replicate_succ, List.set_cons_zero, List.length_append, List.length_singleton]
  rw [show n - (done.length + 1) = m by omega]
  rfl
theorem tcells_full (done : List ByteArray) (n : Nat) (h : done.length = n) : tcells done n = done.map Value.string := by
  unfold tcells
  rw [show n - done.length = 0 by omega]
  simp
theorem make_texts (n : Nat) (hn : n ≤ 1000000) : ∀ W, (Instr.makeSlice 46 (.int .i64 (n : Int)) (.int .i64 (n : Int))).run Tryz.prog W = .ok (.slice (some ⟨W.heap.size, 0, none⟩) n n) (W.alloc (.cells (tcells [] n).toArray 9)) := fun W => by
  have hr := run_make_row' (P := Tryz.prog) 46 9 (.string ByteArray.empty) 16 Tryz.underlying46 (by kernel_rfl) rfl .i64 .i64 n (by omega) (by omega) W
  have e : madeCells #[Value.string ByteArray.empty] n = (tcells [] n).toArray := by
    unfold tcells
    rw [List.map_nil, List.nil_append, List.length_nil, Nat.sub_zero, ← toList_madeCells_one]
  rw [e] at hr
  exact hr
theorem joinTail_glue (c : UInt8) : ∀ (x : List UInt8) (r : List (List UInt8)), x ++ Lib.joinTail [c] r = Ad.glue c (x :: r) := by
  intro x r
  induction r generalizing x with
  | nil => simp [Lib.joinTail, Ad.glue]
  | cons y r ih =>
    rw [Ln.glue_cons, ← ih]
    simp [Lib.joinTail]
theorem join_glue (c : UInt8) : ∀ (l : List (List UInt8)), Lib.join l [c] = Ad.glue c l := by
  intro l
  cases l with
  | nil => rfl
  | cons x r => rw [Lib.join_cons, joinTail_glue]
end Go.Proofs.YthlagpmacnijfaaGreatDoor

namespace Go.Proofs.YthlagpmacnijfaaGreatDoor
open Go.RowKit

theorem glue_snoc (c : UInt8) (y : List UInt8) : ∀ (l : List (List UInt8)), l ≠ [] → Ad.glue c (l ++ [y]) = Ad.glue c l ++ c :: y := by
  intro l
  induction l with
  | nil => intro h; exact absurd rfl h
  | cons x r ih =>
    intro _
    cases r with
    | nil => rfl
    | cons z r =>
      rw [List.cons_append, List.cons_append, Ln.glue_cons, Ln.glue_cons, List.append_assoc]
      have := ih (by simp)
      rw [List.cons_append] at this
      rw [this, List.cons_append]
theorem text_step (l : List Ln.L) (x : Ln.L) : Ln.ofT (Ln.jText (l ++ [x])) = if l.length = 0 then Ln.ofT (Ln.jText l) ++ (x.k ++ (⟨#[61]⟩ : ByteArray) ++ x.v) else Ln.ofT (Ln.jText l) ++ (⟨#[10]⟩ : ByteArray) ++ (x.k ++ (⟨#[61]⟩ : ByteArray) ++ x.v) := by
  have hx : x.k ++ (⟨#[61]⟩ : ByteArray) ++ x.v = Ln.ofT (Ln.lineT x) := by
    apply WideShapes.bytes_inj
    simp only [ByteArray.data_append, Array.toList_append, Ln.ofT_data]
    unfold Ln.lineT
    simp
  rw [hx]
  cases l with
  | nil =>
    rw [if_pos (show ([] : List Ln.L).length = 0 from rfl)]
    apply WideShapes.bytes_inj
    simp only [ByteArray.data_append, Array.toList_append, Ln.ofT_data]
    rfl
  | cons y r =>
    rw [if_neg (by simp)]
    apply WideShapes.bytes_inj
    simp only [ByteArray.data_append, Array.toList_append, Ln.ofT_data]
    unfold Ln.jText
    rw [List.map_append, List.map_singleton, glue_snoc 10 _ _ (by simp)]
    simp
theorem text_size (l : List Ln.L) (hl : ∀ x ∈ l, Ln.err x = 0) (h60 : l.length ≤ 60) : (Ln.ofT (Ln.jText l)).size ≤ 6120 := by
  have hz : (Ln.ofT (Ln.jText l)).size = (Ln.jText l).length := by simp [Ln.ofT, ByteArray.size]
  rw [hz]
  have h1 := Ln.glue_length 10 101 (l.map Ln.lineT) (by
    intro p hp
    obtain ⟨x, hx, rfl⟩ := List.mem_map.1 hp
    have := (Ln.err_zero (hl x hx)).1
    rw [Ln.lineT_length]; omega)
  rw [List.length_map] at h1
  have h2 : l.length * (101 + 1) ≤ 60 * 102 := by omega
  exact Nat.le_trans h1 h2
theorem below_new (W : World) (xk xv : ByteArray) : Below W.heap.size W (W.alloc (.cells #[.string xk, .string xv] 23)) := (Below.refl _ _).alloc (Nat.le_refl _) _

set_option maxRecDepth 20000 in
set_option maxHeartbeats 1600000 in
theorem ref_LinesText (a : Option Addr) (n c : Nat) (l : List Ln.L) (w : World) (h : LinesAt w w.heap.size a n l) :
    Calls Tryz.prog 24 #[.slice a n c] w fun e w' => e = .returned (.tuple #[.string (Ln.ofT (Ln.jOut l)), .int .i64 (Ln.jErr l : Int)]) ∧ Below w.heap.size w w' := by
  have hl := h.1
  have H := Lib.hid h
  clear h
  by_cases h60 : 60 < n
  · have Hr : Hid (Ln.jErr l = 1 ∧ Ln.jOut l = []) := Lib.hid (by
      have e : Ln.jErr l = 1 := by unfold Ln.jErr; rw [if_pos (by omega)]
      exact ⟨e, by unfold Ln.jOut; rw [if_neg (by rw [e]; decide)]⟩)
    go_enter Tryz.func24, Tryz.ntmps24
    go_wp2
    go_ret2
    rw [Hr.out.1, Hr.out.2]
    exact ⟨rfl, Below.refl _ _⟩
  · have Hl := Lib.hid hl
    have hfit : (n : Int) ≤ 60 := by omega
    go_enter Tryz.func24, Tryz.ntmps24
    go_wp2
    go_loopw [4, 13] (fun v i wr => ∃ k : Nat, ∃ S : ByteArray, k ≤ n ∧ i = .int .i64 k ∧ v = .string S ∧ S.size ≤ 6120 ∧ Hid (S = Ln.ofT (Ln.jText (l.take k))) ∧ Hid (∀ x ∈ l.take k, Ln.err x = 0) ∧ Hid (Below w.heap.size w wr)) (fun _ i _ => n - (intOf i).toNat)
    case atStart => exact ⟨0, ⟨#[]⟩, Nat.zero_le _, rfl, rfl, by decide, Lib.hid rfl, Lib.hid (fun x hx => by simp at hx), Lib.hid (Below.refl _ _)⟩
    case round =>
      obtain ⟨k, S, hk, rfl, rfl, hS, HS, Ha, HBr⟩ := hrel
      obtain ⟨wo, hwo⟩ : ∃ wo, wo = wr := ⟨_, rfl⟩
      subst hwo
      by_cases hlt : k < n
      · obtain ⟨b, off, rfl, hbl, hc⟩ := (H.out.below HBr.out).2 (by omega)
        have hkl : k < l.length := by omega
        obtain ⟨c0, c1⟩ := hc k hkl
        have Ht : Hid (l.take (k + 1) = l.take k ++ [l[k]]) := Lib.hid (List.take_succ_eq_append_getElem hkl)
        have Hf := Lib.hid (fun he => Ln.fault_at l k hkl Ha.out he)
        have Htl : Hid ((l.take k).length = k) := Lib.hid (by rw [List.length_take]; omega)
        have hsz := HBr.out.size
        have h1k : Hid ((l.take (k + 1)).length ≤ 60) := Lib.hid (by rw [List.length_take]; omega)
        clear hc
        generalize l[k] = x at *
        have HC := Lib.hid (fun W => ref_LineFault x W)
        obtain ⟨xk, xv⟩ := x
        unfold lineV at HC
        by_cases he : Ln.err ⟨xk, xv⟩ = 0
        · have Hz := Lib.hid (Ln.err_zero he)
          rw [he] at HC
          have Hn := Lib.hid (show ∀ y ∈ l.take (k + 1), Ln.err y = 0 by
            intro y hy
            rw [Ht.out] at hy
            rcases List.mem_append.1 hy with hy | hy
            · exact Ha.out y hy
            · rw [List.mem_singleton.1 hy]; exact he)
          have s1 : xk.size ≤ 30 := Hz.out.1.2.1
          have s2 : xv.size ≤ 70 := Hz.out.1.2.2
          have HT := Lib.hid (text_step (l.take k) ⟨xk, xv⟩)
          have HN := Lib.hid (text_size (l.take (k + 1)) Hn.out h1k.out)
          clear he Hf
          go_wp2_with fail
          refine (HC.out _).mono ?_
          rintro e w2 ⟨rfl, hb2⟩
          have hnew := (Blk.new wo 23 [.string xk, .string xv]).kept hb2
          have n0 := hnew.cell 0 rfl
          have n1 := hnew.cell 1 rfl
          have HB2 := Lib.hid ((HBr.out.trans ((below_new wo xk xv).mono hsz)).trans (hb2.mono (Nat.le_trans hsz (below_new wo xk xv).size)))
          clear hnew hb2 HC c0 c1
          by_cases h0 : k = 0
          · have d0 : ¬ 0 < k := by omega
            rw [Htl.out, if_pos h0, ← HS.out, ← Ht.out] at HT
            rw [HT.out] at HN
            clear Htl h0 Ha Ht
            have hN := HN.out
            go_wp2
            go_roundw
            case rel => exact ⟨k + 1, _, by omega, by go_num, rfl, hN, Lib.hid HT.out.symm, Hn, HB2⟩
            case measure => simp [intOf]; omega
          · have d0 : 0 < k := by omega
            rw [Htl.out, if_neg h0, ← HS.out, ← Ht.out] at HT
            rw [HT.out] at HN
            clear Htl h0 Ha Ht
            have hN := HN.out
            go_wp2
            go_roundw
            case rel => exact ⟨k + 1, _, by omega, by go_num, rfl, hN, Lib.hid HT.out.symm, Hn, HB2⟩
            case measure => simp [intOf]; omega
        · have Hr : Hid (Ln.jErr l = Ln.err ⟨xk, xv⟩ ∧ Ln.jOut l = []) := Lib.hid (by
            have e : Ln.jErr l = Ln.err ⟨xk, xv⟩ := by
              unfold Ln.jErr
              rw [if_neg (by omega), if_pos (by rw [Hf.out he]; exact he), Hf.out he]
            exact ⟨e, by unfold Ln.jOut; rw [if_neg (by rw [e]; exact he)]⟩)
          have hn : ((Ln.err ⟨xk, xv⟩ : Int) != 0) = true := by simpa using he
          clear he Hf
          generalize Ln.err ⟨xk, xv⟩ = r at *
          go_wp2_with fail
          refine (HC.out _).mono ?_
          rintro e w2 ⟨rfl, hb2⟩
          have HB2 := Lib.hid ((HBr.out.trans ((below_new wo xk xv).mono hsz)).trans (hb2.mono (Nat.le_trans hsz (below_new wo xk xv).size)))
          clear hb2 HC c0 c1
          go_wp2
          go_ret2
          rw [Hr.out.1, Hr.out.2]
          exact ⟨rfl, HB2.out⟩
      · obtain rfl : k = n := by omega
        have htk : l.take k = l := List.take_of_length_le (by omega)
        rw [htk] at Ha HS
        have Hf := Lib.hid (Ln.fault_good l Ha.out)
        have hz : S.size = (Ln.jText l).length := by rw [HS.out]; simp [Ln.ofT, ByteArray.size]
        by_cases h3 : 3000 < (Ln.jText l).length
        · have Hr : Hid (Ln.jErr l = 1 ∧ Ln.jOut l = []) := Lib.hid (by
            have e : Ln.jErr l = 1 := by unfold Ln.jErr; rw [if_neg (by omega), if_neg (by rw [Hf.out]; decide), if_pos h3]
            exact ⟨e, by unfold Ln.jOut; rw [if_neg (by rw [e]; decide)]⟩)
          rw [← hz] at h3
          have d3 : decide ((3000 : Int) < (S.size : Int)) = true := decide_eq_true (by omega)
          clear hz h3
          go_wp2
          go_ret2
          rw [Hr.out.1, Hr.out.2]
          exact ⟨rfl, HBr.out⟩
        · have Hr : Hid (Ln.jErr l = 0 ∧ Ln.jOut l = Ln.jText l) := Lib.hid (by
            have e : Ln.jErr l = 0 := by unfold Ln.jErr; rw [if_neg (by omega), if_neg (by rw [Hf.out]; decide), if_neg h3]
            exact ⟨e, by unfold Ln.jOut; rw [if_pos e]⟩)
          rw [← hz] at h3
          have d3 : decide ((3000 : Int) < (S.size : Int)) = false := decide_eq_false (by omega)
          clear hz h3
          go_wp2
          go_ret2
          rw [Hr.out.1, Hr.out.2, ← HS.out]
          exact ⟨rfl, HBr.out⟩
end Go.Proofs.YthlagpmacnijfaaGreatDoor

namespace Go.Proofs.YthlagpmacnijfaaGreatDoor.Bt

theorem kind_none {key : ByteArray} (h : ∀ j, 1 ≤ j → j ≤ 10 → nameOf j ≠ key) : kindOf key = 0 := by
  rcases kindOf_cases key with hk | ⟨h1, h2, h3⟩
  · exact hk
  · exact absurd h3 (h _ h1 h2)
theorem kind_some {key : ByteArray} {j : Nat} (h1 : 1 ≤ j) (h2 : j ≤ 10) (h : nameOf j = key) : kindOf key = j := by rw [← h]; exact kind_of_name j h1 h2
theorem pick_at {l : Ln.L} {c : List S} (k : Nat) (hk : k < c.length) (hn : ∀ x ∈ c.take k, fits l x = false) (hf : fits l c[k] = true) : pick1 l c = (c[k], 0) := by
  have : c.find? (fits l) = some c[k] := by
    rw [List.find?_eq_some_iff_append]
    refine ⟨hf, c.take k, c.drop (k + 1), ?_, fun a ha => by simp [hn a ha]⟩
    rw [← List.drop_eq_getElem_cons hk, List.take_append_drop]
  unfold pick1
  rw [this]
theorem pick_none {l : Ln.L} {c : List S} (hn : ∀ x ∈ c, fits l x = false) : pick1 l c = (zeroS, 3) := by
  have : c.find? (fits l) = none := List.find?_eq_none.2 fun x hx => by simp [hn x hx]
  unfold pick1
  rw [this]
theorem fits_err {l : Ln.L} {x : S} (h : err x ≠ 0) : fits l x = false := by unfold fits; rw [decide_eq_false (fun e => h e.1)]
theorem fits_line {l : Ln.L} {x : S} (h : line x ≠ l) : fits l x = false := by unfold fits; rw [decide_eq_false (fun e => h e.2)]
theorem fits_ok {l : Ln.L} {x : S} (h : err x = 0) (h2 : line x = l) : fits l x = true := by unfold fits; rw [decide_eq_true ⟨h, h2⟩]
theorem numOut_lt (l : List UInt8) (m : Int) : Ad.numOut l m < 100000 := by
  unfold Ad.numOut
  split
  · rename_i h
    unfold Ad.numErr at h
    split at h
    · rename_i hc; exact Ad.num_lt l hc.1
    · cases h
  · decide
theorem good_addr (l : List UInt8) : Ad.addrOut l < 4294967296 := by
  unfold Ad.addrOut
  split
  · rename_i h; exact (Ad.text_good l h).1
  · decide
theorem par_lt (l : List UInt8) : Nt.parAddr l < 4294967296 ∧ Nt.parBits l < 100000 := by
  unfold Nt.parAddr Nt.parBits
  constructor
  · split
    · exact good_addr _
    · decide
  · split
    · exact numOut_lt _ _
    · decide
/-- What the candidates may hold. -/
theorem cands_ok (k : Nat) (v : ByteArray) (hv : v.size ≤ 1048576) : ∀ s ∈ cands k v, s.t.size ≤ 1048576 ∧ s.a < 4294967296 ∧ -9223372036854775808 ≤ s.n ∧ s.n ≤ 9223372036854775807 := by
  have h1 := numOut_lt v.data.toList 65535
  obtain ⟨h2, h3⟩ := par_lt v.data.toList
  intro s hs
  unfold cands at hs
  simp only [List.mem_cons, List.not_mem_nil, or_false] at hs
  rcases hs with rfl | rfl | rfl | rfl
  · refine ⟨?_, ?_, ?_, ?_⟩ <;> simp only <;> (first | omega | (show (0 : Nat) ≤ _; omega))
  · refine ⟨?_, ?_, ?_, ?_⟩ <;> simp only <;> omega
  · refine ⟨?_, ?_, ?_, ?_⟩ <;> simp only <;> (first | omega | (show (0 : Nat) ≤ _; omega))
  · refine ⟨?_, ?_, ?_, ?_⟩ <;> simp only <;> (first | omega | (show (0 : Nat) ≤ _; omega))
end Go.Proofs.YthlagpmacnijfaaGreatDoor.Bt

namespace Go.Proofs.YthlagpmacnijfaaGreatDoor.Bt

/-- The lines of a text that is split have no fault, and are few. -/
theorem lines_ok {s : ByteArray} (h : (Ln.sBad s).2 = 0) : (∀ x ∈ Ln.sOut s, Ln.err x = 0) ∧ (Ln.sOut s).length ≤ 60 := by
  obtain ⟨_, h2, _⟩ := Ln.join_split h
  unfold Ln.jErr at h2
  split at h2
  · cases h2
  rename_i h60
  split at h2
  · rename_i hf; exact absurd h2 hf
  rename_i hf
  exact ⟨Ln.fault_back _ (by simpa using hf), by omega⟩
theorem pOut_err {s : ByteArray} (h : (pBad s).2 ≠ 0) : pOut s = [] := by unfold pOut; rw [if_neg h]
theorem pBad_split {s : ByteArray} (h : (Ln.sBad s).2 ≠ 0) : pBad s = Ln.sBad s := by unfold pBad; rw [if_pos h]
theorem pBad_wrong {s : ByteArray} (h : (Ln.sBad s).2 = 0) : pBad s = wrong 0 (Ln.sOut s) := by unfold pBad; rw [if_neg (fun e => e h)]
end Go.Proofs.YthlagpmacnijfaaGreatDoor.Bt

namespace Go.Proofs.YthlagpmacnijfaaGreatDoor
open Go.RowKit

/-- What Parse hands back. -/
def ParsePost (s : ByteArray) (w : World) (e : Ending) (w' : World) : Prop :=
  (∃ a c, e = .returned (.tuple #[.slice a (Bt.pOut s).length c, .int .i64 ((Bt.pBad s).1 : Int), .int .i64 ((Bt.pBad s).2 : Int)]) ∧ SetsAt w' w'.heap.size a (Bt.pOut s).length (Bt.pOut s)) ∧ Below w.heap.size w w'
theorem parsePost_err {s : ByteArray} {w w' : World} {i r : Nat} (hb : Bt.pBad s = (i, r)) (hr : r ≠ 0) (hB : Below w.heap.size w w') : ParsePost s w (.returned (.tuple #[.slice none 0 0, .int .i64 (i : Int), .int .i64 (r : Int)])) w' := by
  have ho := Bt.pOut_err (s := s) (by rw [hb]; exact hr)
  refine ⟨⟨none, 0, ?_, ?_⟩, hB⟩
  · rw [hb, ho]; rfl
  · rw [ho]; exact SetsAt.nil _ _ _
/-- What a list of settings may hold. -/
def SetsOk (l : List Bt.S) : Prop := ∀ s ∈ l, s.t.size ≤ 1048576 ∧ s.a < 4294967296 ∧ -9223372036854775808 ≤ s.n ∧ s.n ≤ 9223372036854775807
end Go.Proofs.YthlagpmacnijfaaGreatDoor

namespace Go.Proofs.YthlagpmacnijfaaGreatDoor
open Go.RowKit

set_option maxRecDepth 20000 in
set_option maxHeartbeats 2000000 in
theorem ref_BatchText (a : Option Addr) (n c : Nat) (l : List Bt.S) (w : World) (h : SetsAt w w.heap.size a n l) (hn : n ≤ 1000000000) (hok : SetsOk l) (hT : AllTabs w) :
    Calls Tryz.prog 12 #[.slice a n c] w fun e w' => e = .returned (.tuple #[.string (Ln.ofT (Bt.tOut l)), .int .i64 (Bt.tErr l : Int)]) ∧ Below w.heap.size w w' := by
  have hl := h.1
  have H := Lib.hid h
  have HOk := Lib.hid hok
  have HT := Lib.hid hT
  clear h hok hT
  go_enter Tryz.func12, Tryz.ntmps12
  go_wp2
  go_loopw [4, 11] (fun v i wr => ∃ k : Nat, k ≤ n ∧ i = .int .i64 (k : Int) ∧ Hid (∀ x ∈ l.take k, Bt.err x = 0) ∧ Hid (OwnL wr w.heap.size v ((l.take k).map Bt.line)) ∧ Hid (Below w.heap.size w wr)) (fun _ i _ => n - (intOf i).toNat)
  case atStart => exact ⟨0, Nat.zero_le _, rfl, Lib.hid (fun x hx => by simp at hx), Lib.hid (OwnL.nil _ _), Lib.hid (Below.refl _ _)⟩
  case round =>
    obtain ⟨k, hk, rfl, Ha, HO, HBr⟩ := hrel
    obtain ⟨wo, hwo⟩ : ∃ wo, wo = wr := ⟨_, rfl⟩
    subst hwo
    have hsz := HBr.out.size
    by_cases hlt : k < n
    · have hkl : k < l.length := by omega
      obtain ⟨bb, off, rfl, hbl, hc⟩ := (H.out.below HBr.out).2 (by omega)
      obtain ⟨c0, c1, c2, c3, c4⟩ := hc k hkl
      have Hk := Lib.hid (HOk.out _ (List.getElem_mem hkl))
      have Ht : Hid (l.take (k + 1) = l.take k ++ [l[k]]) := Lib.hid (List.take_succ_eq_append_getElem hkl)
      have Htl : Hid ((l.take k).length = k) := Lib.hid (by rw [List.length_take]; omega)
      have Hf := Lib.hid (fun hn => Bt.fault_at l k hkl Ha.out hn)
      clear hc
      generalize l[k] = x at *
      have HS := Lib.hid (fun W (hW : Below w.heap.size w W) => ref_SettingLine x W Hk.out.1 Hk.out.2.1 Hk.out.2.2.1 Hk.out.2.2.2 (HT.out.below hW))
      have Hm : Hid ((l.take (k + 1)).map Bt.line = (l.take k).map Bt.line ++ [Bt.line x]) := Lib.hid (by rw [Ht.out, List.map_append, List.map_singleton])
      have HA := Lib.hid (HBr.out.alloc hsz (.cells #[.int .i64 x.k, .string x.t, .int .i64 x.n, .int .u32 (x.a : Int), .int .i64 x.b] 28))
      have HO1 := Lib.hid (HO.out.alloc (.cells #[.int .i64 x.k, .string x.t, .int .i64 x.n, .int .u32 (x.a : Int), .int .i64 x.b] 28))
      obtain ⟨xk, xt, xn, xa, xb⟩ := x
      unfold setV at HS
      simp only at c0 c1 c2 c3 c4 HA HO1
      by_cases he : Bt.err ⟨xk, xt, xn, xa, xb⟩ = 0
      · have Hn := Lib.hid (show ∀ y ∈ l.take (k + 1), Bt.err y = 0 by
          intro y hy
          rw [Ht.out] at hy
          rcases List.mem_append.1 hy with hy | hy
          · exact Ha.out y hy
          · rw [List.mem_singleton.1 hy]; exact he)
        rw [he] at HS
        have hDl : ((l.take k).map Bt.line).length + 1 ≤ 3518437208883 := by rw [List.length_map, Htl.out]; omega
        clear he Hf Ha
        generalize Bt.line ⟨xk, xt, xn, xa, xb⟩ = L at *
        obtain ⟨X, Y⟩ := L
        unfold lineV at HS
        generalize (l.take k).map Bt.line = D at *
        go_wp2_with fail
        refine (HS.out _ HA.out).mono ?_
        rintro e w3 ⟨rfl, hb3⟩
        have HO2 := Lib.hid (((HO1.out.below hb3).alloc (.cells #[.string X, .string Y] 23)).alloc (.cells #[.string X, .string Y] 23))
        have hnw := news_line (w3.alloc (.cells #[.string X, .string Y] 23)) ⟨X, Y⟩ 23
        rw [show (w3.alloc (.cells #[.string X, .string Y] 23)).heap.size = w3.heap.size + 1 by simp] at hnw
        have Hnw := Lib.hid hnw
        have HB3 := Lib.hid (HA.out.trans (hb3.mono HA.out.size))
        have hlt4 : w.heap.size ≤ ((w3.alloc (.cells #[.string X, .string Y] 23)).alloc (.cells #[.string X, .string Y] 23)).heap.size := by have := HB3.out.size; simp; omega
        clear hb3 hnw HS HO HO1 c0 c1 c2 c3 c4
        go_wp2_with (at_builtin; refine wpL_append_line _ rfl _ _ rfl w.heap.size _ D rfl HO2.out _ 1 _ [⟨X, Y⟩] rfl rfl Hnw.out hDl hlt4 ?_)
        intro v' w4 hO4 hb4
        have HB4 := Lib.hid (((HB3.out.alloc HB3.out.size _).alloc (by have := HB3.out.size; simp; omega) _).trans hb4)
        rw [← Hm.out] at hO4
        have HO4 := Lib.hid hO4
        clear hO4 hb4
        go_wp2
        go_roundw
        case rel => exact ⟨k + 1, by omega, by go_num, Hn, HO4, HB4⟩
        case measure => simp [intOf]; omega
      · have Hr : Hid (Bt.tErr l = Bt.err ⟨xk, xt, xn, xa, xb⟩ ∧ Bt.tOut l = []) := Lib.hid (by
          have e : Bt.tErr l = Bt.err ⟨xk, xt, xn, xa, xb⟩ := by unfold Bt.tErr; rw [if_pos (by rw [Hf.out he]; exact he), Hf.out he]
          exact ⟨e, by unfold Bt.tOut; rw [if_neg (by rw [e]; exact he)]⟩)
        have hn' : ((Bt.err ⟨xk, xt, xn, xa, xb⟩ : Int) != 0) = true := by simpa using he
        clear he Hf
        generalize Bt.err ⟨xk, xt, xn, xa, xb⟩ = r at *
        generalize Bt.line ⟨xk, xt, xn, xa, xb⟩ = L at *
        obtain ⟨X, Y⟩ := L
        unfold lineV at HS
        go_wp2_with fail
        refine (HS.out _ HA.out).mono ?_
        rintro e w3 ⟨rfl, hb3⟩
        have HB3 := Lib.hid (HA.out.trans (hb3.mono HA.out.size))
        have HB4 := Lib.hid (HB3.out.alloc HB3.out.size (.cells #[.string X, .string Y] 23))
        clear hb3 HS c0 c1 c2 c3 c4
        go_wp2
        go_ret2
        rw [Hr.out.1, Hr.out.2]
        exact ⟨rfl, HB4.out⟩
    · obtain rfl : k = n := by omega
      have htk : l.take k = l := List.take_of_length_le (by omega)
      rw [htk] at Ha HO
      have Hf := Lib.hid (Bt.fault_good l Ha.out)
      obtain ⟨a', c', rfl, hat⟩ := HO.out.at
      have HJ := Lib.hid (ref_LinesText a' (l.map Bt.line).length c' (l.map Bt.line) wo hat)
      have He : Hid (Bt.tErr l = Ln.jErr (l.map Bt.line)) := Lib.hid (by unfold Bt.tErr; rw [if_neg (by rw [Hf.out]; decide)])
      have Ho : Hid (Bt.tOut l = Ln.jOut (l.map Bt.line)) := Lib.hid (by unfold Bt.tOut Ln.jOut; rw [He.out])
      clear htk hat HO Hf
      generalize l.map Bt.line = D at *
      generalize D.length = dn at *
      generalize hT : Ln.ofT (Ln.jOut D) = T at *
      have HTT := Lib.hid hT
      clear hT
      go_wp2_with fail
      refine HJ.out.mono ?_
      rintro e w3 ⟨rfl, hb3⟩
      have HBf := Lib.hid (HBr.out.trans (hb3.mono hsz))
      clear hb3 HJ
      go_wp2
      go_ret2
      rw [He.out, Ho.out, HTT.out]
      exact ⟨rfl, HBf.out⟩
end Go.Proofs.YthlagpmacnijfaaGreatDoor

namespace Go.Proofs.YthlagpmacnijfaaGreatDoor
open Go.RowKit

theorem num_bad {l : List UInt8} {most : Int} (h : Ad.isNum l = false ∨ most < (Ad.val l : Int)) : Ad.numErr l most = 3 ∧ Ad.numOut l most = 0 := by
  have e : Ad.numErr l most = 3 := by
    unfold Ad.numErr
    rw [if_neg]
    rintro ⟨h1, h2⟩
    rcases h with h | h
    · rw [h] at h1; cases h1
    · omega
  refine ⟨e, ?_⟩
  unfold Ad.numOut
  rw [e]
  rfl
theorem num_good {l : List UInt8} {most : Int} (h : Ad.isNum l = true) (h2 : (Ad.val l : Int) ≤ most) : Ad.numErr l most = 0 ∧ Ad.numOut l most = Ad.val l := by
  have e : Ad.numErr l most = 0 := by unfold Ad.numErr; rw [if_pos ⟨h, h2⟩]
  refine ⟨e, ?_⟩
  unfold Ad.numOut
  rw [if_pos e]
theorem not_num_long {l : List UInt8} (h : 5 < l.length) : Ad.isNum l = false := by
  cases hn : Ad.isNum l
  · rfl
  · have := (Ad.num_parts l hn).2.1; omega
theorem not_num_zero {l : List UInt8} (h : 1 < l.length) (h0 : l.head? = some 48) : Ad.isNum l = false := by
  cases hn : Ad.isNum l
  · rfl
  · rcases (Ad.num_parts l hn).2.2.2 with h | h
    · omega
    · exact absurd h0 h
theorem not_num_digit {l : List UInt8} {k : Nat} (h : k < l.length) (hd : Ad.isD l[k] = false) : Ad.isNum l = false := by
  cases hn : Ad.isNum l
  · rfl
  · have := List.all_eq_true.1 (Ad.num_parts l hn).2.2.1 _ (List.getElem_mem h)
    rw [hd] at this; cases this
theorem is_num {l : List UInt8} (h0 : 0 < l.length) (h5 : l.length ≤ 5) (hd : l.all Ad.isD = true) (hz : l.length = 1 ∨ l.head? ≠ some 48) : Ad.isNum l = true := by
  unfold Ad.isNum
  rw [hd, decide_eq_true h5, decide_eq_true (show l ≠ [] by intro e; rw [e] at h0; simp at h0)]
  rcases hz with hz | hz
  · rw [decide_eq_true hz]; rfl
  · rw [decide_eq_true hz]; simp
/-- The digits read so far. -/
def NumSo (l : List UInt8) (w : World) (k : Nat) (v : Value) (wr : World) : Prop :=
  v = .int .i64 (Ad.val (l.take k) : Int) ∧ (l.take k).all Ad.isD = true ∧ Below w.heap.size w wr
theorem val_take {l : List UInt8} {k : Nat} (h : k < l.length) : Ad.val (l.take (k + 1)) = Ad.val (l.take k) * 10 + (l[k].toNat - 48) := by
  rw [List.take_succ_eq_append_getElem h, Ad.val_snoc]
theorem val_take_lt {l : List UInt8} {k : Nat} (h5 : l.length ≤ 5) (hd : (l.take k).all Ad.isD = true) : Ad.val (l.take k) < 100000 := by
  have := Ad.val_lt _ hd
  have h2 : 10 ^ (l.take k).length ≤ 10 ^ 5 := Nat.pow_le_pow_right (by decide) (by rw [List.length_take]; omega)
  omega

set_option maxHeartbeats 800000 in
theorem addr_Number0 (s : ByteArray) (most : Int) (w : World) (hs : s.size ≤ 281474976710656) :
    Calls Tryz.prog 25 #[.string s, .int .i64 most] w fun e w' => e = .returned (.tuple #[.int .i64 (Ad.numOut s.data.toList most : Int), .int .i64 (Ad.numErr s.data.toList most : Int)]) ∧ Below w.heap.size w w' := by
  have hsl : s.data.toList.length = s.size := by simp
  by_cases h0 : s.size = 0
  · obtain rfl : s = ⟨#[]⟩ := by
      apply WideShapes.bytes_inj
      rw [List.eq_nil_of_length_eq_zero (by omega : s.data.toList.length = 0)]
    have Hr := Lib.hid (num_bad (l := []) (most := most) (.inl rfl))
    clear hsl h0 hs
    go_enter Tryz.func25, Tryz.ntmps25
    go_wp2
    go_ret2
    exact ⟨by rw [Hr.out.1, Hr.out.2]; rfl, Below.refl _ _⟩
  have hse : s.toList.isEmpty = false := by
    rw [Lib.toList_data]
    cases h : s.data.toList with
    | nil => rw [h] at hsl; simp at hsl; omega
    | cons _ _ => rfl
  by_cases h5 : 5 < s.size
  · have Hr := Lib.hid (num_bad (most := most) (.inl (not_num_long (l := s.data.toList) (by omega))))
    have d1 : decide ((5 : Int) < (s.size : Int)) = true := decide_eq_true (by omega)
    clear hsl h0
    go_enter Tryz.func25, Tryz.ntmps25
    go_wp2
    go_ret2
    exact ⟨by rw [Hr.out.1, Hr.out.2]; rfl, Below.refl _ _⟩
  have d1 : decide ((5 : Int) < (s.size : Int)) = false := decide_eq_false (by omega)
  have hp : 0 < s.size := by omega
  have hh : s.data.toList.head? = some s[0] := by
    rw [List.head?_eq_getElem?, List.getElem?_eq_getElem (by omega)]
    rfl
  have x0 := (s[0]).toNat_lt
  by_cases hz : (s[0]).toNat = 48 ∧ 1 < s.size
  · have Hr := Lib.hid (num_bad (most := most) (.inl (not_num_zero (l := s.data.toList) (by omega) (by rw [hh]; exact congrArg some (UInt8.toNat_inj.1 hz.1)))))
    have d2 : decide ((1 : Int) < (s.size : Int)) = true := decide_eq_true (by omega)
    obtain ⟨hz1, hz2⟩ := hz
    clear hsl h0 hh
    go_enter Tryz.func25, Tryz.ntmps25
    go_wp2
    go_ret2
    exact ⟨by rw [Hr.out.1, Hr.out.2]; rfl, Below.refl _ _⟩
  have Hz := Lib.hid (show s.data.toList.length = 1 ∨ s.data.toList.head? ≠ some 48 by
    by_cases h1 : s.size = 1
    · left; omega
    · right
      rw [hh]
      intro e
      injection e with e
      exact hz ⟨by rw [e]; rfl, by omega⟩)
  have Hl := Lib.hid hsl
  clear hh hsl
  by_cases hz1 : (s[0]).toNat = 48
  all_goals
    have d2 : (s[0]).toNat = 48 → decide ((1 : Int) < (s.size : Int)) = false := fun h => decide_eq_false (by omega)
    try have d3 := d2 hz1
    clear d2
    go_enter Tryz.func25, Tryz.ntmps25
    go_wp2
    go_loopw [6, 25] (fun v i wr => ∃ k : Nat, k ≤ s.size ∧ i = .int .i64 k ∧ NumSo s.data.toList w k v wr) (fun _ i _ => s.size - (intOf i).toNat)
    case atStart => exact ⟨0, Nat.zero_le _, rfl, rfl, rfl, Below.refl _ _⟩
    case round =>
      obtain ⟨k, hk, rfl, rfl, hd, hB⟩ := hrel
      have HB := Lib.hid hB
      have Hd := Lib.hid hd
      have hvl := val_take_lt (k := k) (show s.data.toList.length ≤ 5 by rw [Hl.out]; omega) hd
      clear hB hd
      by_cases hlt : k < s.size
      · have x1 := (s[k]'hlt).toNat_lt
        have hkl : k < s.data.toList.length := by rw [Hl.out]; exact hlt
        have hg : s.data.toList[k]'hkl = s[k]'hlt := rfl
        by_cases hD : Ad.isD (s[k]'hlt) = true
        · have hc : 48 ≤ (s[k]'hlt).toNat ∧ (s[k]'hlt).toNat ≤ 57 := by unfold Ad.isD at hD; exact of_decide_eq_true hD
          obtain ⟨hc1, hc2⟩ := hc
          have Hv := Lib.hid (val_take hkl)
          rw [hg] at Hv
          have Hd' := Lib.hid (show (s.data.toList.take (k + 1)).all Ad.isD = true by
            rw [List.take_succ_eq_append_getElem hkl, List.all_append, Hd.out, hg]
            simp only [List.all_cons, List.all_nil, Bool.and_true, Bool.true_and]
            exact hD)
          clear hD hkl hg
          generalize Ad.val (s.data.toList.take k) = A at *
          go_wp2
          go_roundw
          case rel => exact ⟨k + 1, by omega, by go_num, by rw [Hv.out]; congr 1; omega, Hd'.out, HB.out⟩
          case measure => simp [intOf]; omega
        · have Hr := Lib.hid (num_bad (most := most) (.inl (not_num_digit (l := s.data.toList) hkl (by rw [hg]; cases h : Ad.isD (s[k]'hlt); rfl; exact absurd h hD))))
          have hc : (s[k]'hlt).toNat < 48 ∨ 57 < (s[k]'hlt).toNat := by
            by_cases a : (s[k]'hlt).toNat < 48
            · exact .inl a
            · right
              by_cases b : 57 < (s[k]'hlt).toNat
              · exact b
              · exact absurd (by unfold Ad.isD; exact decide_eq_true ⟨by omega, by omega⟩) hD
          clear hD hkl hg
          generalize Ad.val (s.data.toList.take k) = A at *
          by_cases hc1 : (s[k]'hlt).toNat < 48
          · go_wp2
            go_ret2
            exact ⟨by rw [Hr.out.1, Hr.out.2]; rfl, HB.out⟩
          · have hc2 : 57 < (s[k]'hlt).toNat := by omega
            go_wp2
            go_ret2
            exact ⟨by rw [Hr.out.1, Hr.out.2]; rfl, HB.out⟩
      · obtain rfl : k = s.size := by omega
        have hta : s.data.toList.take s.size = s.data.toList := List.take_of_length_le (by rw [Hl.out]; exact Nat.le_refl _)
        rw [hta] at hvl Hd
        have hn := is_num (l := s.data.toList) (by rw [Hl.out]; omega) (by rw [Hl.out]; omega) Hd.out Hz.out
        rw [hta]
        by_cases hm : (Ad.val s.data.toList : Int) ≤ most
        · have Hr := Lib.hid (num_good hn hm)
          have d4 : decide (most < (Ad.val s.data.toList : Int)) = false := decide_eq_false (by omega)
          clear hta hn Hd
          generalize Ad.val s.data.toList = A at *
          go_wp2
          go_ret2
          exact ⟨by rw [Hr.out.1, Hr.out.2]; rfl, HB.out⟩
        · have Hr := Lib.hid (num_bad (l := s.data.toList) (most := most) (.inr (by omega)))
          have d4 : decide (most < (Ad.val s.data.toList : Int)) = true := decide_eq_true (by omega)
          clear hta hn Hd
          generalize Ad.val s.data.toList = A at *
          go_wp2
          go_ret2
          exact ⟨by rw [Hr.out.1, Hr.out.2]; rfl, HB.out⟩
end Go.Proofs.YthlagpmacnijfaaGreatDoor
