/- The contract of addr.Number. -/
import Derived.Test.YtjdflnnpamjjcaaDoorRows
import Derived.Test.YtjdflnnpamjjcaaDoorMem
import Derived.Test.YtjdflnnpamjjcaaDoorAddrPlain
import Derived.Lib.Strings
namespace Go.Proofs.YtjdflnnpamjjcaaDoor
open Go.RowKit

theorem num_bad {l : List UInt8} {most : Int} (h : Ad.isNum l = false ∨ most < (Ad.val l : Int)) : Ad.numErr l most = 3 ∧ Ad.numOut l most = 0 := by
  have e : Ad.numErr l most = 3 := by
    unfold Ad.numErr
    rw [if_neg]
    rintro ⟨h1, h2⟩
    rcases h with h | h
    · rw [h] at h1; cases h1
    · omega
  refine ⟨e, ?_⟩
  unfold Ad.numOut
  rw [e]
  rfl
theorem num_good {l : List UInt8} {most : Int} (h : Ad.isNum l = true) (h2 : (Ad.val l : Int) ≤ most) : Ad.numErr l most = 0 ∧ Ad.numOut l most = Ad.val l := by
  have e : Ad.numErr l most = 0 := by unfold Ad.numErr; rw [if_pos ⟨h, h2⟩]
  refine ⟨e, ?_⟩
  unfold Ad.numOut
  rw [if_pos e]
theorem not_num_long {l : List UInt8} (h : 5 < l.length) : Ad.isNum l = false := by
  cases hn : Ad.isNum l
  · rfl
  · have := (Ad.num_parts l hn).2.1; omega
theorem not_num_zero {l : List UInt8} (h : 1 < l.length) (h0 : l.head? = some 48) : Ad.isNum l = false := by
  cases hn : Ad.isNum l
  · rfl
  · rcases (Ad.num_parts l hn).2.2.2 with h | h
    · omega
    · exact absurd h0 h
theorem not_num_digit {l : List UInt8} {k : Nat} (h : k < l.length) (hd : Ad.isD l[k] = false) : Ad.isNum l = false := by
  cases hn : Ad.isNum l
  · rfl
  · have := List.all_eq_true.1 (Ad.num_parts l hn).2.2.1 _ (List.getElem_mem h)
    rw [hd] at this; cases this
theorem is_num {l : List UInt8} (h0 : 0 < l.length) (h5 : l.length ≤ 5) (hd : l.all Ad.isD = true) (hz : l.length = 1 ∨ l.head? ≠ some 48) : Ad.isNum l = true := by
  unfold Ad.isNum
  rw [hd, decide_eq_true h5, decide_eq_true (show l ≠ [] by intro e; rw [e] at h0; simp at h0)]
  rcases hz with hz | hz
  · rw [decide_eq_true hz]; rfl
  · rw [decide_eq_true hz]; simp
/-- The digits read so far. -/
def NumSo (l : List UInt8) (w : World) (k : Nat) (v : Value) (wr : World) : Prop :=
  v = .int .i64 (Ad.val (l.take k) : Int) ∧ (l.take k).all Ad.isD = true ∧ Below w.heap.size w wr
theorem val_take {l : List UInt8} {k : Nat} (h : k < l.length) : Ad.val (l.take (k + 1)) = Ad.val (l.take k) * 10 + (l[k].toNat - 48) := by
  rw [List.take_succ_eq_append_getElem h, Ad.val_snoc]
theorem val_take_lt {l : List UInt8} {k : Nat} (h5 : l.length ≤ 5) (hd : (l.take k).all Ad.isD = true) : Ad.val (l.take k) < 100000 := by
  have := Ad.val_lt _ hd
  have h2 : 10 ^ (l.take k).length ≤ 10 ^ 5 := Nat.pow_le_pow_right (by decide) (by rw [List.length_take]; omega)
  omega

set_option maxHeartbeats 800000 in
theorem addr_Number0 (s : ByteArray) (most : Int) (w : World) (hs : s.size ≤ 281474976710656) :
    Calls Tryd.prog 47 #[.string s, .int .i64 most] w fun e w' => e = .returned (.tuple #[.int .i64 (Ad.numOut s.data.toList most : Int), .int .i64 (Ad.numErr s.data.toList most : Int)]) ∧ Below w.heap.size w w' := by
  have hsl : s.data.toList.length = s.size := by simp
  by_cases h0 : s.size = 0
  · obtain rfl : s = ⟨#[]⟩ := by
      apply WideShapes.bytes_inj
      rw [List.eq_nil_of_length_eq_zero (by omega : s.data.toList.length = 0)]
    have Hr := Lib.hid (num_bad (l := []) (most := most) (.inl rfl))
    clear hsl h0 hs
    go_enter Tryd.func47, Tryd.ntmps47
    go_wp2
    go_ret2
    exact ⟨by rw [Hr.out.1, Hr.out.2]; rfl, Below.refl _ _⟩
  have hse : s.toList.isEmpty = false := by
    rw [Lib.toList_data]
    cases h : s.data.toList with
    | nil => rw [h] at hsl; simp at hsl; omega
    | cons _ _ => rfl
  by_cases h5 : 5 < s.size
  · have Hr := Lib.hid (num_bad (most := most) (.inl (not_num_long (l := s.data.toList) (by omega))))
    have d1 : decide ((5 : Int) < (s.size : Int)) = true := decide_eq_true (by omega)
    clear hsl h0
    go_enter Tryd.func47, Tryd.ntmps47
    go_wp2
    go_ret2
    exact ⟨by rw [Hr.out.1, Hr.out.2]; rfl, Below.refl _ _⟩
  have d1 : decide ((5 : Int) < (s.size : Int)) = false := decide_eq_false (by omega)
  have hp : 0 < s.size := by omega
  have hh : s.data.toList.head? = some s[0] := by
    rw [List.head?_eq_getElem?, List.getElem?_eq_getElem (by omega)]
    rfl
  have x0 := (s[0]).toNat_lt
  by_cases hz : (s[0]).toNat = 48 ∧ 1 < s.size
  · have Hr := Lib.hid (num_bad (most := most) (.inl (not_num_zero (l := s.data.toList) (by omega) (by rw [hh]; exact congrArg some (UInt8.toNat_inj.1 hz.1)))))
    have d2 : decide ((1 : Int) < (s.size : Int)) = true := decide_eq_true (by omega)
    obtain ⟨hz1, hz2⟩ := hz
    clear hsl h0 hh
    go_enter Tryd.func47, Tryd.ntmps47
    go_wp2
    go_ret2
    exact ⟨by rw [Hr.out.1, Hr.out.2]; rfl, Below.refl _ _⟩
  have Hz := Lib.hid (show s.data.toList.length = 1 ∨ s.data.toList.head? ≠ some 48 by
    by_cases h1 : s.size = 1
    · left; omega
    · right
      rw [hh]
      intro e
      injection e with e
      exact hz ⟨by rw [e]; rfl, by omega⟩)
  have Hl := Lib.hid hsl
  clear hh hsl
  by_cases hz1 : (s[0]).toNat = 48
  all_goals
    have d2 : (s[0]).toNat = 48 → decide ((1 : Int) < (s.size : Int)) = false := fun h => decide_eq_false (by omega)
    try have d3 := d2 hz1
    clear d2
    go_enter Tryd.func47, Tryd.ntmps47
    go_wp2
    go_loopw [6, 25] (fun v i wr => ∃ k : Nat, k ≤ s.size ∧ i = .int .i64 k ∧ NumSo s.data.toList w k v wr) (fun _ i _ => s.size - (intOf i).toNat)
    case atStart => exact ⟨0, Nat.zero_le _, rfl, rfl, rfl, Below.refl _ _⟩
    case round =>
      obtain ⟨k, hk, rfl, rfl, hd, hB⟩ := hrel
      have HB := Lib.hid hB
      have Hd := Lib.hid hd
      have hvl := val_take_lt (k := k) (show s.data.toList.length ≤ 5 by rw [Hl.out]; omega) hd
      clear hB hd
      by_cases hlt : k < s.size
      · have x1 := (s[k]'hlt).toNat_lt
        have hkl : k < s.data.toList.length := by rw [Hl.out]; exact hlt
        have hg : s.data.toList[k]'hkl = s[k]'hlt := rfl
        by_cases hD : Ad.isD (s[k]'hlt) = true
        · have hc : 48 ≤ (s[k]'hlt).toNat ∧ (s[k]'hlt).toNat ≤ 57 := by unfold Ad.isD at hD; exact of_decide_eq_true hD
          obtain ⟨hc1, hc2⟩ := hc
          have Hv := Lib.hid (val_take hkl)
          rw [hg] at Hv
          have Hd' := Lib.hid (show (s.data.toList.take (k + 1)).all Ad.isD = true by
            rw [List.take_succ_eq_append_getElem hkl, List.all_append, Hd.out, hg]
            simp only [List.all_cons, List.all_nil, Bool.and_true, Bool.true_and]
            exact hD)
          clear hD hkl hg
          generalize Ad.val (s.data.toList.take k) = A at *
          go_wp2
          go_roundw
          case rel => exact ⟨k + 1, by omega, by go_num, by rw [Hv.out]; congr 1; omega, Hd'.out, HB.out⟩
          case measure => simp [intOf]; omega
        · have Hr := Lib.hid (num_bad (most := most) (.inl (not_num_digit (l := s.data.toList) hkl (by rw [hg]; cases h : Ad.isD (s[k]'hlt); rfl; exact absurd h hD))))
          have hc : (s[k]'hlt).toNat < 48 ∨ 57 < (s[k]'hlt).toNat := by
            by_cases a : (s[k]'hlt).toNat < 48
            · exact .inl a
            · right
              by_cases b : 57 < (s[k]'hlt).toNat
              · exact b
              · exact absurd (by unfold Ad.isD; exact decide_eq_true ⟨by omega, by omega⟩) hD
          clear hD hkl hg
          generalize Ad.val (s.data.toList.take k) = A at *
          by_cases hc1 : (s[k]'hlt).toNat < 48
          · go_wp2
            go_ret2
            exact ⟨by rw [Hr.out.1, Hr.out.2]; rfl, HB.out⟩
          · have hc2 : 57 < (s[k]'hlt).toNat := by omega
            go_wp2
            go_ret2
            exact ⟨by rw [Hr.out.1, Hr.out.2]; rfl, HB.out⟩
      · obtain rfl : k = s.size := by omega
        have hta : s.data.toList.take s.size = s.data.toList := List.take_of_length_le (by rw [Hl.out]; exact Nat.le_refl _)
        rw [hta] at hvl Hd
        have hn := is_num (l := s.data.toList) (by rw [Hl.out]; omega) (by rw [Hl.out]; omega) Hd.out Hz.out
        rw [hta]
        by_cases hm : (Ad.val s.data.toList : Int) ≤ most
        · have Hr := Lib.hid (num_good hn hm)
          have d4 : decide (most < (Ad.val s.data.toList : Int)) = false := decide_eq_false (by omega)
          clear hta hn Hd
          generalize Ad.val s.data.toList = A at *
          go_wp2
          go_ret2
          exact ⟨by rw [Hr.out.1, Hr.out.2]; rfl, HB.out⟩
        · have Hr := Lib.hid (num_bad (l := s.data.toList) (most := most) (.inr (by omega)))
          have d4 : decide (most < (Ad.val s.data.toList : Int)) = true := decide_eq_true (by omega)
          clear hta hn Hd
          generalize Ad.val s.data.toList = A at *
          go_wp2
          go_ret2
          exact ⟨by rw [Hr.out.1, Hr.out.2]; rfl, HB.out⟩
end Go.Proofs.YtjdflnnpamjjcaaDoor
