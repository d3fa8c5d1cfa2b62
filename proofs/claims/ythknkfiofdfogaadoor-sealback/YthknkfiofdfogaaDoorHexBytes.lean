/- The contract of hex.Bytes. -/
import Derived.Test.YthknkfiofdfogaaDoorHexWalks
namespace Go.Proofs.YthknkfiofdfogaaDoor
open Go.RowKit

def BytesPost (s : ByteArray) (w : World) (e : Ending) (w' : World) : Prop :=
  ∃ a n c, e = .returned (.tuple #[.slice a n c, .int .i64 (Hx.bytesErr s.data.toList : Int)]) ∧
    w'.ownsRow w.heap.size 5 1 (.slice a n c) (Hx.bytes s.data.toList).length (bcells (Hx.bytes s.data.toList)) ∧ Below w.heap.size w w'

theorem allD_berr (s : ByteArray) : Hx.bytesErr s.data.toList = if 2000 < s.size then 1 else if s.size % 2 = 1 ∨ allD s = false then 3 else 0 := by
  simp [Hx.bytesErr, allD]
theorem bytesPost_err {s : ByteArray} {w wr : World} {r : Nat} (h : Hx.bytesErr s.data.toList = r) (h0 : r ≠ 0) (hb : Below w.heap.size w wr) : BytesPost s w (.returned (.tuple #[.slice none 0 0, .int .i64 (r : Int)])) wr := by
  refine ⟨none, 0, 0, by rw [h], ?_, hb⟩
  rw [Hx.bytes_err _ (by rw [h]; exact h0)]
  exact World.ownsRow_nil _ _ _ _

def half (s : ByteArray) (m k : Nat) : List UInt8 := (Hx.pairs s.data.toList).take k ++ List.replicate (m - k) 0
def Filled (s : ByteArray) (w : World) (m k : Nat) (wr : World) : Prop :=
  wr.ownsRow w.heap.size 5 1 (.slice (some ⟨w.heap.size, 0, none⟩) m m) m (bcells (half s m k))
theorem filled_start {s : ByteArray} {w w1 : World} {m : Nat}
    (h : w1.ownsRow w.heap.size 5 1 (.slice (some ⟨w.heap.size, 0, none⟩) m m) m (madeCells #[Value.int .u8 0] m).toList) : Filled s w m 0 w1 := by
  rw [toList_madeCells_one] at h
  unfold Filled half
  rw [List.take_zero, List.nil_append, Nat.sub_zero, bcells_zero]
  exact h
theorem filled_cell {s : ByteArray} {w wr : World} {m k : Nat} (h : Filled s w m k wr) (hk : k < m) : wr.cell? ⟨w.heap.size, k, none⟩ = some ((bcells (half s m k)).getD k (.bool false)) := by
  have hl : k < (bcells (half s m k)).length := by have := h.1; omega
  rw [h.cellAt k (by omega), List.getD_eq_getElem?_getD, List.getElem?_eq_getElem hl]; rfl
theorem filled_frozen {s : ByteArray} {w wr : World} {m k : Nat} (h : Filled s w m k wr) (j : Nat) : wr.frozen? ⟨w.heap.size, j, none⟩ = false := h.frozenAt j
theorem or_nibbles : ∀ a : Nat, a < 16 → ∀ b : Nat, b < 16 → bits .or .u8 ((a : Int) * 16 % 256) (b : Int) = ((a * 16 + b : Nat) : Int) := by decide +kernel
theorem half_set (l : List UInt8) (m k : Nat) (hk : k < m) (hl : k < l.length) : (l.take k ++ List.replicate (m - k) 0).set k l[k] = l.take (k + 1) ++ List.replicate (m - (k + 1)) 0 := by
  have e : l.take (k + 1) = l.take k ++ [l[k]] := List.take_succ_eq_append_getElem hl
  have hk' : (l.take k).length = k := by simp; omega
  rw [List.set_append_right (h := by omega), hk', Nat.sub_self, show m - k = (m - (k + 1)) + 1 by omega, List.replicate_succ, List.set_cons_zero, e, List.append_assoc]
  rfl
theorem filled_step {s : ByteArray} {w wr : World} {m k : Nat} (h : Filled s w m k wr) (hk : k < m) (h1 : 2 * k < s.size) (h2 : 2 * k + 1 < s.size) :
    Filled s w m (k + 1) (wr.setCell ⟨w.heap.size, k, none⟩ (.int .u8 (bits .or .u8 (↑(Hx.digVal s[2 * k]) * 16 % 256) ↑(Hx.digVal s[2 * k + 1])))) := by
  have hp := Hx.pairs_get s.data.toList k (by simpa using h2)
  obtain ⟨hl, hp⟩ := List.getElem?_eq_some_iff.1 hp
  have e : bits .or .u8 (↑(Hx.digVal s[2 * k]) * 16 % 256) ↑(Hx.digVal s[2 * k + 1]) = (((Hx.pairs s.data.toList)[k].toNat : Nat) : Int) := by
    rw [or_nibbles _ (Hx.digVal_lt _) _ (Hx.digVal_lt _), hp]
    unfold Hx.join
    have a1 := Hx.digVal_lt s[2 * k]
    have a2 := Hx.digVal_lt s[2 * k + 1]
    rw [UInt8.toNat_ofNat', Nat.mod_eq_of_lt]
    · rfl
    · have : Hx.digVal s[2 * k] * 16 + Hx.digVal s[2 * k + 1] < 256 := by omega
      exact this
  rw [e]
  have := (h.stored k (.int .u8 (((Hx.pairs s.data.toList)[k].toNat : Nat) : Int))).1
  rw [bcells_set] at this
  unfold half at this
  rw [half_set _ m k hk hl] at this
  exact this
theorem filled_end {s : ByteArray} {w wr : World} {m k : Nat} (h : Filled s w m k wr) (hb : Below w.heap.size w wr) (hk : m ≤ k) (h1 : 2 * m ≤ s.size) (h2 : s.size ≤ 2 * m) (he : Hx.bytesErr s.data.toList = 0) :
    BytesPost s w (.returned (.tuple #[.slice (some ⟨w.heap.size, 0, none⟩) m m, .int .i64 0])) wr := by
  have e : Hx.bytes s.data.toList = Hx.pairs s.data.toList := by unfold Hx.bytes; rw [if_pos he]
  have hl : (Hx.pairs s.data.toList).length = m := by rw [Hx.pairs_length]; simp; omega
  refine ⟨_, _, _, by rw [he]; rfl, ?_, hb⟩
  unfold Filled half at h
  rw [List.take_of_length_le (by omega), Nat.sub_eq_zero_of_le hk, List.replicate_zero, List.append_nil] at h
  rw [e, hl]
  exact h

set_option maxHeartbeats 400000 in
theorem hex_Bytes (s : ByteArray) (w : World) (hs : s.size ≤ maxLen) : Calls Tryd.prog 33 #[.string s] w (BytesPost s w) := by
  have hs' := hs
  unfold maxLen at hs'
  by_cases h1 : 2000 < s.size
  · have He := Lib.hid (bytesPost_err (s := s) (w := w) (wr := w) (r := 1) (by rw [allD_berr]; simp [h1]) (by decide) (Below.refl _ _))
    go_enter Tryd.func33, Tryd.ntmps33
    go_wp2
    go_ret2
    exact He.out
  · have hodd : s.size % 2 = 0 ∨ s.size % 2 = 1 := by omega
    rcases hodd with h2 | h2
    · cases hd : allD s
      · have He := Lib.hid (bytesPost_err (s := s) (w := w) (wr := w) (r := 3) (by rw [allD_berr]; simp [h1, hd]) (by decide) (Below.refl _ _))
        have h3 : ((s.size : Int) % 2 != 0) = false := by simp; omega
        have Hd := Lib.hid hd
        go_enter Tryd.func33, Tryd.ntmps33
        go_wp2_with (go_at_call 32; refine (hex_allDigits _ _ hs).mono ?_; rintro e w' ⟨rfl, rfl⟩)
        go_ret2
        exact He.out
      · have h3 : ((s.size : Int) % 2 != 0) = false := by simp; omega
        have he : Hx.bytesErr s.data.toList = 0 := by rw [allD_berr]; simp [h1, hd, h2]
        obtain ⟨m, hm1, hm2⟩ : ∃ m, 2 * m ≤ s.size ∧ s.size ≤ 2 * m := ⟨s.size / 2, by omega, by omega⟩
        have Hd := Lib.hid hd
        have He := Lib.hid he
        clear hd he h2
        obtain ⟨i0, hi, hz0, hz1, hz2⟩ := info_parts (P := Tryd.prog) (e := 5) (z := .int .u8 0) (size := 1) (bytes := 1) (by kernel_rfl)
        go_enter Tryd.func33, Tryd.ntmps33
        go_wp2_with (first
          | (go_at_call 32; refine (hex_allDigits _ _ hs).mono ?_; rintro e w' ⟨rfl, rfl⟩; have h4 : allD s = true := Hd.out)
          | (at_make; refine wpList_make_full _ rfl _ _ 22 rfl w.heap.size 5 i0 (.int .u8 0) 1 Tryd.underlying22 hi hz0 hz1 _ _ _ _ m rfl rfl ?m1 ?m2 ?m3 ?m4 ?m5 ?_))
        case m1 => omega
        case m2 => omega
        case m3 => rw [hz2]; omega
        case m4 => unfold maxLen; omega
        case m5 => exact Nat.le_refl _
        intro w1 hown hgrow
        have hbel : Below w.heap.size w w1 := (Below.refl _ _).grown hgrow (Nat.le_refl _) (fun k h => by cases h)
        have hown1 := filled_start (s := s) (m := m) hown
        clear hown hgrow hi hz0 hz1 hz2
        go_wp2
        go_loopw [28] (fun i wr => ∃ k : Nat, k ≤ m ∧ i = .int .i64 k ∧ Filled s w m k wr ∧ Below w.heap.size w wr) (fun i _ => m - (intOf i).toNat)
        case atStart => exact ⟨0, Nat.zero_le _, rfl, hown1, hbel⟩
        case round =>
          obtain ⟨k, hk, rfl, hf, hb⟩ := hrel
          by_cases hlt : k < m
          · have hc := filled_cell hf hlt
            have hz := filled_frozen hf k
            go_wp2_with (go_at_call 44; refine (hex_value _ _).mono ?_; rintro e w' ⟨rfl, rfl⟩)
            go_roundw
            case rel =>
              refine ⟨k + 1, by omega, by go_num, ?_, ?_⟩
              · exact filled_step hf hlt (by omega) (by omega)
              · exact hb.setCell (Nat.le_refl _) _
            case measure => simp [intOf]; omega
          · go_wp2
            go_ret2
            exact filled_end hf hb (by omega) hm1 hm2 He.out
    · have h3 : ((s.size : Int) % 2 != 0) = true := by simp; omega
      have He := Lib.hid (bytesPost_err (s := s) (w := w) (wr := w) (r := 3) (by rw [allD_berr]; simp [h1, h2]) (by decide) (Below.refl _ _))
      go_enter Tryd.func33, Tryd.ntmps33
      go_wp2
      go_ret2
      exact He.out
end Go.Proofs.YthknkfiofdfogaaDoor
