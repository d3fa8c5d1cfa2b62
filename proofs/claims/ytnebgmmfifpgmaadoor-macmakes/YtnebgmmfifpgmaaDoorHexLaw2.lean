/- The contracts of the reference's HexText and of sameBytes, and the walk of the law HexTells. -/
import Derived.Test.YtnebgmmfifpgmaaDoorHexRef
import Derived.Test.YtnebgmmfifpgmaaDoorHexText
import Derived.SizedLaws
namespace Go.Proofs.YtnebgmmfifpgmaaDoor
open Go.RowKit

/-- The digits' text so far: its first k letters, the rest zeros. -/
def Half (bs : List UInt8) (w : World) (n k : Nat) (wr : World) : Prop :=
  wr.ownsRow w.heap.size 5 1 (.slice (some ⟨w.heap.size, 0, none⟩) (2 * n) (2 * n)) (2 * n) (bcells ((Hx.text bs).take k ++ List.replicate (2 * n - k) 0))
theorem half_start {bs : List UInt8} {w w1 : World} {n : Nat}
    (h : w1.ownsRow w.heap.size 5 1 (.slice (some ⟨w.heap.size, 0, none⟩) (2 * n) (2 * n)) (2 * n) (madeCells #[Value.int .u8 0] (2 * n)).toList) : Half bs w n 0 w1 := by
  rw [toList_madeCells_one] at h
  unfold Half
  rw [List.take_zero, List.nil_append, Nat.sub_zero, bcells_zero]
  exact h

theorem half_cell {bs : List UInt8} {w wr : World} {n k : Nat} (h : Half bs w n k wr) (hk : k < 2 * n) : ∃ u, wr.cell? ⟨w.heap.size, k, none⟩ = some u := by
  have := h.1
  rw [h.cellAt k (by omega)]
  exact ⟨_, List.getElem?_eq_getElem (by omega)⟩
theorem half_step {bs : List UInt8} {w wr : World} {n k : Nat} (h : Half bs w n k wr) (hl : bs.length = n) (hk : k < 2 * n) (d : Int) (hd : ∀ x, (Hx.text bs)[k]? = some x → d = (x.toNat : Int)) :
    Half bs w n (k + 1) (wr.setCell ⟨w.heap.size, k, none⟩ (.int .u8 d)) := by
  have hl2 : k < (Hx.text bs).length := by rw [Hx.text_length]; omega
  rw [hd _ (List.getElem?_eq_getElem hl2)]
  have := (h.stored k (.int .u8 (((Hx.text bs)[k].toNat : Nat) : Int))).1
  rw [bcells_set, half_set _ _ _ hk hl2] at this
  exact this
theorem half_step2 {bs : List UInt8} {w wr : World} {n k : Nat} (h : Half bs w n k wr) (hl : bs.length = n) (hk : k < 2 * n) (u : Value) (d : Int) (hd : ∀ x, (Hx.text bs)[k]? = some x → d = (x.toNat : Int)) :
    Half bs w n (k + 1) ((wr.setCell ⟨w.heap.size, k, none⟩ u).setCell ⟨w.heap.size, k, none⟩ (.int .u8 d)) := by
  have hl2 : k < (Hx.text bs).length := by rw [Hx.text_length]; omega
  rw [hd _ (List.getElem?_eq_getElem hl2)]
  have := ((h.stored k u).1.stored k (.int .u8 (((Hx.text bs)[k].toNat : Nat) : Int))).1
  rw [List.set_set, bcells_set, half_set _ _ _ hk hl2] at this
  exact this
theorem dig_low (n : Nat) (h : n ≤ 9) : ((Hx.dig n).toNat : Int) = 48 + (n : Int) := by
  unfold Hx.dig; rw [if_pos h, UInt8.toNat_ofNat', Nat.mod_eq_of_lt (by omega)]; omega
theorem dig_high (n : Nat) (h : ¬ n ≤ 9) (h2 : n < 16) : ((Hx.dig n).toNat : Int) = 97 + (n : Int) - 10 := by
  unfold Hx.dig; rw [if_neg h, UInt8.toNat_ofNat', Nat.mod_eq_of_lt (by omega)]; omega

set_option maxHeartbeats 400000 in
theorem ref_HexText (a : Option Addr) (n c : Nat) (bs : List UInt8) (w : World) (h : BytesAt w w.heap.size a n bs) (hn : 2 * n ≤ 281474976710656) :
    Calls Tryd.prog 23 #[.slice a n c] w fun e w' => e = .returned (.string (strOf (Hx.text bs))) ∧ Below w.heap.size w w' := by
  obtain ⟨i0, hi, hz0, hz1, hz2⟩ := info_parts (P := Tryd.prog) (e := 5) (z := .int .u8 0) (size := 1) (bytes := 1) (by kernel_rfl)
  go_enter Tryd.func23, Tryd.ntmps23
  go_wp2_with (at_make; refine wpList_make_full _ rfl _ _ 22 rfl w.heap.size 5 i0 (.int .u8 0) 1 Tryd.underlying22 hi hz0 hz1 _ _ _ _ (2 * n) rfl rfl ?m0 ?m1 ?m2 ?m3 ?m4 ?_)
  case m0 => omega
  case m1 => omega
  case m2 => rw [hz2]; omega
  case m3 => unfold maxLen; omega
  case m4 => exact Nat.le_refl _
  intro w1 hown hgrow
  have hbel : Below w.heap.size w w1 := (Below.refl _ _).grown hgrow (Nat.le_refl _) (fun k h => by cases h)
  have hs := half_start (bs := bs) hown
  clear hgrow hown hi hz0 hz1 hz2
  have hlen := h.1
  go_wp2
  go_loopw [12] (fun i wr => ∃ k : Nat, k ≤ 2 * n ∧ i = .int .i64 k ∧ Half bs w n k wr ∧ Below w.heap.size w wr) (fun i _ => 2 * n - (intOf i).toNat)
  case atStart => exact ⟨0, Nat.zero_le _, rfl, hs, hbel⟩
  case round =>
    obtain ⟨k, hk, rfl, hf, hb⟩ := hrel
    by_cases hlt : k < 2 * n
    · obtain ⟨b, off, rfl, hbB, hc⟩ := h.2 (by omega)
      have hkb : k / 2 < bs.length := by omega
      have hcell : wr.cell? ⟨b, off + k / 2, none⟩ = some (.int .u8 (bs[k / 2].toNat : Int)) := (hb.cell (p := ⟨b, off + k / 2, none⟩) hbB).trans (hc (k / 2) hkb)
      have hx := bs[k / 2].toNat_lt
      have hb1 := and_one k (by omega)
      clear hc
      obtain ⟨u, hu⟩ := half_cell hf hlt
      have hfz := hf.frozenAt k
      have Hg := Lib.hid (Hx.text_get bs k hkb)
      have Ha := Lib.hid (and_nibble _ hx)
      rcases Nat.mod_two_eq_zero_or_one k with hev | hev
      · rw [hev] at hb1
        rw [if_pos hev] at Hg
        have H1 : ∀ x, (Hx.text bs)[k]? = some x → (x.toNat : Int) = ((Hx.dig (bs[k / 2].toNat / 16)).toNat : Int) := by
          intro x hx; rw [Hg.out] at hx; cases hx; rfl
        by_cases h9 : bs[k / 2].toNat / 16 ≤ 9
        · have hst := Lib.hid (half_step hf hlen hlt (48 + (bs[k / 2].toNat : Int) / 16) (fun x hx => by rw [H1 x hx, dig_low _ h9]; omega))
          clear hf H1
          go_wp2
          go_roundw
          case rel => exact ⟨k + 1, by omega, by go_num, hst.out, hb.setCell (Nat.le_refl _) _⟩
          case measure => simp [intOf]; omega
        · have hst := Lib.hid (half_step2 hf hlen hlt (.int .u8 (48 + (bs[k / 2].toNat : Int) / 16)) (97 + (bs[k / 2].toNat : Int) / 16 - 10) (fun x hx => by rw [H1 x hx, dig_high _ h9 (by omega)]; omega))
          clear hf H1
          go_wp2
          go_roundw
          case rel => exact ⟨k + 1, by omega, by go_num, hst.out, (hb.setCell (Nat.le_refl _) _).setCell (Nat.le_refl _) _⟩
          case measure => simp [intOf]; omega
      · rw [hev] at hb1
        rw [if_neg (by omega)] at Hg
        have H1 : ∀ x, (Hx.text bs)[k]? = some x → (x.toNat : Int) = ((Hx.dig (bs[k / 2].toNat % 16)).toNat : Int) := by
          intro x hx; rw [Hg.out] at hx; cases hx; rfl
        have ha := Ha.out
        by_cases h9 : bs[k / 2].toNat % 16 ≤ 9
        · have hst := Lib.hid (half_step hf hlen hlt (48 + (bs[k / 2].toNat : Int) % 16) (fun x hx => by rw [H1 x hx, dig_low _ h9]; omega))
          clear hf H1
          go_wp2
          go_roundw
          case rel => exact ⟨k + 1, by omega, by go_num, hst.out, hb.setCell (Nat.le_refl _) _⟩
          case measure => simp [intOf]; omega
        · have hst := Lib.hid (half_step2 hf hlen hlt (.int .u8 (48 + (bs[k / 2].toNat : Int) % 16)) (97 + (bs[k / 2].toNat : Int) % 16 - 10) (fun x hx => by rw [H1 x hx, dig_high _ h9 (by omega)]; omega))
          clear hf H1
          go_wp2
          go_roundw
          case rel => exact ⟨k + 1, by omega, by go_num, hst.out, (hb.setCell (Nat.le_refl _) _).setCell (Nat.le_refl _) _⟩
          case measure => simp [intOf]; omega
    · have ht : (Hx.text bs).take k ++ List.replicate (2 * n - k) 0 = Hx.text bs := by
        rw [List.take_of_length_le (by rw [Hx.text_length]; omega), show 2 * n - k = 0 by omega]; simp
      have hl : 2 * n = (Hx.text bs).length := by rw [Hx.text_length]; omega
      unfold Half at hf
      rw [ht] at hf
      have hcv := conv_bytes (P := Tryd.prog) (BytesAt.own (bs := Hx.text bs) (by rw [← hl]; exact hf)) 22 5 9 (2 * n) Tryd.underlying22 Tryd.underlying5 Tryd.underlying9
      clear hf ht hl hs
      go_wp2
      go_ret
      exact ⟨rfl, hb⟩
end Go.Proofs.YtnebgmmfifpgmaaDoor
