/- The walks of the laws HexBack and HexTurns. -/
import Derived.Test.YtcfkhkaheifbmaaHexBytes
import Derived.Test.YtcfkhkaheifbmaaHexText
import Derived.SizedLaws
namespace Go.Proofs.Ytcfkhkaheifbmaa
open Go.RowKit

theorem BytesAt.cut {w : World} {B n : Nat} {a : Option Addr} {bs : List UInt8} (h : BytesAt w B a n bs) {m : Nat} (hm : m ≤ n) : BytesAt w B a m (bs.take m) :=
  ⟨by rw [List.length_take, h.1]; omega, fun hp => by
    obtain ⟨b, off, e, hlt, hc⟩ := h.2 (by omega)
    exact ⟨b, off, e, hlt, fun i hi => by
      rw [hc i (by rw [List.length_take] at hi; omega), List.getElem_take]⟩⟩

theorem text_at (bs : List UInt8) (h : bs.length ≤ 900) : Hx.bytesErr (strOf (Hx.text bs)).data.toList = 0 ∧ Hx.bytes (strOf (Hx.text bs)).data.toList = bs := by
  rw [strOf_list]; exact Hx.bytes_text bs (by omega)

set_option maxHeartbeats 400000 in
theorem law_HexBack (a : Option Addr) (n c : Nat) (bs : List UInt8) (w : World) (h : BytesAt w w.heap.size a n bs) (hnc : n ≤ c) (hc : c ≤ reachBytes) :
    Calls Try.prog 5 #[.slice a n c] w fun e w' => e = .returned (.bool true) ∧ Below w.heap.size w w' := by
  unfold reachBytes at hc
  obtain ⟨m, xs, hx, hm, hle, hsel⟩ : ∃ m xs, BytesAt w w.heap.size a m xs ∧ xs.length = m ∧ m ≤ 900 ∧ ((n ≤ 900 ∧ m = n) ∨ (900 < n ∧ m = 900)) := by
    by_cases h9 : n ≤ 900
    · exact ⟨n, bs, h, h.1, h9, .inl ⟨h9, rfl⟩⟩
    · exact ⟨900, _, h.cut (m := 900) (by omega), (h.cut (m := 900) (by omega)).1, Nat.le_refl _, .inr ⟨by omega, rfl⟩⟩
  obtain ⟨he, hbs⟩ := text_at xs (by omega)
  have Hm := Lib.hid hm
  have He := Lib.hid he
  have Hbs := Lib.hid hbs
  have hsz : (strOf (Hx.text xs)).size ≤ maxLen := by rw [strOf_size, Hx.text_length]; unfold maxLen; omega
  have Hln := Lib.hid (show ((strOf (Hx.text xs)).size : Int) = 2 * (m : Int) by rw [strOf_size, Hx.text_length]; omega)
  clear hm he hbs h
  rcases hsel with ⟨h9, rfl⟩ | ⟨h9, rfl⟩ <;>
  · go_enter Try.func5, Try.ntmps5
    go_wp2_with fail
    refine (hex_Text a _ c xs _ hx (by omega)).mono ?_
    rintro e w1 ⟨rfl, hb1⟩
    go_wp2_with fail
    refine (hex_Bytes _ _ hsz).mono ?_
    rintro e w2 ⟨a2, n2, c2, rfl, ho2, hb2⟩
    rw [He.out]
    rw [Hbs.out] at ho2
    have z1 := hb1.size
    have z2 := hb2.size
    have h2 := (((hx.below hb1).up z1).below hb2)
    have k1 := conv_bytes (P := Try.prog) h2 22 5 9 c Try.underlying22 Try.underlying5 Try.underlying9
    have k2 := conv_bytes (P := Try.prog) (BytesAt.own ho2) 22 5 9 c2 Try.underlying22 Try.underlying5 Try.underlying9
    have k3 := Hln.out
    clear ho2 h2 hx
    go_wp2
    go_ret
    refine ⟨by simp, ?_⟩
    exact hb1.trans (hb2.mono z1)

theorem zero_aff : Hx.bytesErr [48, 97, 102, 102] = 0 ∧ Hx.bytes [48, 97, 102, 102] = [10, 255] := by decide +kernel

set_option maxHeartbeats 400000 in
theorem law_HexTurns (s : ByteArray) (w : World) (hr : s.size ≤ reachBytes) :
    Calls Try.prog 6 #[.string s] w fun e w' => e = .returned (.bool true) ∧ Below w.heap.size w w' := by
  have hs : s.size ≤ maxLen := Nat.le_trans hr (by decide)
  go_enter Try.func6, Try.ntmps6
  go_wp2_with fail
  refine (hex_Bytes s _ hs).mono ?_
  rintro e w1 ⟨a1, n1, c1, rfl, ho1, hb1⟩
  go_wp2_with fail
  refine (hex_Bytes ⟨#[48, 97, 102, 102]⟩ _ (by decide)).mono ?_
  rintro e w2 ⟨a2, n2, c2, rfl, ho2, hb2⟩
  have hl : (⟨#[48, 97, 102, 102]⟩ : ByteArray).data.toList = [48, 97, 102, 102] := rfl
  rw [hl] at ho2 ⊢
  rw [zero_aff.2] at ho2
  rw [zero_aff.1]
  have z1 := hb1.size
  have z2 := hb2.size
  have k2 := conv_bytes (P := Try.prog) (BytesAt.own ho2) 22 5 9 c2 Try.underlying22 Try.underlying5 Try.underlying9
  have k3 : strOf [10, 255] = ⟨#[10, 255]⟩ := rfl
  rw [k3] at k2
  have o1 := (BytesAt.own ho1).below hb2
  clear ho2 hl k3 ho1
  by_cases he : Hx.bytesErr s.data.toList = 0
  · have Ht := Lib.hid (Hx.text_bytes _ he)
    have hb0 : (Hx.bytes s.data.toList).length ≤ 1000 := by
      have hh := he
      rw [allD_berr] at hh
      have h2 : ¬ 2000 < s.size := fun h => by rw [if_pos h] at hh; cases hh
      unfold Hx.bytes
      rw [if_pos he, Hx.pairs_length]
      simp; omega
    have hn := o1.1
    rw [he]
    have Hn := Lib.hid hn
    clear he hn
    go_wp2_with fail
    refine (hex_Text _ _ _ _ _ (o1.up z2) (by have := Hn.out; omega)).mono ?_
    rintro e w3 ⟨rfl, hb3⟩
    rw [Ht.out, strOf_eq]
    go_wp2
    go_ret
    exact ⟨by simp, (hb1.trans (hb2.mono z1)).trans (hb3.mono (by omega))⟩
  · have hn := o1.1
    rw [Hx.bytes_err _ he] at hn
    have h0 : n1 = 0 := hn.symm
    subst h0
    have he2 : (((Hx.bytesErr s.data.toList : Nat) : Int) != 0) = true := by simp; omega
    clear he hn o1
    go_wp2
    go_ret
    exact ⟨by simp, hb1.trans (hb2.mono z1)⟩
end Go.Proofs.Ytcfkhkaheifbmaa
