/- The walk of the law ShaLong. -/
import Derived.Test.YtfhddongflecpaaDoorShaSum
import Derived.Test.YtfhddongflecpaaDoorShaEval
import Derived.Test.YtfhddongflecpaaDoorHexText
import Derived.SizedLaws
import Derived.Lib.SlBytesConst
namespace Go.Proofs.YtfhddongflecpaaDoor
open Go.RowKit

theorem text_nil : strOf (Hx.text (Sh.sum [])) = ⟨#[101, 51, 98, 48, 99, 52, 52, 50, 57, 56, 102, 99, 49, 99, 49, 52, 57, 97, 102, 98, 102, 52, 99, 56, 57, 57, 54, 102, 98, 57, 50, 52, 50, 55, 97, 101, 52, 49, 101, 52, 54, 52, 57, 98, 57, 51, 52, 99, 97, 52, 57, 53, 57, 57, 49, 98, 55, 56, 53, 50, 98, 56, 53, 53]⟩ := by
  rw [Sh.sum_nil]; rfl
theorem text_abc : strOf (Hx.text (Sh.sum [97, 98, 99])) = ⟨#[98, 97, 55, 56, 49, 54, 98, 102, 56, 102, 48, 49, 99, 102, 101, 97, 52, 49, 52, 49, 52, 48, 100, 101, 53, 100, 97, 101, 50, 50, 50, 51, 98, 48, 48, 51, 54, 49, 97, 51, 57, 54, 49, 55, 55, 97, 57, 99, 98, 52, 49, 48, 102, 102, 54, 49, 102, 50, 48, 48, 49, 53, 97, 100]⟩ := by
  rw [Sh.sum_abc]; rfl
theorem none_bytes (w : World) : BytesAt w w.heap.size none 0 [] := ⟨rfl, fun h => absurd h (by omega)⟩
theorem abc_bytes (w : World) : BytesAt (w.alloc (.cells #[.int .u8 97, .int .u8 98, .int .u8 99] 5 (3, 4))) (w.alloc (.cells #[.int .u8 97, .int .u8 98, .int .u8 99] 5 (3, 4))).heap.size (some ⟨w.heap.size, 0, none⟩) 3 [97, 98, 99] := by
  refine ⟨rfl, fun _ => ⟨w.heap.size, 0, rfl, by simp, fun i hi => ?_⟩⟩
  rw [Nat.zero_add, cell_of_row _ _ i _ _ _ (heap_alloc_last w _)]
  match i, hi with
  | 0, _ => rfl
  | 1, _ => rfl
  | 2, _ => rfl

set_option maxRecDepth 100000 in
set_option maxHeartbeats 1000000 in
theorem law_ShaLong (a : Option Addr) (n c : Nat) (bs : List UInt8) (w : World) (h : BytesAt w w.heap.size a n bs) (hnc : n ≤ c) (hc : c ≤ reachBytes) (hT : Tabs w) :
    Calls Tryd.prog 4 #[.slice a n c] w fun e w' => e = .returned (.bool true) ∧ Below w.heap.size w w' := by
  unfold reachBytes at hc
  obtain ⟨m, xs, hx, hm, hle, hsel⟩ : ∃ m xs, BytesAt w w.heap.size a m xs ∧ xs.length = m ∧ m ≤ 900 ∧ ((n ≤ 900 ∧ m = n) ∨ (900 < n ∧ m = 900)) := by
    by_cases h9 : n ≤ 900
    · exact ⟨n, bs, h, h.1, h9, .inl ⟨h9, rfl⟩⟩
    · exact ⟨900, _, h.cut (m := 900) (by omega), (h.cut (m := 900) (by omega)).1, Nat.le_refl _, .inr ⟨by omega, rfl⟩⟩
  have Hm := Lib.hid hm
  have He := Lib.hid (sumOut_ok xs (by omega))
  have He0 := Lib.hid (sumOut_ok [] (by decide))
  have He3 := Lib.hid (sumOut_ok [97, 98, 99] (by decide))
  have HT := Lib.hid hT
  clear hm h hT
  rcases hsel with ⟨h9, rfl⟩ | ⟨h9, hmn⟩
  rotate_left
  focus
    have Hmn := Lib.hid hmn
    clear hmn
    go_enter Tryd.func4, Tryd.ntmps4
    go_wp2_with fail
    rw [← Hmn.out]
  rotate_left
  focus
    go_enter Tryd.func4, Tryd.ntmps4
    go_wp2_with fail
  all_goals
    refine (sha_Sum a _ c xs _ hx (by unfold maxLen; omega) HT.out).mono ?_
    rintro e w1 ⟨a1, n1, c1, rfl, ho1, hb1⟩
    rw [He.out.1]
    rw [He.out.2.2] at ho1
    have hn1 := (BytesAt.own ho1).1
    rw [Sh.sum_length] at hn1
    have z1 := hb1.size
    have HT1 := Lib.hid (HT.out.below hb1)
    subst hn1
    clear ho1 hx
    go_wp2_with fail
    refine (sha_Sum none 0 0 [] _ (none_bytes _) (by decide) HT1.out).mono ?_
    rintro e w2 ⟨a2, n2, c2, rfl, ho2, hb2⟩
    rw [He0.out.1]
    rw [He0.out.2.2] at ho2
    have z2 := hb2.size
    have HT2 := Lib.hid (HT1.out.below hb2)
    have o2 := BytesAt.own ho2
    have hn2 := o2.1
    rw [Sh.sum_length] at hn2
    subst hn2
    clear ho2
    have kc := Lib.run_convert_bytes_const (P := Tryd.prog) w2 22 5 #[.int .u8 97, .int .u8 98, .int .u8 99] 3 3 Tryd.underlying22 Tryd.underlying5
    go_wp2_with fail
    refine (sha_Sum _ 3 3 [97, 98, 99] _ (abc_bytes w2) (by decide) (HT2.out.below ((Below.refl _ _).alloc (Nat.le_refl _) _))).mono ?_
    rintro e w3 ⟨a3, n3, c3, rfl, ho3, hb3⟩
    clear kc
    rw [He3.out.1]
    rw [He3.out.2.2] at ho3
    have z3 := hb3.size
    have o3 := BytesAt.own ho3
    have hn3 := o3.1
    rw [Sh.sum_length] at hn3
    subst hn3
    have hbal : Below w2.heap.size w2 w3 := ((Below.refl _ _).alloc (Nat.le_refl _) _).trans (hb3.mono (by simp))
    have z4 : w2.heap.size ≤ w3.heap.size := hbal.size
    have o2' := (o2.below hbal).up z4
    clear ho3 o2 hb3 z3
    go_wp2_with fail
    refine (hex_Text a2 32 c2 _ _ o2' (by decide)).mono ?_
    rintro e w4 ⟨rfl, hb4⟩
    rw [text_nil]
    have z5 := hb4.size
    have o3' := (o3.below hb4).up z5
    go_wp2_with fail
    refine (hex_Text a3 32 c3 _ _ o3' (by decide)).mono ?_
    rintro e w5 ⟨rfl, hb5⟩
    rw [text_abc]
    go_wp2
    go_ret
    exact ⟨by simp, (hb1.trans (hb2.mono z1)).trans ((hbal.mono (by omega)).trans ((hb4.mono (by omega)).trans (hb5.mono (by omega))))⟩
end Go.Proofs.YtfhddongflecpaaDoor
