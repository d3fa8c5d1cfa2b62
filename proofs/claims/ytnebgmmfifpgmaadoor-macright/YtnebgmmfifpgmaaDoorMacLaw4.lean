/- The walk of the law MacRight. -/
import Derived.Test.YtnebgmmfifpgmaaDoorMacLaw3
import Derived.Test.YtnebgmmfifpgmaaDoorKeepTurned
import Derived.Deep.RegionHeld3
import Derived.OpenShut
import Derived.SizedLaws
namespace Go.Proofs.YtnebgmmfifpgmaaDoor
open Go.RowKit

theorem key_from (n : Int) (p : Nat) (w0 W : World) (hW : Below w0.heap.size w0 W) (HK : ∀ W, Calls Tryd.prog 13 #[.int .i64 n] W fun e w' => e = .returned (.string (keyOf p)) ∧ Below W.heap.size W w') :
    Calls Tryd.prog 13 #[.int .i64 n] W fun e w' => e = .returned (.string (keyOf p)) ∧ Below w0.heap.size w0 w' :=
  (HK W).mono fun _ _ ⟨he, hb⟩ => ⟨he, hW.trans (hb.mono hW.size)⟩
theorem right_from (p : Nat) (hp : p < 8) (r : Bool) (a : Option Addr) (n c : Nat) (bs : List UInt8) (a' : Option Addr) (n' c' : Nat) (ts : List UInt8) (w0 W : World) (hW : Below w0.heap.size w0 W)
    (h : BytesAt w0 w0.heap.size a n bs) (hnil : a = none → n = 0 ∧ c = 0) (hn : n ≤ 936) (h' : BytesAt W W.heap.size a' n' ts) (hn' : n' ≤ maxLen) (hT : Tabs w0) (hr : decide ((Mc.tagOut (keyOf p).data.toList bs).take 16 = ts) = r) :
    Calls Tryd.prog 11 #[.string (keyOf p), .slice a n c, .slice a' n' c'] W fun e w' => e = .returned (.tuple #[.bool r, .int .i64 0]) ∧ Below w0.heap.size w0 w' := by
  have ht := key_tag_ok p hp bs (by rw [h.1]; exact hn)
  refine (mac_Right (keyOf p) a n c bs a' n' c' ts W (by rw [(keyOf_good p hp).1]; decide) ((h.below hW).up hW.size) hnil (Nat.le_trans hn (by decide)) h' hn' (hT.below hW)).mono ?_
  rintro e w' ⟨rfl, hb⟩
  refine ⟨?_, hW.trans (hb.mono hW.size)⟩
  rw [right_ok _ _ _ ht.1, hr, ht.1]
  rfl
theorem turned_from (a : Option Addr) (n c : Nat) (bs : List UInt8) (at_ : Int) (by_ : UInt8) (w0 W : World) (hW : Below w0.heap.size w0 W) (h : BytesAt w0 w0.heap.size a n bs) (hnil : a = none → n = 0 ∧ c = 0) (hn : n ≤ 140737488355328) (h0 : 0 < n)
    (g0 : -9223372036854775808 ≤ at_) (g1 : at_ ≤ 9223372036854775807) :
    Calls Tryd.prog 14 #[.slice a n c, .int .i64 at_, .int .u8 (by_.toNat : Int)] W fun e w' => ∃ a1 c1, e = .returned (.slice a1 n c1) ∧ BytesAt w' w'.heap.size a1 n (turned bs at_ by_) ∧ Below w0.heap.size w0 w' := by
  have hl := h.1
  refine (keep_Turned a n c bs at_ by_ W ((h.below hW).up hW.size) hnil hn h0 g0 g1).mono ?_
  rintro e w' ⟨a1, n1, c1, rfl, ho, hb⟩
  have o := BytesAt.own ho
  obtain rfl : n = n1 := by rw [← o.1, turned_length, hl]
  exact ⟨a1, c1, rfl, o, hW.trans (hb.mono hW.size)⟩
theorem bytes_from {w0 W : World} {a : Option Addr} {n : Nat} {bs : List UInt8} (h : BytesAt w0 w0.heap.size a n bs) (hW : Below w0.heap.size w0 W) : BytesAt W W.heap.size a n bs := (h.below hW).up hW.size

theorem right_turned (p : Nat) (xs : List UInt8) (at_ : Int) (B : UInt8) (h : (Mc.tagOut (keyOf p).data.toList xs).length = 32) : decide ((Mc.tagOut (keyOf p).data.toList xs).take 16 = turned ((Mc.tagOut (keyOf p).data.toList xs).take 16) at_ B) = false :=
  decide_eq_false (turned_ne _ _ _ (by rw [List.length_take, h]; decide))
theorem right_short (p : Nat) (xs : List UInt8) (h : (Mc.tagOut (keyOf p).data.toList xs).length = 32) : decide ((Mc.tagOut (keyOf p).data.toList xs).take 16 = (Mc.tagOut (keyOf p).data.toList xs).take 15) = false :=
  decide_eq_false (fun e => by have := congrArg List.length e; rw [List.length_take, List.length_take, h] at this; omega)

set_option maxRecDepth 100000 in
set_option maxHeartbeats 1000000 in
theorem law_MacRight (n : Int) (a : Option Addr) (m c : Nat) (bs : List UInt8) (at_ : Int) (by_ : Int) (w : World) (hw : (Lit.int .i64 n).wf = true) (h : BytesAt w w.heap.size a m bs) (hnc : m ≤ c) (hnil : a = none → m = 0 ∧ c = 0) (hc : c ≤ reachBytes)
    (hw2 : (Lit.int .i64 at_).wf = true) (hw3 : (Lit.int .u8 by_).wf = true) (hT : Tabs w) :
    Calls Tryd.prog 5 #[.int .i64 n, .slice a m c, .int .i64 at_, .int .u8 by_] w fun e w' => e = .returned (.bool true) ∧ Below w.heap.size w w' := by
  have hb1 := bounds_i64 hw
  have hb2 := bounds_i64 hw2
  have hb3 := bounds_u8 hw3
  obtain ⟨B, rfl⟩ : ∃ B : UInt8, by_ = (B.toNat : Int) := ⟨UInt8.ofNat by_.toNat, by rw [UInt8.toNat_ofNat', Nat.mod_eq_of_lt (by omega)]; omega⟩
  unfold reachBytes at hc
  obtain ⟨g0, g1⟩ : -9223372036854775808 ≤ at_ ∧ at_ ≤ 9223372036854775807 := hb2
  obtain ⟨h0, h1⟩ : -9223372036854775808 ≤ n ∧ n ≤ 9223372036854775807 := hb1
  have hp := pick_lt n 8 (by decide)
  have HK := Lib.hid (fun W => keep_Key n W h0 h1)
  generalize pick n 8 = p at *
  obtain ⟨k, hkm⟩ : ∃ k : Nat, k = (min (m : Int) 900).toNat := ⟨_, rfl⟩
  obtain ⟨hk9, hkm2⟩ : k ≤ 900 ∧ k ≤ m := by omega
  have hx := h.cut hkm2
  generalize bs.take k = xs at hx
  have hk := hx.1
  have Hkm := Lib.hid hkm
  have Hx := Lib.hid hx
  have Hnil : Hid (a = none → k = 0 ∧ c = 0) := Lib.hid (fun e => by have := hnil e; omega)
  have HT := Lib.hid hT
  have Ht := Lib.hid (key_tag_ok p hp xs (by omega))
  have HS := Lib.hid (show (keyOf p).size ≤ maxLen by rw [(keyOf_good p hp).1]; decide)
  clear hw hw2 hw3 hb3 hk h hx hnil hT hkm
  go_enter Tryd.func5, Tryd.ntmps5
  go_wp2_with fail
  rw [← Hkm.out]
  refine (HK.out _).mono ?_
  rintro e w1 ⟨rfl, hb1⟩
  go_wp2_with fail
  refine (mac_Tag _ _ _ _ xs _ HS.out (bytes_from Hx.out hb1) Hnil.out (by unfold maxLen; omega) (HT.out.below hb1)).mono ?_
  rintro e w2 ⟨a2, n2, c2, rfl, ho2, hb2⟩
  rw [Ht.out.1]
  have o2 := BytesAt.own ho2
  obtain rfl : n2 = 32 := by rw [← o2.1, Ht.out.2]
  rw [Ht.out.2] at ho2
  have hcap := own_cap ho2
  obtain ⟨g, rfl, -, -⟩ := own_form ho2 (by decide)
  have H16 := Lib.hid (o2.cut (m := 16) (by decide))
  have H15 := Lib.hid (o2.cut (m := 15) (by decide))
  have HB2 := Lib.hid (hb1.trans (hb2.mono hb1.size))
  have Hx2 := Lib.hid (bytes_from Hx.out HB2.out)
  have HT2 := Lib.hid (HT.out.below HB2.out)
  have hc1 : (16 : Int) ≤ (c2 : Int) := by omega
  have hc2 : (15 : Int) ≤ (c2 : Int) := by omega
  have hB : Below w2.heap.size w2 w2 := Below.refl _ _
  clear ho2 o2 hb1 hb2 hcap
  rw [show ((0 : Nat) : Int) = (0 : Int) from rfl]
  go_wp2_with fail
  go_region_held3 (fun W => Below w2.heap.size w2 W) (first | assumption | (exact Below.drew (by assumption)))
    (first
      | (go_at_call 13; refine (key_from n p w2 _ (by assumption) HK.out).mono ?_; rintro e w3 ⟨rfl, hB3⟩)
      | (go_at_call 11; refine (right_from p hp true _ _ _ xs _ _ _ _ w2 _ (by assumption) Hx2.out Hnil.out (by omega) (bytes_from H16.out (by assumption)) (by decide) HT2.out (decide_eq_true rfl)).mono ?_; rintro e w4 ⟨rfl, hB4⟩))
  clear hB3 hB
  go_wp2_with fail
  go_region_held3 (fun W => Below w2.heap.size w2 W) (first | assumption | (exact Below.drew (by assumption)))
    (first
      | (go_at_call 13; refine (key_from n p w2 _ (by assumption) HK.out).mono ?_; rintro e w5 ⟨rfl, hB5⟩)
      | (go_at_call 14; refine (turned_from _ 16 c2 _ at_ B w2 _ (by assumption) H16.out (fun h => by cases h) (by decide) (by decide) g0 g1).mono ?_; rintro e w6 ⟨a6, c6, rfl, o6, hB6⟩)
      | (go_at_call 11; refine (right_from p hp false _ _ _ xs _ _ _ _ w2 _ (by assumption) Hx2.out Hnil.out (by omega) (by assumption) (by decide) HT2.out (right_turned p xs at_ B Ht.out.2)).mono ?_; rintro e w7 ⟨rfl, hB7⟩))
  clear hB5 hB6 hB4 o6
  go_wp2_with fail
  go_region_held3 (fun W => Below w2.heap.size w2 W) (first | assumption | (exact Below.drew (by assumption)))
    (first
      | (go_at_call 13; refine (key_from n p w2 _ (by assumption) HK.out).mono ?_; rintro e w8 ⟨rfl, hB8⟩)
      | (go_at_call 11; refine (right_from p hp false _ _ _ xs _ _ _ _ w2 _ (by assumption) Hx2.out Hnil.out (by omega) (bytes_from H15.out (by assumption)) (by decide) HT2.out (right_short p xs Ht.out.2)).mono ?_; rintro e w9 ⟨rfl, hB9⟩))
  have hB := HB2.out.trans (hB9.mono HB2.out.size)
  clear hB7 hB8 hB9
  go_wp2
  go_ret
  exact ⟨by simp, hB⟩
end Go.Proofs.YtnebgmmfifpgmaaDoor
