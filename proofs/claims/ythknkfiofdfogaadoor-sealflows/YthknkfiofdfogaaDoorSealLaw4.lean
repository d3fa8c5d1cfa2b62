/- The walk of the law SealFlows. -/
import Derived.Test.YthknkfiofdfogaaDoorSealCode
import Derived.Test.YthknkfiofdfogaaDoorSealFacts
import Derived.Test.YthknkfiofdfogaaDoorSame2
import Derived.OpenShut
import Derived.SizedLaws
import Derived.BigQuiet
namespace Go.Proofs.YthknkfiofdfogaaDoor
open Go.RowKit

theorem flow_byte (ks : List UInt8) (ctr : Nat) (xs : List UInt8) (i : Nat) (h : i < xs.length) : (Sl.sealRaw ks ctr xs).getD i 0 = xs.getD i 0 ^^^ (Sl.stream ks ctr xs.length).getD i 0 := by
  have hl := Sl.stream_length ks ctr xs.length
  have hx : (Sl.xorL (Sl.stream ks ctr xs.length) xs).length = xs.length := by rw [Sl.xorL_length _ _ hl, hl]
  unfold Sl.sealRaw
  rw [List.getD_eq_getElem?_getD, List.getElem?_append_left (by omega)]
  unfold Sl.xorL
  rw [List.getElem?_zipWith, List.getElem?_eq_getElem (show i < (Sl.stream ks ctr xs.length).length by omega), List.getElem?_eq_getElem h, List.getD_eq_getElem?_getD, List.getElem?_eq_getElem h, List.getD_eq_getElem?_getD, List.getElem?_eq_getElem (show i < (Sl.stream ks ctr xs.length).length by omega)]
  exact UInt8.xor_comm _ _
theorem u8_bne (a b : UInt8) (h : a = b) : ((a.toNat : Int) != (b.toNat : Int)) = false := by subst h; simp

set_option maxRecDepth 100000 in
set_option maxHeartbeats 2000000 in
theorem law_SealFlows (n counter a_ : Int) (a : Option Addr) (m c : Nat) (bs : List UInt8) (w : World) (hw : (Lit.int .i64 n).wf = true) (hw2 : (Lit.int .i64 counter).wf = true) (hw3 : (Lit.int .i64 a_).wf = true) (h : BytesAt w w.heap.size a m bs) (hnc : m ≤ c) (hnil : a = none → m = 0 ∧ c = 0) (hc : c ≤ reachBytes) (hT : Tabs w) :
    Calls Tryd.prog 8 #[.int .i64 n, .int .i64 counter, .int .i64 a_, .slice a m c] w fun e w' => e = .returned (.bool true) ∧ Below w.heap.size w w' := by
  obtain ⟨h0, h1⟩ := bounds_i64 hw
  obtain ⟨g0, g1⟩ := bounds_i64 hw2
  obtain ⟨t0, t1⟩ := bounds_i64 hw3
  unfold reachBytes at hc
  have hp := pick_lt n 8 (by decide)
  have HK := Lib.hid (fun W => keep_Key n W h0 h1)
  generalize pick n 8 = p at *
  have hct := pick_lt counter 1099511627777 (by decide)
  have HC := Lib.hid (fun W => keep_picked counter 1099511627777 W g0 g1 (by decide) (by decide))
  generalize pick counter 1099511627777 = ctr at *
  have hct' : ctr ≤ 1099511627776 := by omega
  obtain ⟨k, hkm⟩ : ∃ k : Nat, k = (min (m : Int) 200).toNat := ⟨_, rfl⟩
  obtain ⟨hk9, hkm2⟩ : k ≤ 200 ∧ k ≤ m := by omega
  have hac := pick_lt a_ (k + 1) (by omega)
  have HA := Lib.hid (fun W => keep_picked a_ (k + 1) W t0 t1 (by omega) (by omega))
  generalize pick a_ (k + 1) = ac at *
  have hx := h.cut hkm2
  generalize bs.take k = xs at hx
  have Hl := Lib.hid hx.1
  have Hkm := Lib.hid hkm
  have Hx := Lib.hid hx
  have Hnil : Hid (a = none → k = 0 ∧ c = 0) := Lib.hid (fun e => by have := hnil e; omega)
  have HT := Lib.hid hT
  have Hs := Lib.hid (key_seal p hp ctr xs hct' (by rw [hx.1]; exact hk9))
  have K1 := Lib.hid (key_stream p hp ctr k hct' (by omega))
  have K2 := Lib.hid (key_stream p hp ctr ac hct' (by omega))
  have K3 := Lib.hid (key_stream p hp ctr 5 hct' (by omega))
  have HS := Lib.hid (show (keyOf p).size ≤ maxLen by rw [(keyOf_good p hp).1]; decide)
  clear hw hw2 hw3 h hx hnil hT hkm
  go_enter Tryd.func8, Tryd.ntmps8
  go_wp2_with fail
  refine (HC.out _).mono ?_
  rintro e w0 ⟨rfl, rfl⟩
  rw [← Hkm.out]
  go_wp2_with fail
  refine (HA.out _).mono ?_
  rintro e w0 ⟨rfl, rfl⟩
  go_wp2_with fail
  refine (HK.out _).mono ?_
  rintro e w1 ⟨rfl, hb1⟩
  go_wp2_with fail
  refine (seal_Stream _ (ctr : Int) (k : Int) _ HS.out (by omega) (by omega) (by omega) (by omega) (HT.out.below hb1)).mono ?_
  rintro e w2 ⟨a2, n2, c2, rfl, ho2, hb2⟩
  rw [K1.out.1]
  rw [K1.out.2] at ho2
  have hn2 := (BytesAt.own ho2).1
  rw [Sl.stream_length] at hn2 ho2
  subst hn2
  have hB2 := hb1.trans (hb2.mono hb1.size)
  have hcap2 := own_cap ho2
  have hni2 := own_nil ho2
  have O2 : Hid (BytesAt w2 w2.heap.size a2 k (Sl.stream (ksOf p) ctr k)) := Lib.hid (BytesAt.own (by rw [Sl.stream_length]; exact ho2))
  have Hni := Lib.hid hni2
  clear hb1 hb2 ho2 hni2
  rw [show ((0 : Nat) : Int) = (0 : Int) from rfl]
  go_wp2_with fail
  refine (HK.out _).mono ?_
  rintro e w3 ⟨rfl, hb3⟩
  have hB3 := hB2.trans (hb3.mono hB2.size)
  go_wp2_with fail
  refine (seal_Stream _ (ctr : Int) (ac : Int) _ HS.out (by omega) (by omega) (by omega) (by omega) (HT.out.below hB3)).mono ?_
  rintro e w4 ⟨a4, n4, c4, rfl, ho4, hb4⟩
  rw [K2.out.1]
  rw [K2.out.2] at ho4
  have hn4 := (BytesAt.own ho4).1
  rw [Sl.stream_length] at hn4
  subst hn4
  have hB4 := hB3.trans (hb4.mono hB3.size)
  have O4 := Lib.hid (BytesAt.own ho4)
  have O24 := Lib.hid ((O2.out.below (hb3.trans (hb4.mono hb3.size))).up (Nat.le_trans hb3.size hb4.size))
  clear hB2 hB3 hb3 hb4 ho4 O2
  rw [show ((0 : Nat) : Int) = (0 : Int) from rfl]
  go_wp2_with fail
  refine (HK.out _).mono ?_
  rintro e w5 ⟨rfl, hb5⟩
  have hB5 := hB4.trans (hb5.mono hB4.size)
  go_wp2_with fail
  refine (seal_Seal _ (ctr : Int) a k c xs _ HS.out (by omega) (by omega) ((Hx.out.below hB5).up hB5.size) Hnil.out (by unfold maxLen; omega) (HT.out.below hB5)).mono ?_
  rintro e w6 ⟨a6, n6, c6, rfl, ho6, hb6⟩
  rw [Hs.out.1]
  rw [Hs.out.2] at ho6
  have o6 := BytesAt.own ho6
  have hn6 : n6 = k + 16 := by rw [← o6.1, Sl.sealRaw_length, Hl.out]
  subst hn6
  have hB6 := hB5.trans (hb6.mono hB5.size)
  have hb46 := hb5.trans (hb6.mono hb5.size)
  have O6 := Lib.hid o6
  have O46 := Lib.hid ((O4.out.below hb46).up hb46.size)
  have O26 := Lib.hid ((O24.out.below hb46).up hb46.size)
  clear hB4 hB5 hb5 hb6 hb46 ho6 o6 O4 O24
  rw [show ((0 : Nat) : Int) = (0 : Int) from rfl]
  go_wp2_with fail
  refine (HK.out _).mono ?_
  rintro e w7 ⟨rfl, hb7⟩
  have hB7 := hB6.trans (hb7.mono hB6.size)
  go_wp2_with fail
  refine (seal_Stream _ (ctr : Int) ((5 : Nat) : Int) _ HS.out (by omega) (by omega) (by omega) (by omega) (HT.out.below hB7)).mono ?_
  rintro e w8 ⟨a8, n8, c8, rfl, ho8, hb8⟩
  rw [K3.out.1]
  rw [K3.out.2] at ho8
  have hn8 := (BytesAt.own ho8).1
  rw [Sl.stream_length] at hn8
  subst hn8
  have hB8 := hB7.trans (hb8.mono hB7.size)
  have hb68 := hb7.trans (hb8.mono hb7.size)
  have O48 := (O46.out.below hb68).up hb68.size
  have O28 := (O26.out.below hb68).up hb68.size
  have O68 := (O6.out.below hb68).up hb68.size
  have hcut := O28.cut (m := ac) (by omega)
  rw [Sl.stream_take _ _ _ _ (show ac ≤ k by omega)] at hcut
  have f1 := fun q => conv_bytes (P := Tryd.prog) (hcut.drewN q) 22 5 9 c2 Tryd.underlying22 Tryd.underlying5 Tryd.underlying9
  have f2 := fun q => conv_bytes (P := Tryd.prog) (O48.drewN q) 22 5 9 c4 Tryd.underlying22 Tryd.underlying5 Tryd.underlying9
  have hq := strOf_bne (Sl.stream (ksOf p) ctr ac) (Sl.stream (ksOf p) ctr ac)
  rw [decide_eq_true rfl, Bool.not_true] at hq
  generalize strOf (Sl.stream (ksOf p) ctr ac) = S1 at *
  have H28 := Lib.hid O28
  have H68 := Lib.hid O68
  clear hB6 hB7 hb7 hb8 hb68 ho8 O46 O26 O6 O48 O28 O68 hcut
  have q1 : (ac : Int) ≤ (c2 : Int) := by omega
  have q2 : ((k : Int) + 16 < (k : Int)) = False := by simp; omega
  have q3 : ((k : Int) != (k : Int)) = false := by simp
  rw [show ((0 : Nat) : Int) = (0 : Int) from rfl]
  go_wp2_with fail
  go_quiet (fail)
  obtain ⟨W8, hW8⟩ : ∃ W8, W8 = w8.drewN nq := ⟨_, rfl⟩
  have B2 : Hid (BytesAt W8 W8.heap.size a2 k (Sl.stream (ksOf p) ctr k)) := Lib.hid (by rw [hW8]; simpa using H28.out.drewN nq)
  have B6 : Hid (BytesAt W8 W8.heap.size a6 (k + 16) (Sl.sealRaw (ksOf p) ctr xs)) := Lib.hid (by rw [hW8]; simpa using H68.out.drewN nq)
  have hBW : Below w.heap.size w W8 := by rw [hW8]; exact below_drewN hB8 nq
  have BX : Hid (BytesAt W8 W8.heap.size a k xs) := Lib.hid ((Hx.out.below hBW).up hBW.size)
  rw [← hW8]
  clear hW8 hB8 H28 H68 f1 f2 hq
  go_wp2
  go_loopw [106] (fun i wr => ∃ j : Nat, j ≤ k ∧ i = .int .i64 j ∧ Below W8.heap.size W8 wr) (fun i _ => k - (intOf i).toNat)
  case atStart => exact ⟨0, Nat.zero_le _, rfl, Below.refl _ _⟩
  case round =>
    obtain ⟨j, hj, rfl, hB⟩ := hrel
    by_cases hlt : j < k
    · obtain ⟨gx, ox, rfl, cx⟩ := bytes_lt (BX.out.below hB) hlt
      obtain ⟨g2, o2, rfl, cs2⟩ := bytes_lt (B2.out.below hB) hlt
      obtain ⟨g6, o6, rfl, cs6⟩ := bytes_lt (B6.out.below hB) (show j < k + 16 by omega)
      have hfb := flow_byte (ksOf p) ctr xs j (by rw [Hl.out]; exact hlt)
      rw [Hl.out] at hfb
      rw [hfb] at cs6
      have x1 := xor_u8 (xs.getD j 0) ((Sl.stream (ksOf p) ctr k).getD j 0)
      clear hfb
      generalize xs.getD j 0 ^^^ (Sl.stream (ksOf p) ctr k).getD j 0 = Z at *
      generalize xs.getD j 0 = X at *
      generalize (Sl.stream (ksOf p) ctr k).getD j 0 = Y at *
      have hj16 : (j : Int) < (k : Int) + 16 := by omega
      go_wp2_with fail
      go_quiet (fail)
      have hBq := below_drewN hB nq
      obtain ⟨W9, hW9⟩ : ∃ W9, W9 = wr.drewN nq := ⟨_, rfl⟩
      rw [← hW9] at hBq
      rw [← hW9]
      clear hW9 cx cs2 cs6 hB
      go_wp2
      go_roundw
      case rel => exact ⟨j + 1, by omega, by go_num, hBq⟩
      case measure => simp [intOf]; omega
    · obtain rfl : j = k := by omega
      go_wp2
      go_ret
      exact ⟨rfl, hBW.trans (hB.mono hBW.size)⟩
end Go.Proofs.YthknkfiofdfogaaDoor
