/- The walk of the law SealStrict. -/
import Derived.Test.YthknkfiofdfogaaDoorSealCode
import Derived.Test.YthknkfiofdfogaaDoorSealFacts
import Derived.Test.YthknkfiofdfogaaDoorKeepFrom
import Derived.Test.YthknkfiofdfogaaDoorKeepConcat
import Derived.Deep.RegionHeld3
import Derived.OpenShut
import Derived.SizedLaws
namespace Go.Proofs.YthknkfiofdfogaaDoor
open Go.RowKit

theorem bytes_some {w : World} {B n : Nat} {a : Option Addr} {bs : List UInt8} (h : BytesAt w B a n bs) (h0 : 0 < n) {c : Nat} : a = none → n = 0 ∧ c = 0 := by
  intro e; obtain ⟨b, off, e', _⟩ := h.2 h0; rw [e] at e'; cases e'
theorem BytesAt.rest {w : World} {B n g : Nat} {bs : List UInt8} (h : BytesAt w B (some ⟨g, 0, none⟩) n bs) {k : Nat} (hk : k < n) : BytesAt w B (some ⟨g, k, none⟩) (n - k) (bs.drop k) := by
  refine ⟨by rw [List.length_drop, h.1], fun _ => ?_⟩
  obtain ⟨b, off, e, hlt, hc⟩ := h.2 (by omega)
  injection e with e
  injection e with e1 e2 _
  subst e1; subst e2
  refine ⟨g, k, rfl, hlt, fun i hi => ?_⟩
  rw [List.length_drop] at hi
  have := hc (k + i) (by omega)
  rw [Nat.zero_add] at this
  rw [this, List.getElem_drop]
theorem open_from (p : Nat) (hp : p < 8) (ctr : Nat) (hctr : ctr ≤ 1099511627776) (er : Nat) (a : Option Addr) (n c : Nat) (xs : List UInt8) (w0 W : World) (hW : Below w0.heap.size w0 W) (h : BytesAt W W.heap.size a n xs) (hnc : n ≤ c) (hn : n ≤ 1000) (hT : Tabs w0)
    (he : Sl.openErr (keyOf p).data.toList (ctr : Int) xs = er) (ho : Sl.openOut (keyOf p).data.toList (ctr : Int) xs = []) :
    Calls Tryd.prog 14 #[.string (keyOf p), .int .i64 (ctr : Int), .slice a n c] W fun e w' => ∃ a1 c1, e = .returned (.tuple #[.slice a1 0 c1, .int .i64 (er : Int)]) ∧ Below w0.heap.size w0 w' := by
  refine (seal_Open (keyOf p) (ctr : Int) a n c xs W (by rw [(keyOf_good p hp).1]; decide) (by omega) (by omega) h hnc (Nat.le_trans hn (by decide)) (hT.below hW)).mono ?_
  rintro e w' ⟨a1, n1, c1, rfl, ho1, hb⟩
  rw [ho] at ho1
  have hn1 := (BytesAt.own ho1).1
  obtain rfl : n1 = 0 := hn1.symm
  exact ⟨a1, c1, by rw [he], hW.trans (hb.mono hW.size)⟩
theorem concat_from (a b : Option Addr) (n m ca cb : Nat) (xs ys : List UInt8) (t : TypeId) (w0 W : World) (hW : Below w0.heap.size w0 W) (hx : BytesAt w0 w0.heap.size a n xs) (hy : BytesAt W W.heap.size b m ys) (hna : a = none → n = 0 ∧ ca = 0) (hm0 : 0 < m) (hn : n ≤ 1000) (hm : m ≤ 1000) :
    Calls Tryd.prog 18 #[.slice (some ⟨W.heap.size, 0, none⟩) 2 2] (W.alloc (.cells #[.slice a n ca, .slice b m cb] t)) fun e w' => ∃ a1 c1, e = .returned (.slice a1 (n + m) c1) ∧ BytesAt w' w'.heap.size a1 (n + m) (xs ++ ys) ∧ n + m ≤ c1 ∧ Below w0.heap.size w0 w' := by
  have hA : Below W.heap.size W (W.alloc (.cells #[.slice a n ca, .slice b m cb] t)) := (Below.refl _ _).alloc (Nat.le_refl _) _
  have hc := two_cells W (.slice a n ca) (.slice b m cb) t
  have hl : (xs ++ ys).length = n + m := by rw [List.length_append, hx.1, hy.1]
  have hx2 := ((hx.below hW).up hW.size)
  refine (slices_Concat W.heap.size 2 a b n m ca cb xs ys _ (by simp) hc.1 hc.2 ((hx2.below hA).up hA.size) ((hy.below hA).up hA.size) hna (bytes_some hy hm0) (by omega) (by omega) (by omega)).mono ?_
  rintro e w' ⟨a1, n1, c1, rfl, ho, hb⟩
  have o := BytesAt.own ho
  obtain rfl : n1 = n + m := by rw [← o.1, hl]
  rw [hl] at ho
  exact ⟨a1, c1, rfl, o, (own_cap ho).1, (hW.trans (hA.mono hW.size)).trans (hb.mono (Nat.le_trans hW.size hA.size))⟩

set_option maxRecDepth 100000 in
set_option maxHeartbeats 2000000 in
theorem law_SealStrict (n counter : Int) (a : Option Addr) (m c : Nat) (bs : List UInt8) (at_ by_ : Int) (w : World) (hw : (Lit.int .i64 n).wf = true) (hw2 : (Lit.int .i64 counter).wf = true) (h : BytesAt w w.heap.size a m bs) (hnc : m ≤ c) (hnil : a = none → m = 0 ∧ c = 0) (hc : c ≤ reachBytes)
    (hw3 : (Lit.int .i64 at_).wf = true) (hw4 : (Lit.int .u8 by_).wf = true) (hT : Tabs w) :
    Calls Tryd.prog 7 #[.int .i64 n, .int .i64 counter, .slice a m c, .int .i64 at_, .int .u8 by_] w fun e w' => e = .returned (.bool true) ∧ Below w.heap.size w w' := by
  obtain ⟨h0, h1⟩ := bounds_i64 hw
  obtain ⟨g0, g1⟩ := bounds_i64 hw2
  obtain ⟨t0, t1⟩ := bounds_i64 hw3
  have hb4 := bounds_u8 hw4
  obtain ⟨B, rfl⟩ : ∃ B : UInt8, by_ = (B.toNat : Int) := ⟨UInt8.ofNat by_.toNat, by rw [UInt8.toNat_ofNat', Nat.mod_eq_of_lt (by omega)]; omega⟩
  unfold reachBytes at hc
  have hp := pick_lt n 8 (by decide)
  have HK := Lib.hid (fun W => keep_Key n W h0 h1)
  generalize pick n 8 = p at *
  have hct := pick_lt counter 1099511627777 (by decide)
  have HC := Lib.hid (fun W => keep_picked counter 1099511627777 W g0 g1 (by decide) (by decide))
  generalize pick counter 1099511627777 = ctr at *
  have hct' : ctr ≤ 1099511627776 := by omega
  obtain ⟨k, hkm⟩ : ∃ k : Nat, k = (min (m : Int) 200).toNat := ⟨_, rfl⟩
  obtain ⟨hk9, hkm2⟩ : k ≤ 200 ∧ k ≤ m := by omega
  have hx := h.cut hkm2
  generalize bs.take k = xs at hx
  have Hl := Lib.hid hx.1
  have Hkm := Lib.hid hkm
  have Hx := Lib.hid hx
  have Hnil : Hid (a = none → k = 0 ∧ c = 0) := Lib.hid (fun e => by have := hnil e; omega)
  have HT := Lib.hid hT
  have Hs := Lib.hid (key_seal p hp ctr xs hct' (by rw [hx.1]; exact hk9))
  have HS := Lib.hid (show (keyOf p).size ≤ maxLen by rw [(keyOf_good p hp).1]; decide)
  clear hw hw2 hw3 hw4 hb4 h hx hnil hT hkm
  go_enter Tryd.func7, Tryd.ntmps7
  go_wp2_with fail
  refine (HC.out _).mono ?_
  rintro e w0 ⟨rfl, rfl⟩
  rw [← Hkm.out]
  go_wp2_with fail
  refine (HK.out _).mono ?_
  rintro e w1 ⟨rfl, hb1⟩
  have z1 := hb1.size
  go_wp2_with fail
  refine (seal_Seal _ (ctr : Int) a k c xs _ HS.out (by omega) (by omega) ((Hx.out.below hb1).up z1) Hnil.out (by unfold maxLen; omega) (HT.out.below hb1)).mono ?_
  rintro e w2 ⟨a2, n2, c2, rfl, ho2, hb2⟩
  rw [Hs.out.1]
  rw [Hs.out.2] at ho2
  have o2 := BytesAt.own ho2
  have hn2 : n2 = k + 16 := by rw [← o2.1, Sl.sealRaw_length, Hl.out]
  subst hn2
  rw [o2.1] at ho2
  have hcap := own_cap ho2
  obtain ⟨g, rfl, -, -⟩ := own_form ho2 (by omega)
  have HB2 := Lib.hid (hb1.trans (hb2.mono z1))
  have HT2 := Lib.hid (HT.out.below HB2.out)
  obtain ⟨ct, hctx⟩ : ∃ ct, ct = Sl.xorL (Sl.stream (ksOf p) ctr xs.length) xs := ⟨_, rfl⟩
  obtain ⟨tg, htg⟩ : ∃ tg, tg = Sl.tag16 (ksOf p) ctr ct := ⟨_, rfl⟩
  have hrp := raw_parts (ksOf p) ctr xs
  rw [Hl.out] at hrp
  have o3 := o2.cut (m := k) (by omega)
  have o4 := o2.rest (k := k) (by omega)
  have o5 := o2.rest (k := k + 1) (by omega)
  have hd15 : ((Sl.sealRaw (ksOf p) ctr xs).drop (k + 1)).length = 15 := by rw [List.length_drop, Sl.sealRaw_length, Hl.out]; omega
  rw [hrp.1, ← Hl.out, ← hctx, Hl.out] at o3
  rw [hrp.2, ← Hl.out, ← hctx, ← htg, Hl.out, show k + 16 - k = 16 by omega] at o4
  rw [show k + 16 - (k + 1) = 15 by omega] at o5
  generalize (Sl.sealRaw (ksOf p) ctr xs).drop (k + 1) = rs at *
  have Ho3 := Lib.hid o3
  have Ho4 := Lib.hid o4
  have Ho5 := Lib.hid o5
  have Hrs := Lib.hid (key_short p hp ctr rs hct' (by omega))
  have Hro : Hid (Sl.openOut (keyOf p).data.toList (ctr : Int) rs = []) := Lib.hid (by unfold Sl.openOut; rw [if_neg (by rw [Hrs.out]; decide)])
  have htl : tg.length = 16 := by rw [htg]; exact Sl.tag16_length _ _ _
  have Hop := Lib.hid ((key_open p hp ctr ct (turned tg at_ B) hct' (by rw [o3.1]; omega) (by rw [turned_length]; exact htl)).2 (by rw [← htg]; exact turned_ne tg at_ B (by omega)))
  have hne : ¬ c2 = k := by omega
  have hne1 : ¬ c2 = k + 1 := by omega
  have q1 : (k : Int) ≤ (c2 : Int) := by omega
  have q2 : (k : Int) ≤ (k : Int) + 16 := by omega
  have q3 : (k : Int) + 1 ≤ (k : Int) + 16 := by omega
  have q4 : (k : Int) + 1 ≤ (c2 : Int) := by omega
  have q5 : (k : Int) + 16 ≤ (c2 : Int) := by omega
  have y1 : IntKind.i64.wrap ((k : Int) + 1) = (k : Int) + 1 := IntWalk.i64_in _ (by omega)
  have y2 : IntKind.i64.wrap ((k : Int) + 16) = (k : Int) + 16 := IntWalk.i64_in _ (by omega)
  have r1 : ((k : Int) + 1).toNat = k + 1 := by omega
  have r2 : (0 : Int) ≤ (k : Int) + 1 := by omega
  have r3 : k + 16 - (k + 1) = 15 := by omega
  have hB : Below w2.heap.size w2 w2 := Below.refl _ _
  clear ho2 o2 hb1 hb2 z1 o3 o4 o5 hrp hctx htg htl hd15 hcap
  rw [show ((0 : Nat) : Int) = (0 : Int) from rfl]
  go_wp2_with fail
  go_region_held3 (fun W => Below w2.heap.size w2 W) (first | assumption | (exact Below.drew (by assumption)) | (exact Below.alloc (by assumption) (Below.size (by assumption)) _))
    (first
      | (go_at_call 17; refine (key_from n p w2 _ (by assumption) HK.out).mono ?_; rintro e w5 ⟨rfl, hB5⟩)
      | (go_at_call 19; refine (turned_from _ 16 _ tg at_ B w2 _ (by assumption) Ho4.out (fun h => by cases h) (by decide) (by decide) t0 t1).mono ?_; rintro e w6 ⟨a6, c6, rfl, o6, hB6⟩)
      | (go_at_call 18; refine (concat_from _ _ k 16 _ _ ct _ _ w2 _ (by assumption) Ho3.out (by assumption) (fun h => by cases h) (by decide) (by omega) (by decide)).mono ?_; rintro e w7 ⟨a7, c7, rfl, o7, u7, hB7⟩)
      | (go_at_call 14; refine (open_from p hp ctr hct' 9 _ _ _ _ w2 _ (by assumption) (by assumption) (by assumption) (by omega) HT2.out Hop.out.1 Hop.out.2).mono ?_; rintro e w8 ⟨a8, c8, rfl, hB8⟩))
  clear hB5 hB6 hB7 o6 o7 u7 hB
  go_wp2_with fail
  go_region_held3 (fun W => Below w2.heap.size w2 W) (first | assumption | (exact Below.drew (by assumption)))
    (first
      | (go_at_call 17; refine (key_from n p w2 _ (by assumption) HK.out).mono ?_; rintro e w9 ⟨rfl, hB9⟩)
      | (go_at_call 14; refine (open_from p hp ctr hct' 8 _ _ _ _ w2 _ (by assumption) ((Ho5.out.below (by assumption)).up (Below.size (by assumption))) (by omega) (by decide) HT2.out Hrs.out Hro.out).mono ?_; rintro e w10 ⟨a10, c10, rfl, hB10⟩))
  have hB := HB2.out.trans (hB10.mono HB2.out.size)
  clear hB9 hB10 hB8
  go_wp2
  go_ret
  exact ⟨by simp, hB⟩
end Go.Proofs.YthknkfiofdfogaaDoor
