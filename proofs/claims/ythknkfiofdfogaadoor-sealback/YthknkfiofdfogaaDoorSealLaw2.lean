/- The walk of the law SealBack. -/
import Derived.Test.YthknkfiofdfogaaDoorSealCode
import Derived.Test.YthknkfiofdfogaaDoorSealFacts
import Derived.Test.YthknkfiofdfogaaDoorSame2
import Derived.OpenShut
import Derived.SizedLaws
namespace Go.Proofs.YthknkfiofdfogaaDoor
open Go.RowKit

set_option maxRecDepth 100000 in
set_option maxHeartbeats 1000000 in
theorem law_SealBack (n counter : Int) (a : Option Addr) (m c : Nat) (bs : List UInt8) (w : World) (hw : (Lit.int .i64 n).wf = true) (hw2 : (Lit.int .i64 counter).wf = true) (h : BytesAt w w.heap.size a m bs) (hnc : m ≤ c) (hnil : a = none → m = 0 ∧ c = 0) (hc : c ≤ reachBytes) (hT : Tabs w) :
    Calls Tryd.prog 6 #[.int .i64 n, .int .i64 counter, .slice a m c] w fun e w' => e = .returned (.bool true) ∧ Below w.heap.size w w' := by
  obtain ⟨h0, h1⟩ := bounds_i64 hw
  obtain ⟨g0, g1⟩ := bounds_i64 hw2
  unfold reachBytes at hc
  have hp := pick_lt n 8 (by decide)
  have HK := Lib.hid (fun W => keep_Key n W h0 h1)
  generalize pick n 8 = p at *
  have hct := pick_lt counter 1099511627777 (by decide)
  have HC := Lib.hid (fun W => keep_picked counter 1099511627777 W g0 g1 (by decide) (by decide))
  generalize pick counter 1099511627777 = ctr at *
  obtain ⟨k, hkm⟩ : ∃ k : Nat, k = (min (m : Int) 200).toNat := ⟨_, rfl⟩
  obtain ⟨hk9, hkm2⟩ : k ≤ 200 ∧ k ≤ m := by omega
  have hx := h.cut hkm2
  generalize bs.take k = xs at hx
  have Hl := Lib.hid hx.1
  have Hkm := Lib.hid hkm
  have Hx := Lib.hid hx
  have Hnil : Hid (a = none → k = 0 ∧ c = 0) := Lib.hid (fun e => by have := hnil e; omega)
  have HT := Lib.hid hT
  have Hs := Lib.hid (key_seal p hp ctr xs (by omega) (by rw [hx.1]; exact hk9))
  have Ho := Lib.hid (key_back p hp ctr xs (by omega) (by rw [hx.1]; exact hk9))
  have HS := Lib.hid (show (keyOf p).size ≤ maxLen by rw [(keyOf_good p hp).1]; decide)
  clear hw hw2 h hx hnil hT hkm
  go_enter Tryd.func6, Tryd.ntmps6
  go_wp2_with fail
  refine (HC.out _).mono ?_
  rintro e w0 ⟨rfl, rfl⟩
  rw [← Hkm.out]
  go_wp2_with fail
  refine (HK.out _).mono ?_
  rintro e w1 ⟨rfl, hb1⟩
  have z1 := hb1.size
  go_wp2_with fail
  refine (seal_Seal _ (ctr : Int) a k c xs _ HS.out (by omega) (by omega) ((Hx.out.below hb1).up z1) Hnil.out (by unfold maxLen; omega) (HT.out.below hb1)).mono ?_
  rintro e w2 ⟨a2, n2, c2, rfl, ho2, hb2⟩
  rw [Hs.out.1]
  rw [Hs.out.2] at ho2
  have o2 := BytesAt.own ho2
  have hn2 : n2 = k + 16 := by rw [← o2.1, Sl.sealRaw_length, Hl.out]
  subst hn2
  have hB2 := hb1.trans (hb2.mono z1)
  have z2 := hB2.size
  have Hn2 := Lib.hid ((own_cap (show w2.ownsRow w1.heap.size 5 1 (.slice a2 (k + 16) c2) (k + 16) _ by rw [o2.1] at ho2; exact ho2)).1)
  have O2 := Lib.hid o2
  clear hb1 hb2 z1 ho2 o2
  rw [show ((0 : Nat) : Int) = (0 : Int) from rfl]
  go_wp2_with fail
  refine (HK.out _).mono ?_
  rintro e w3 ⟨rfl, hb3⟩
  have hB3 := hB2.trans (hb3.mono z2)
  have O3 := Lib.hid ((O2.out.below hb3).up hb3.size)
  clear hB2 hb3 z2
  go_wp2_with fail
  refine (seal_Open _ (ctr : Int) a2 (k + 16) c2 _ _ HS.out (by omega) (by omega) O3.out Hn2.out (by unfold maxLen; omega) (HT.out.below hB3)).mono ?_
  rintro e w4 ⟨a4, n4, c4, rfl, ho4, hb4⟩
  rw [Ho.out.1]
  rw [Ho.out.2] at ho4
  have hB4 := hB3.trans (hb4.mono hB3.size)
  have f1 := conv_bytes (P := Tryd.prog) (Hx.out.below hB4) 22 5 9 c Tryd.underlying22 Tryd.underlying5 Tryd.underlying9
  have f2 := conv_bytes (P := Tryd.prog) (BytesAt.own ho4) 22 5 9 c4 Tryd.underlying22 Tryd.underlying5 Tryd.underlying9
  clear ho4 hB3 hb4
  generalize strOf xs = S1 at *
  rw [show ((0 : Nat) : Int) = (0 : Int) from rfl]
  go_wp2
  go_ret
  exact ⟨by simp, hB4⟩
end Go.Proofs.YthknkfiofdfogaaDoor
