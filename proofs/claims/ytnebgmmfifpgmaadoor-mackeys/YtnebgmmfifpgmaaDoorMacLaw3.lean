/- The walk of the law MacKeys. -/
import Derived.Test.YtnebgmmfifpgmaaDoorMacMake
import Derived.Test.YtnebgmmfifpgmaaDoorKeepKey
import Derived.OpenShut
import Derived.SizedLaws
namespace Go.Proofs.YtnebgmmfifpgmaaDoor
open Go.RowKit

theorem key_tag_ok (p : Nat) (hp : p < 8) (b : List UInt8) (hb : b.length ≤ 936) : Mc.tagErr (keyOf p).data.toList b = 0 ∧ (Mc.tagOut (keyOf p).data.toList b).length = 32 := by
  have h := Mc.tag_ok _ b (keyOf_good p hp).2 hb
  exact ⟨h.1, tag_out_length _ _ h.1⟩
theorem text_check (b : List UInt8) (h : b.length = 32) : Hx.checkErr (Hx.text b) = 0 := by
  unfold Hx.checkErr
  rw [Hx.text_length, h, Hx.text_all]; rfl
theorem label_length (l : List UInt8) : (Mc.label l).length = 4 + l.length := by simp [Mc.label]; omega
theorem derived_facts (p : Nat) (hp : p < 8) (l : List UInt8) (hl : l.length ≤ 100) :
    Mc.tagErr (keyOf p).data.toList (Mc.label l) = 0 ∧ (strOf (Mc.derived (keyOf p).data.toList l)).size = 64 ∧ Hx.checkErr (strOf (Mc.derived (keyOf p).data.toList l)).data.toList = 0 ∧ (Mc.tagOut (keyOf p).data.toList (Mc.label l)).length = 32 := by
  have h := key_tag_ok p hp (Mc.label l) (by rw [label_length]; omega)
  refine ⟨h.1, ?_, ?_, h.2⟩
  · rw [strOf_size]; unfold Mc.derived; rw [Hx.text_length, h.2]
  · rw [strOf_list]; exact text_check _ h.2

set_option maxHeartbeats 1000000 in
theorem law_MacKeys (n : Int) (l : ByteArray) (w : World) (hw : (Lit.int .i64 n).wf = true) (hlr : l.size ≤ reachBytes) (hT : Tabs w) :
    Calls Tryd.prog 6 #[.int .i64 n, .string l] w fun e w' => e = .returned (.bool true) ∧ Below w.heap.size w w' := by
  have hb := bounds_i64 hw
  obtain ⟨h0, h1⟩ : -9223372036854775808 ≤ n ∧ n ≤ 9223372036854775807 := by omega
  unfold reachBytes at hlr
  have HT := Lib.hid hT
  have F0 := Lib.hid (derived_facts (pick 0 8) (pick_lt _ _ (by decide)) [97] (by decide))
  clear hT hw hb
  have hp := pick_lt n 8 (by decide)
  have HK := Lib.hid (fun W => keep_Key n W h0 h1)
  generalize pick n 8 = p at *
  go_enter Tryd.func6, Tryd.ntmps6
  go_wp2_with fail
  refine (keep_Key 0 _ (by decide) (by decide)).mono ?_
  rintro e w1 ⟨rfl, hb1⟩
  go_wp2_with fail
  refine (mac_Derive _ _ _ (by rw [(keyOf_good _ (pick_lt _ _ (by decide))).1]; decide) (by decide) (HT.out.below hb1)).mono ?_
  rintro e w2 ⟨rfl, hb2⟩
  rw [show (⟨#[97]⟩ : ByteArray).data.toList = [97] from rfl, F0.out.1]
  obtain ⟨D0, hD0⟩ : ∃ D0, D0 = strOf (Mc.derived (keyOf (pick 0 8)).data.toList [97]) := ⟨_, rfl⟩
  have hd0 : D0.size = 64 := by rw [hD0]; exact F0.out.2.1
  rw [← hD0]
  clear hD0 F0
  have hB2 := hb1.trans (hb2.mono hb1.size)
  clear hb1 hb2
  rw [show ((0 : Nat) : Int) = (0 : Int) from rfl]
  go_wp2_with fail
  obtain ⟨L, hL⟩ : ∃ L, L = l.extract 0 (min (l.size : Int) 100).toNat := ⟨_, rfl⟩
  have hsz : L.size ≤ 100 := by rw [hL, ByteArray.size_extract]; omega
  rw [← hL]
  have FL := Lib.hid (derived_facts p hp L.data.toList (by simpa using hsz))
  have HS := Lib.hid (show (keyOf p).size ≤ maxLen by rw [(keyOf_good p hp).1]; decide)
  clear hL hd0
  refine (HK.out _).mono ?_
  rintro e w3 ⟨rfl, hb3⟩
  have hB3 := hB2.trans (hb3.mono hB2.size)
  clear hB2 hb3
  go_wp2_with fail
  refine (mac_Derive _ _ _ HS.out (by omega) (HT.out.below hB3)).mono ?_
  rintro e w4 ⟨rfl, hb4⟩
  rw [FL.out.1]
  obtain ⟨D, hD⟩ : ∃ D, D = strOf (Mc.derived (keyOf p).data.toList L.data.toList) := ⟨_, rfl⟩
  rw [← hD]
  have HD := Lib.hid hD
  have hB4 := hB3.trans (hb4.mono hB3.size)
  clear hB3 hb4 hD
  rw [show ((0 : Nat) : Int) = (0 : Int) from rfl]
  go_wp2_with fail
  refine (HK.out _).mono ?_
  rintro e w5 ⟨rfl, hb5⟩
  have hB5 := hB4.trans (hb5.mono hB4.size)
  clear hB4 hb5
  go_wp2_with fail
  refine (mac_Derive _ _ _ HS.out (by omega) (HT.out.below hB5)).mono ?_
  rintro e w6 ⟨rfl, hb6⟩
  rw [FL.out.1, ← HD.out]
  have hB6 := hB5.trans (hb6.mono hB5.size)
  clear hB5 hb6
  rw [show ((0 : Nat) : Int) = (0 : Int) from rfl]
  go_wp2_with fail
  refine (HK.out _).mono ?_
  rintro e w7 ⟨rfl, hb7⟩
  have hB7 := hB6.trans (hb7.mono hB6.size)
  clear hB6 hb7
  obtain ⟨w8, cap, hrun, hsz8, hbel8, hcs⟩ := conv_string (⟨#[107, 101, 121, 32]⟩ ++ L) w7
  have hb8 := conv_bytesAt hsz8 hcs
  rw [label_list, label_size] at hb8
  have Hb8 := Lib.hid hb8
  have hsl := label_size L
  have hB8 := hB7.trans (hbel8.mono hB7.size)
  clear hb8 hcs hsz8 hbel8 hB7
  go_wp2_with fail
  refine (mac_Tag _ _ _ cap _ _ HS.out Hb8.out (fun h => by cases h) (by unfold maxLen; omega) (HT.out.below hB8)).mono ?_
  rintro e w9 ⟨a9, n9, c9, rfl, ho9, hb9⟩
  rw [FL.out.1]
  have o9 := BytesAt.own ho9
  obtain rfl : n9 = 32 := by rw [← o9.1, FL.out.2.2.2]
  have hB9 := hB8.trans (hb9.mono hB8.size)
  have Hc := Lib.hid (show Hx.checkErr D.data.toList = 0 by rw [HD.out]; exact FL.out.2.2.1)
  have Hs := Lib.hid (show D.size ≤ maxLen by rw [HD.out, FL.out.2.1]; decide)
  have Ho := Lib.hid o9
  clear ho9 hb9 hB8 hrun o9
  rw [show ((0 : Nat) : Int) = (0 : Int) from rfl]
  go_wp2_with fail
  refine (hex_Check _ _ Hs.out).mono ?_
  rintro e w10 ⟨rfl, rfl⟩
  rw [Hc.out]
  go_wp2_with fail
  refine (hex_Text a9 32 c9 _ _ Ho.out (by decide)).mono ?_
  rintro e w11 ⟨rfl, hb11⟩
  have hB11 := hB9.trans (hb11.mono hB9.size)
  rw [show Hx.text (Mc.tagOut (keyOf p).data.toList (Mc.label L.data.toList)) = Mc.derived (keyOf p).data.toList L.data.toList from rfl, ← HD.out]
  go_wp2
  go_ret
  exact ⟨by simp, hB11⟩
end Go.Proofs.YtnebgmmfifpgmaaDoor
