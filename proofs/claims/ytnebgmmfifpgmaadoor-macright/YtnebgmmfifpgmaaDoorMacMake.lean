/- The contracts of mac.Right and mac.Derive. -/
import Derived.Test.YtnebgmmfifpgmaaDoorMacTag
import Derived.Test.YtnebgmmfifpgmaaDoorHexText
import Derived.Test.YtnebgmmfifpgmaaDoorHexRef
namespace Go.Proofs.YtnebgmmfifpgmaaDoor
open Go.RowKit

theorem tag_err_three (s b : List UInt8) : Mc.tagErr s b = 0 ∨ (Mc.tagErr s b = 1 ∧ Mc.tagOut s b = []) ∨ (Mc.tagErr s b = 3 ∧ Mc.tagOut s b = []) := by
  rcases Mc.check_three s with h | h | h
  · by_cases hb : 936 < b.length
    · exact .inr (.inl (Mc.tag_long s b h hb))
    · exact .inl (Mc.tag_ok s b h (by omega)).1
  · have := Mc.tag_bad s b (by rw [h]; decide)
    rw [h] at this
    exact .inr (.inl this)
  · have := Mc.tag_bad s b (by rw [h]; decide)
    rw [h] at this
    exact .inr (.inr this)
theorem tag_out_length (s b : List UInt8) (h : Mc.tagErr s b = 0) : (Mc.tagOut s b).length = 32 := by
  unfold Mc.tagOut; rw [if_pos h]; exact Mc.tag_length _ _
theorem right_bad (s b t : List UInt8) (h : Mc.tagErr s b ≠ 0) : Mc.right s b t = false := by
  unfold Mc.right; rw [decide_eq_false h]; rfl
theorem right_ok (s b t : List UInt8) (h : Mc.tagErr s b = 0) : Mc.right s b t = decide ((Mc.tagOut s b).take 16 = t) := by
  unfold Mc.right; rw [decide_eq_true h]; rfl
theorem ret_bool_err {x y : Bool} {a b : Int} (h : x = y) (g : a = b) : Ending.returned (.tuple #[.bool x, .int .i64 a]) = .returned (.tuple #[.bool y, .int .i64 b]) := by rw [h, g]
theorem own_cap {w : World} {base e n c : Nat} {a : Option Addr} {xs : List Value} (h : w.ownsRow base e 1 (.slice a n c) n xs) : n ≤ c ∧ c ≤ maxLen := by
  rcases h.2 with ⟨hv, _⟩ | ⟨g', cap, cur, hv, _, _, hk, hk2, _⟩
  · injection hv with _ h2 h3; subst h2; subst h3; exact ⟨Nat.le_refl _, Nat.zero_le _⟩
  · injection hv with _ _ h3; subst h3; exact ⟨hk, hk2⟩

set_option maxHeartbeats 400000 in
theorem mac_Right (s : ByteArray) (a : Option Addr) (n c : Nat) (bs : List UInt8) (a' : Option Addr) (n' c' : Nat) (ts : List UInt8) (w : World) (hs : s.size ≤ maxLen) (h : BytesAt w w.heap.size a n bs) (hnil : a = none → n = 0 ∧ c = 0) (hn : n ≤ maxLen)
    (h' : BytesAt w w.heap.size a' n' ts) (hn' : n' ≤ maxLen) (hT : Tabs w) :
    Calls Tryd.prog 11 #[.string s, .slice a n c, .slice a' n' c'] w fun e w' => e = .returned (.tuple #[.bool (Mc.right s.data.toList bs ts), .int .i64 (Mc.tagErr s.data.toList bs : Int)]) ∧ Below w.heap.size w w' := by
  have Ht := Lib.hid h'
  clear h'
  rcases tag_err_three s.data.toList bs with he | ⟨he, ho⟩ | ⟨he, ho⟩
  · have Hl := Lib.hid (tag_out_length _ _ he)
    have Hr := Lib.hid (right_ok _ _ ts he)
    have He := Lib.hid he
    clear he
    go_enter Tryd.func11, Tryd.ntmps11
    go_wp2_with fail
    refine (mac_Tag s a n c bs _ hs h hnil hn hT).mono ?_
    rintro e w1 ⟨a1, n1, c1, rfl, ho1, hb1⟩
    rw [He.out]
    have o1 := BytesAt.own ho1
    obtain rfl : n1 = 32 := by rw [← o1.1, Hl.out]
    rw [Hl.out] at ho1
    have hcap := own_cap ho1
    obtain ⟨g, rfl, -, -⟩ := own_form ho1 (by decide)
    have Hc := Lib.hid (o1.cut (m := 16) (by decide))
    have Ht1 := Lib.hid ((Ht.out.below hb1).up hb1.size)
    have hc1 : (16 : Int) ≤ (c1 : Int) := by omega
    clear ho1 o1 h hnil hT
    rw [show ((0 : Nat) : Int) = (0 : Int) from rfl]
    go_wp2_with fail
    refine (mac_same _ _ 16 n' _ _ _ ts _ Hc.out Ht1.out (by decide) hn').mono ?_
    rintro e w2 ⟨rfl, hb2⟩
    go_wp2
    go_ret2
    exact ⟨ret_bool_err (by rw [Hr.out]) (by rw [He.out]; rfl), hb1.trans (hb2.mono hb1.size)⟩
  all_goals
    have Hr := Lib.hid (right_bad s.data.toList bs ts (by rw [he]; decide))
    have He := Lib.hid he
    clear he ho
    go_enter Tryd.func11, Tryd.ntmps11
    go_wp2_with fail
    refine (mac_Tag s a n c bs _ hs h hnil hn hT).mono ?_
    rintro e w1 ⟨a1, n1, c1, rfl, ho1, hb1⟩
    rw [He.out]
    clear ho1 h hnil hT
    go_wp2
    go_ret2
    exact ⟨ret_bool_err (by rw [Hr.out]) (by rw [He.out]; rfl), hb1⟩

theorem ret_string_err {x y : ByteArray} {a b : Int} (h : x = y) (g : a = b) : Ending.returned (.tuple #[.string x, .int .i64 a]) = .returned (.tuple #[.string y, .int .i64 b]) := by rw [h, g]
theorem label_list (l : ByteArray) : (⟨#[107, 101, 121, 32]⟩ ++ l : ByteArray).data.toList = Mc.label l.data.toList := by
  rw [ByteArray.data_append, Array.toList_append]; rfl
theorem label_size (l : ByteArray) : (⟨#[107, 101, 121, 32]⟩ ++ l : ByteArray).size = 4 + l.size := by
  rw [ByteArray.size_append]; rfl

theorem conv_bytesAt {s : ByteArray} {w w1 : World} (hsz : w1.heap.size = w.heap.size + 1) (hcs : ∀ i (h : i < s.size), w1.cell? ⟨w.heap.size, i, none⟩ = some (.int .u8 (s[i].toNat : Int))) : BytesAt w1 w1.heap.size (some ⟨w.heap.size, 0, none⟩) s.size s.data.toList := by
  refine ⟨by simp, fun _ => ⟨w.heap.size, 0, rfl, by omega, fun i hi => ?_⟩⟩
  rw [Nat.zero_add, hcs i (by simpa using hi)]
  rfl
theorem derived_bad (s l : List UInt8) (h : Mc.tagOut s (Mc.label l) = []) : strOf (Mc.derived s l) = ⟨#[]⟩ := by unfold Mc.derived; rw [h]; rfl

set_option maxHeartbeats 400000 in
theorem mac_Derive (s l : ByteArray) (w : World) (hs : s.size ≤ maxLen) (hl : l.size ≤ 9000000000000000000) (hT : Tabs w) :
    Calls Tryd.prog 10 #[.string s, .string l] w fun e w' => e = .returned (.tuple #[.string (strOf (Mc.derived s.data.toList l.data.toList)), .int .i64 (Mc.tagErr s.data.toList (Mc.label l.data.toList) : Int)]) ∧ Below w.heap.size w w' := by
  obtain ⟨w1, cap, hrun, hsz1, hbel, hcs⟩ := conv_string (⟨#[107, 101, 121, 32]⟩ ++ l) w
  have hb1 := conv_bytesAt hsz1 hcs
  rw [label_list, label_size] at hb1
  have Hb := Lib.hid hb1
  have hsz := label_size l
  have HT := Lib.hid (hT.below hbel)
  have hz1 := hbel.size
  clear hcs hsz1 hb1 hT
  rcases tag_err_three s.data.toList (Mc.label l.data.toList) with he | ⟨he, ho⟩ | ⟨he, ho⟩
  · have Hl := Lib.hid (tag_out_length _ _ he)
    have He := Lib.hid he
    clear he
    go_enter Tryd.func10, Tryd.ntmps10
    go_wp2_with fail
    refine (mac_Tag s _ _ cap _ _ hs Hb.out (fun h => by cases h) (by unfold maxLen; omega) HT.out).mono ?_
    rintro e w2 ⟨a2, n2, c2, rfl, ho2, hb2⟩
    rw [He.out]
    have o2 := BytesAt.own ho2
    obtain rfl : n2 = 32 := by rw [← o2.1, Hl.out]
    clear ho2 hrun
    rw [show ((0 : Nat) : Int) = (0 : Int) from rfl]
    go_wp2_with fail
    refine (hex_Text a2 32 c2 _ _ o2 (by decide)).mono ?_
    rintro e w3 ⟨rfl, hb3⟩
    go_wp2
    go_ret2
    exact ⟨ret_string_err rfl (by rw [He.out]; rfl), hbel.trans ((hb2.trans (hb3.mono hb2.size)).mono hz1)⟩
  all_goals
    have Hd := Lib.hid (derived_bad _ _ ho)
    have He := Lib.hid he
    clear he ho
    go_enter Tryd.func10, Tryd.ntmps10
    go_wp2_with fail
    refine (mac_Tag s _ _ cap _ _ hs Hb.out (fun h => by cases h) (by unfold maxLen; omega) HT.out).mono ?_
    rintro e w2 ⟨a2, n2, c2, rfl, ho2, hb2⟩
    rw [He.out]
    clear ho2 hrun
    go_wp2
    go_ret2
    exact ⟨ret_string_err Hd.out.symm (by rw [He.out]; rfl), hbel.trans (hb2.mono hz1)⟩
end Go.Proofs.YtnebgmmfifpgmaaDoor
