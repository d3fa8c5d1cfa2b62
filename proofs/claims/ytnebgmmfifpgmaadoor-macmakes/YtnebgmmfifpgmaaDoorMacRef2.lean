/- The contract of the reference's MacDerive. -/
import Derived.Test.YtnebgmmfifpgmaaDoorMacRef
import Derived.Test.YtnebgmmfifpgmaaDoorMacMake
import Derived.Test.YtnebgmmfifpgmaaDoorHexLaw2
namespace Go.Proofs.YtnebgmmfifpgmaaDoor
open Go.RowKit

set_option maxHeartbeats 400000 in
theorem ref_MacDerive (s l : ByteArray) (w : World) (hs : s.size ≤ maxLen) (hl : l.size ≤ 9000000000000000000) :
    Calls Tryd.prog 12 #[.string s, .string l] w fun e w' => e = .returned (.tuple #[.string (strOf (Mc.derived s.data.toList l.data.toList)), .int .i64 (Mc.tagErr s.data.toList (Mc.label l.data.toList) : Int)]) ∧ Below w.heap.size w w' := by
  obtain ⟨w1, cap, hrun, hsz1, hbel, hcs⟩ := conv_string (⟨#[107, 101, 121, 32]⟩ ++ l) w
  have hb1 := conv_bytesAt hsz1 hcs
  rw [label_list, label_size] at hb1
  have Hb := Lib.hid hb1
  have hsz := label_size l
  have hz1 := hbel.size
  clear hcs hsz1 hb1
  rcases tag_err_three s.data.toList (Mc.label l.data.toList) with he | ⟨he, ho⟩ | ⟨he, ho⟩
  · have Hl := Lib.hid (tag_out_length _ _ he)
    have He := Lib.hid he
    clear he
    go_enter Tryd.func12, Tryd.ntmps12
    go_wp2_with fail
    refine (ref_MacTag s _ _ cap _ _ hs Hb.out (fun h => by cases h) (by unfold maxLen; omega)).mono ?_
    rintro e w2 ⟨a2, n2, c2, rfl, ho2, hb2⟩
    rw [He.out]
    have o2 := BytesAt.own ho2
    obtain rfl : n2 = 32 := by rw [← o2.1, Hl.out]
    clear ho2 hrun
    rw [show ((0 : Nat) : Int) = (0 : Int) from rfl]
    go_wp2_with fail
    refine (ref_HexText a2 32 c2 _ _ o2 (by decide)).mono ?_
    rintro e w3 ⟨rfl, hb3⟩
    go_wp2
    go_ret2
    exact ⟨ret_string_err rfl (by rw [He.out]; rfl), hbel.trans ((hb2.trans (hb3.mono hb2.size)).mono hz1)⟩
  all_goals
    have Hd := Lib.hid (derived_bad _ _ ho)
    have He := Lib.hid he
    clear he ho
    go_enter Tryd.func12, Tryd.ntmps12
    go_wp2_with fail
    refine (ref_MacTag s _ _ cap _ _ hs Hb.out (fun h => by cases h) (by unfold maxLen; omega)).mono ?_
    rintro e w2 ⟨a2, n2, c2, rfl, ho2, hb2⟩
    rw [He.out]
    clear ho2 hrun
    go_wp2
    go_ret2
    exact ⟨ret_string_err Hd.out.symm (by rw [He.out]; rfl), hbel.trans (hb2.mono hz1)⟩
end Go.Proofs.YtnebgmmfifpgmaaDoor
