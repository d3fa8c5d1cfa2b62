/- The law AddrBack walked. -/
import Derived.Test.YtmmhagdgegnjgaaDoorAddrCode
import Derived.Test.YtmmhagdgegnjgaaDoorKeepNetText
import Derived.Test.YtmmhagdgegnjgaaDoorKeepPick
namespace Go.Proofs.YtmmhagdgegnjgaaDoor
open Go.RowKit

theorem dec_port (u : Nat) (h : u < 65536) : Ad.numErr (Lib.decDigits u) 65535 = 0 ∧ Ad.numOut (Lib.decDigits u) 65535 = u := by
  obtain ⟨h1, h2, h3⟩ := Ad.dec_good u
  have hi : Lib.itoa (u : Int) = Lib.decDigits u := by
    unfold Lib.itoa
    rw [if_neg (by omega), Int.toNat_natCast]
  have hn := (Ad.num_back _ (u : Int) (by omega) (dec_len 4 u (by omega)) hi).1
  have he : Ad.numErr (Lib.decDigits u) 65535 = 0 := by
    unfold Ad.numErr
    rw [if_pos ⟨hn, by rw [h2]; omega⟩]
  refine ⟨he, ?_⟩
  unfold Ad.numOut
  rw [if_pos he, h2]
theorem text_zero : Ad.text 0 = [48, 46, 48, 46, 48, 46, 48] := by
  unfold Ad.text
  have e : Lib.decDigits 0 = [48] := by rw [Lib.decDigits, dif_pos (by decide)]; rfl
  show Lib.decDigits 0 ++ 46 :: (Lib.decDigits 0 ++ 46 :: (Lib.decDigits 0 ++ 46 :: Lib.decDigits 0)) = _
  rw [e]
  rfl
theorem text_known : Ad.text 16909060 = [49, 46, 50, 46, 51, 46, 52] := by
  unfold Ad.text
  rw [show 16909060 / 16777216 = 1 from rfl, show 16909060 / 65536 % 256 = 2 from rfl, show 16909060 / 256 % 256 = 3 from rfl, show 16909060 % 256 = 4 from rfl]
  rw [Lib.decDigits, dif_pos (by decide), Lib.decDigits, dif_pos (by decide), Lib.decDigits, dif_pos (by decide), Lib.decDigits, dif_pos (by decide)]
  rfl
theorem trim_front (l : List UInt8) : Lib.trimPrefix (Ad.text 0 ++ 47 :: l) [48, 46, 48, 46, 48, 46, 48, 47] = l := by
  rw [text_zero]
  unfold Lib.trimPrefix Lib.hasPrefix
  simp [List.isPrefixOf]
theorem trim_back (u : Nat) : Lib.trimSuffix (Lib.decDigits u) [32] = Lib.decDigits u := by
  unfold Lib.trimSuffix
  rw [if_neg]
  intro h
  unfold Lib.hasSuffix at h
  rw [List.isSuffixOf_iff_suffix] at h
  have hm : (32 : UInt8) ∈ Lib.decDigits u := h.subset (List.mem_singleton.2 rfl)
  have := List.all_eq_true.1 (Ad.dec_good u).1 _ hm
  revert this
  decide

set_option maxHeartbeats 800000 in
theorem law_AddrBack (a : Nat) (n : Int) (w : World) (ha : a < 4294967296) (n0 : -9223372036854775808 ≤ n) (n1 : n ≤ 9223372036854775807) (hT : PowTab w) (hC : CodeTabs w) :
    Calls Tryd.prog 5 #[.int .u32 (a : Int), .int .i64 n] w fun e w' => e = .returned (.bool true) ∧ Below w.heap.size w w' := by
  have HT := Lib.hid hT
  have HC := Lib.hid hC
  have HP := keep_picked n 65536
  have hpl := pick_lt n 65536 (by decide)
  have HA : Hid (∀ W, Calls Tryd.prog 8 #[.string ⟨(Ad.text a).toArray⟩] W fun e W' => e = .returned (.tuple #[.int .u32 (a : Int), .int .i64 0]) ∧ Below W.heap.size W W') := Lib.hid fun W => by
    have hg := Ad.good_text a ha
    have hl := text_short a ha
    have := addr_Parse ⟨(Ad.text a).toArray⟩ W (by show (Ad.text a).toArray.size ≤ _; rw [List.size_toArray]; omega)
    have e1 : Ad.addrOut (Ad.text a) = a := by unfold Ad.addrOut; rw [if_pos hg.1, hg.2]
    have e2 : Ad.addrErr (Ad.text a) = 0 := by unfold Ad.addrErr; rw [if_pos hg.1]
    simp only [e1, e2] at this
    exact this
  have HN : Hid (∀ W, Calls Tryd.prog 11 #[.string (strOf (Lib.decDigits (pick n 65536))), .int .i64 65535] W fun e W' => e = .returned (.tuple #[.int .i64 (pick n 65536 : Int), .int .i64 0]) ∧ Below W.heap.size W W') := Lib.hid fun W => by
    have hg := dec_port _ hpl
    have hl := dec_short (pick n 65536) (by omega)
    have := addr_Number (strOf (Lib.decDigits (pick n 65536))) 65535 W (by rw [strOf_size]; omega)
    rw [strOf_list, hg.1, hg.2] at this
    exact this
  have HX : Hid (∀ W, PowTab W → Calls Tryd.prog 18 #[.agg #[.int .u32 0, .int .i64 (pick n 65536 : Int)]] W fun e W' => e = .returned (.string (strOf (Ad.text 0 ++ 47 :: Lib.decDigits (pick n 65536)))) ∧ Below W.heap.size W W') := Lib.hid fun W hW => by
    have := keep_NetText 0 (pick n 65536 : Int) W (by decide) (by omega) (by omega) hW
    have e : Lib.itoa (pick n 65536 : Int) = Lib.decDigits (pick n 65536) := by unfold Lib.itoa; rw [if_neg (by omega), Int.toNat_natCast]
    rw [e] at this
    exact this
  have HF : Hid (∀ W, Calls Tryd.prog 17 #[.string (strOf (Ad.text 0 ++ 47 :: Lib.decDigits (pick n 65536))), .string ⟨#[48, 46, 48, 46, 48, 46, 48, 47]⟩] W fun e W' => e = .returned (.string (strOf (Lib.decDigits (pick n 65536)))) ∧ W' = W) := Lib.hid fun W => by
    have := Tryd.strings_TrimPrefix (strOf (Ad.text 0 ++ 47 :: Lib.decDigits (pick n 65536))) ⟨#[48, 46, 48, 46, 48, 46, 48, 47]⟩ W
    rw [strOf_list, trim_front] at this
    exact this
  have HS : Hid (∀ W, Calls Tryd.prog 16 #[.string (strOf (Lib.decDigits (pick n 65536))), .string ⟨#[32]⟩] W fun e W' => e = .returned (.string (strOf (Lib.decDigits (pick n 65536)))) ∧ W' = W) := Lib.hid fun W => by
    have hl := dec_short (pick n 65536) (by omega)
    have := Tryd.strings_TrimSuffix (strOf (Lib.decDigits (pick n 65536))) ⟨#[32]⟩ W (by rw [strOf_size]; omega)
    rw [strOf_list, trim_back] at this
    exact this
  have HK : Hid (∀ W, CodeTabs W → Calls Tryd.prog 7 #[.int .u32 16909060] W fun e W' => e = .returned (.string ⟨#[49, 46, 50, 46, 51, 46, 52]⟩) ∧ Below W.heap.size W W') := Lib.hid fun W hW => by
    have := addr_Text 16909060 (by decide) W hW
    rw [text_known] at this
    exact this
  have HPk := Lib.hid (fun W => HP W n0 n1 (by decide) (by decide))
  clear hT hC HP
  generalize pick n 65536 = u at *
  generalize strOf (Lib.decDigits u) = D at *
  generalize strOf (Ad.text 0 ++ 47 :: Lib.decDigits u) = E at *
  go_enter Tryd.func5, Tryd.ntmps5
  go_wp2_with fail
  refine (addr_Text a ha w HC.out).mono ?_
  rintro e w1 ⟨rfl, b1⟩
  go_wp2_with fail
  refine (HA.out w1).mono ?_
  rintro e w2 ⟨rfl, b2⟩
  have B2 := Lib.hid (b1.trans (b2.mono b1.size))
  clear b1 b2
  go_wp2_with fail
  refine (HPk.out _).mono ?_
  rintro e w3 ⟨rfl, hw3⟩
  subst hw3
  go_wp2_with fail
  refine (HX.out _ (HT.out.below B2.out)).mono ?_
  rintro e w4 ⟨rfl, b4⟩
  have B4 := Lib.hid (B2.out.trans (b4.mono B2.out.size))
  clear b4
  go_wp2_with fail
  refine (HF.out _).mono ?_
  rintro e w5 ⟨rfl, hw5⟩
  subst hw5
  go_wp2_with fail
  refine (HS.out _).mono ?_
  rintro e w6 ⟨rfl, hw6⟩
  subst hw6
  go_wp2_with fail
  refine (HN.out _).mono ?_
  rintro e w7 ⟨rfl, b7⟩
  have B7 := Lib.hid (B4.out.trans (b7.mono B4.out.size))
  clear b7
  go_wp2_with fail
  refine (HK.out _ (HC.out.below B7.out)).mono ?_
  rintro e w8 ⟨rfl, b8⟩
  have B8 := Lib.hid (B7.out.trans (b8.mono B7.out.size))
  clear b8
  go_wp2
  go_ret
  exact ⟨by simp, B8.out⟩
end Go.Proofs.YtmmhagdgegnjgaaDoor
