/- The contract of sameBytes, and the walk of the law HexTells. -/
import Derived.Test.YtcfkhkaheifbmaaHexLaw2
namespace Go.Proofs.Ytcfkhkaheifbmaa
open Go.RowKit

set_option maxHeartbeats 400000 in
theorem same_bytes (a b : Option Addr) (n m c c' B B' : Nat) (bs : List UInt8) (w : World) (h : BytesAt w B a n bs) (h' : BytesAt w B' b m bs) :
    Calls Try.prog 11 #[.slice a n c, .slice b m c'] w fun e w' => e = .returned (.bool true) ∧ w = w' := by
  have h1 := conv_bytes (P := Try.prog) h 22 5 9 c Try.underlying22 Try.underlying5 Try.underlying9
  have h2 := conv_bytes (P := Try.prog) h' 22 5 9 c' Try.underlying22 Try.underlying5 Try.underlying9
  go_enter Try.func11, Try.ntmps11
  go_wp2
  go_ret
  exact ⟨by simp, rfl⟩

set_option maxHeartbeats 400000 in
theorem law_HexTells (a : Option Addr) (n c : Nat) (bs : List UInt8) (s : ByteArray) (w : World) (h : BytesAt w w.heap.size a n bs) (hnc : n ≤ c) (hc : c ≤ reachBytes) (hr : s.size ≤ reachBytes) :
    Calls Try.prog 3 #[.slice a n c, .string s] w fun e w' => e = .returned (.bool true) ∧ Below w.heap.size w w' := by
  have hs : s.size ≤ maxLen := Nat.le_trans hr (by decide)
  have hn : 2 * n ≤ 281474976710656 := by unfold reachBytes at hc; omega
  clear hr hc hnc
  go_enter Try.func3, Try.ntmps3
  go_wp2_with fail
  refine (hex_Text a n c bs _ h hn).mono ?_
  rintro e w1 ⟨rfl, hb1⟩
  go_wp2_with fail
  refine (hex_Bytes s _ hs).mono ?_
  rintro e w2 ⟨a2, n2, c2, rfl, ho2, hb2⟩
  have z1 := hb1.size
  have z2 := hb2.size
  have h2 := (h.below hb1).up z1
  have h3 := (h2.below hb2).up z2
  have o2 := BytesAt.own ho2
  clear h2 h ho2
  go_wp2_with fail
  refine (ref_HexText a n c bs _ h3 hn).mono ?_
  rintro e w3 ⟨rfl, hb3⟩
  go_wp2_with fail
  refine (ref_HexBytes s _ hs).mono ?_
  rintro e w4 ⟨a4, n4, c4, rfl, ho4, hb4⟩
  have z3 := hb3.size
  have z4 := hb4.size
  have o4 := BytesAt.own ho4
  have o2' := ((o2.below hb3).up z3).below hb4
  clear ho4 h3 o2
  go_wp2_with (go_at_call 11; refine (same_bytes _ _ _ _ _ _ _ _ _ _ o2' o4).mono ?_; rintro e w' ⟨rfl, rfl⟩)
  go_ret
  refine ⟨by simp, ?_⟩
  exact ((hb1.trans (hb2.mono z1)).trans (hb3.mono (by omega))).trans (hb4.mono (by omega))
end Go.Proofs.Ytcfkhkaheifbmaa
