/- The laws' helpers Key and Turned, from any world that grew out of a given one. -/
import Derived.Test.YthknkfiofdfogaaDoorKeepTurned
namespace Go.Proofs.YthknkfiofdfogaaDoor
open Go.RowKit

theorem key_from (n : Int) (p : Nat) (w0 W : World) (hW : Below w0.heap.size w0 W) (HK : ∀ W, Calls Tryd.prog 17 #[.int .i64 n] W fun e w' => e = .returned (.string (keyOf p)) ∧ Below W.heap.size W w') :
    Calls Tryd.prog 17 #[.int .i64 n] W fun e w' => e = .returned (.string (keyOf p)) ∧ Below w0.heap.size w0 w' :=
  (HK W).mono fun _ _ ⟨he, hb⟩ => ⟨he, hW.trans (hb.mono hW.size)⟩
theorem turned_from (a : Option Addr) (n c : Nat) (bs : List UInt8) (at_ : Int) (by_ : UInt8) (w0 W : World) (hW : Below w0.heap.size w0 W) (h : BytesAt w0 w0.heap.size a n bs) (hnil : a = none → n = 0 ∧ c = 0) (hn : n ≤ 140737488355328) (h0 : 0 < n)
    (g0 : -9223372036854775808 ≤ at_) (g1 : at_ ≤ 9223372036854775807) :
    Calls Tryd.prog 19 #[.slice a n c, .int .i64 at_, .int .u8 (by_.toNat : Int)] W fun e w' => ∃ a1 c1, e = .returned (.slice a1 n c1) ∧ BytesAt w' w'.heap.size a1 n (turned bs at_ by_) ∧ Below w0.heap.size w0 w' := by
  have hl := h.1
  refine (keep_Turned a n c bs at_ by_ W ((h.below hW).up hW.size) hnil hn h0 g0 g1).mono ?_
  rintro e w' ⟨a1, n1, c1, rfl, ho, hb⟩
  have o := BytesAt.own ho
  obtain rfl : n = n1 := by rw [← o.1, turned_length, hl]
  exact ⟨a1, c1, rfl, o, hW.trans (hb.mono hW.size)⟩
theorem bytes_from {w0 W : World} {a : Option Addr} {n : Nat} {bs : List UInt8} (h : BytesAt w0 w0.heap.size a n bs) (hW : Below w0.heap.size w0 W) : BytesAt W W.heap.size a n bs := (h.below hW).up hW.size
end Go.Proofs.YthknkfiofdfogaaDoor
