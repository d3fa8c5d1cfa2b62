/- The contracts of slices.Clone at []byte and of the laws' helper Turned. -/
import Derived.Test.YtfgkodgdoplpbabMem3
import Derived.Test.YtfgkodgdoplpbabKeepPick
import Derived.Test.YtfgkodgdoplpbabPackMem
import Derived.Test.YtfgkodgdoplpbabMacPlain
import Derived.Lib.MinMax
namespace Go.Proofs.Ytfgkodgdoplpbab
open Go.RowKit

set_option maxHeartbeats 400000 in
theorem slices_Clone (a : Option Addr) (n c : Nat) (bs : List UInt8) (w : World) (h : BytesAt w w.heap.size a n bs) (hnil : a = none → n = 0 ∧ c = 0) (hn : n ≤ 140737488355328) :
    Calls Try.prog 19 #[.slice a n c] w (RowPost bs w) := by
  have Hb := Lib.hid h
  have Hn := Lib.hid hnil
  have hq := fun W => Lib.run_eql_slice_nil (P := Try.prog) W 22 5 a n c 0 0 Try.underlying22
  cases a with
  | none =>
    obtain ⟨rfl, rfl⟩ := hnil rfl
    obtain rfl : bs = [] := List.eq_nil_of_length_eq_zero h.1
    clear h hnil
    go_enter Try.func19, Try.ntmps19
    go_wp2
    go_ret
    exact ⟨_, _, _, rfl, World.ownsRow_nil _ _ _ _, Below.refl _ _⟩
  | some ad =>
    clear h hnil
    go_enter Try.func19, Try.ntmps19
    go_wp2_with (at_builtin; refine wpL_append8 _ rfl _ _ rfl w.heap.size _ 0 _ [] rfl ?c0 _ n _ (bcells bs) rfl ?c1 ?c2 ?c3 (bcells_one _) ?c4 ?c6 ?_)
    case c0 => exact own_block (heap_alloc_last w _) (Nat.le_refl _) rfl (by decide)
    case c1 => rw [bcells_length]; exact Hb.out.1
    case c2 => exact Hn.out
    case c3 => exact (Hb.out.below ((Below.refl _ _).alloc (Nat.le_refl _) _)).news
    case c4 => omega
    case c6 => simp
    intro a1 c1 w1 ho1 hg1
    have hb1 : Below w.heap.size w w1 := below_own ((Below.refl _ _).alloc (Nat.le_refl _) _) (own_block (heap_alloc_last w _) (Nat.le_refl w.heap.size) rfl (by decide)) hg1 (Nat.le_refl _) (by simp)
    clear hg1
    go_wp2
    go_ret
    refine ⟨_, _, _, rfl, ?_, hb1⟩
    rw [Hb.out.1]
    simpa using ho1

/-- The bytes with one turned. -/
def turned (bs : List UInt8) (at_ : Int) (by_ : UInt8) : List UInt8 := bs.set (pick at_ bs.length) (bs.getD (pick at_ bs.length) 0 ^^^ (if by_ = 0 then 1 else by_))
theorem turned_length (bs : List UInt8) (at_ : Int) (by_ : UInt8) : (turned bs at_ by_).length = bs.length := by simp [turned]
theorem turned_ne (bs : List UInt8) (at_ : Int) (by_ : UInt8) (h : 0 < bs.length) : bs ≠ turned bs at_ by_ := by
  intro e
  have hp := pick_lt at_ bs.length h
  have e2 := congrArg (fun l => l.getD (pick at_ bs.length) 0) e
  simp only [turned] at e2
  rw [List.getD_eq_getElem?_getD (l := bs.set _ _), List.getElem?_set_self hp, Option.getD_some] at e2
  generalize bs.getD (pick at_ bs.length) 0 = X at e2
  have e3 : X ^^^ (X ^^^ (if by_ = 0 then 1 else by_)) = X ^^^ X := by rw [← e2]
  rw [← UInt8.xor_assoc, UInt8.xor_self, UInt8.zero_xor] at e3
  by_cases hb : by_ = 0
  · rw [if_pos hb] at e3; exact absurd e3 (by decide)
  · rw [if_neg hb] at e3; exact hb e3
theorem max_byte (b : UInt8) : max (b.toNat : Int) 1 = ((if b = 0 then (1 : UInt8) else b).toNat : Int) := by
  by_cases h : b = 0
  · subst h; rfl
  · have : b.toNat ≠ 0 := fun e => h (UInt8.toNat_inj.1 e)
    rw [if_neg h]; omega

set_option maxHeartbeats 400000 in
theorem keep_Turned (a : Option Addr) (n c : Nat) (bs : List UInt8) (at_ : Int) (by_ : UInt8) (w : World) (h : BytesAt w w.heap.size a n bs) (hnil : a = none → n = 0 ∧ c = 0) (hn : n ≤ 140737488355328) (h0 : 0 < n)
    (g0 : -9223372036854775808 ≤ at_) (g1 : at_ ≤ 9223372036854775807) :
    Calls Try.prog 17 #[.slice a n c, .int .i64 at_, .int .u8 (by_.toNat : Int)] w (RowPost (turned bs at_ by_) w) := by
  have Hl := Lib.hid h.1
  have Hb := Lib.hid h
  have Hn := Lib.hid hnil
  have hmx := max_byte by_
  clear h hnil
  go_enter Try.func17, Try.ntmps17
  go_wp2_with fail
  refine (slices_Clone a n c bs _ Hb.out Hn.out hn).mono ?_
  rintro e w1 ⟨a1, n1, c1, rfl, ho1, hb1⟩
  have hn1 := (BytesAt.own ho1).1
  rw [Hl.out] at hn1
  subst hn1
  rw [Hl.out] at ho1
  obtain ⟨g, rfl, hgB, hgH⟩ := own_form ho1 h0
  have hp := pick_lt at_ n h0
  have HT := Lib.hid (show turned bs at_ by_ = bs.set (pick at_ n) (bs.getD (pick at_ n) 0 ^^^ (if by_ = 0 then 1 else by_)) by unfold turned; rw [Hl.out])
  have hP := fun W => keep_picked at_ n W g0 g1 h0 (by omega)
  generalize pick at_ n = p at *
  have hpl : p < bs.length := by rw [Hl.out]; exact hp
  have hc : w1.cell? ⟨g, p, none⟩ = some (.int .u8 ((bs.getD p 0).toNat : Int)) := own_cell ho1 (by rw [bcells_get bs p hpl, List.getD_eq_getElem?_getD, List.getElem?_eq_getElem hpl]; rfl)
  have hf := ho1.frozenAt p
  have hx := xor_u8 (bs.getD p 0) (if by_ = 0 then 1 else by_)
  have hst := (ho1.stored p (.int .u8 ((bs.getD p 0 ^^^ (if by_ = 0 then 1 else by_)).toNat : Int))).1
  rw [bcells_set, ← HT.out] at hst
  have Hst := Lib.hid hst
  clear hst ho1 HT
  generalize bs.getD p 0 ^^^ (if by_ = 0 then 1 else by_) = Z at *
  generalize (if by_ = 0 then (1 : UInt8) else by_) = Y at *
  generalize bs.getD p 0 = X at *
  go_wp2_with (go_at_call 18; refine (hP _).mono ?_; rintro e w' ⟨rfl, rfl⟩)
  go_ret
  exact ⟨_, _, _, rfl, by rw [turned_length, Hl.out]; exact Hst.out, hb1.setCell hgB _⟩
end Go.Proofs.Ytfgkodgdoplpbab
