/- How a network is read as an argument of a law. -/
import Derived.Test.YtelanamcpadgdaaFrameG
import Derived.Test.YtelanamcpadgdaaNetMem
import Derived.Lib.SmallJoins
namespace Go.Proofs.Ytelanamcpadgdaa
open Go.ChangeShapes Go.WideShapes Go.ChangeAt Go.RowKit Go.Deep

set_option maxRecDepth 100000 in
theorem open_net {H : Type} {enc : TypeId × Value → H} {W : World} {base : Nat} {v : Value} {d : DataW H} {p : List MemPlace} (hv : Value.okWide Try.prog W .any base 28 v)
    (h : DataW.Trod enc Try.prog W 0 (fun _ => true) true 28 v d p) :
    ∃ (a : Nat) (b : Int), v = netV a b ∧ d = .agg [.lit (.int .u32 (a : Int)), .lit (.int .i64 b)] ∧ p = [] ∧ a < 4294967296 ∧ -9223372036854775808 ≤ b ∧ b ≤ 9223372036854775807 ∧
      (Lit.int .u32 (a : Int)).wf = true ∧ (Lit.int .i64 b).wf = true := by
  obtain ⟨v0, v1, y0, y1, n, rfl, rfl, rfl, h0, h1⟩ := Joins.open_agg2 Try.underlying28 (by kernel_rfl) (by kernel_rfl) hv h
  obtain ⟨a, e0, rfl, w0⟩ := DataW.trod_int Try.underlying26 h0
  obtain ⟨b, e1, rfl, w1⟩ := DataW.trod_int Try.underlying3 h1
  have ha := bounds_u32 w0
  have hb := bounds_i64 w1
  injection e0 with e0
  injection e1 with e1
  subst e0 e1
  obtain ⟨a', rfl⟩ : ∃ a' : Nat, a = (a' : Int) := ⟨a.toNat, by omega⟩
  exact ⟨a', b, rfl, rfl, rfl, by omega, hb.1, hb.2, w0, w1⟩
set_option maxRecDepth 100000 in
theorem shut_net {H : Type} {enc : TypeId × Value → H} {W : World} {base : Nat} {sp : Nat → Bool} {held : Bool} {a : Nat} {b : Int} (h0 : (Lit.int .u32 (a : Int)).wf = true) (h1 : (Lit.int .i64 b).wf = true) :
    DataW.Trod enc Try.prog W base sp held 28 (netV a b) (.agg [.lit (.int .u32 (a : Int)), .lit (.int .i64 b)]) [] := by
  have := Joins.shut_agg2 (enc := enc) (w := W) (base := base) (spare := sp) (held := held) (y0 := (.lit (.int .u32 (a : Int)), [])) (y1 := (.lit (.int .i64 b), [])) (v0 := .int .u32 (a : Int)) (v1 := .int .i64 b) Try.underlying28 (by kernel_rfl) (by kernel_rfl)
    ⟨1, by simp [DataW.trod, Try.underlying26, h0]⟩ ⟨1, by simp [DataW.trod, Try.underlying3, h1]⟩
  exact this
end Go.Proofs.Ytelanamcpadgdaa
