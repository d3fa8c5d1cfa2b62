/- How a window state is read as an argument of a law. -/
import Derived.Test.YtgcaapehfnmelaaFrameG
import Derived.Test.YtgcaapehfnmelaaWinRef
import Derived.Lib.SmallJoins
namespace Go.Proofs.Ytgcaapehfnmelaa
open Go.ChangeShapes Go.WideShapes Go.ChangeAt Go.RowKit Go.Deep

theorem open_seen {H : Type} {enc : TypeId × Value → H} {W : World} {base : Nat} {v : Value} {d : DataW H} {p : List MemPlace} (hv : Value.okWide Try.prog W .any base 24 v)
    (h : DataW.Trod enc Try.prog W 0 (fun _ => true) true 24 v d p) :
    ∃ (so : Bool) (la : Int) (b : Nat), v = seenV so la b ∧ d = .agg [.lit (.bool so), .lit (.int .i64 la), .lit (.int .u64 (b : Int))] ∧ p = [] ∧ -9223372036854775808 ≤ la ∧ la ≤ 9223372036854775807 ∧ b < 18446744073709551616 ∧
      (Lit.int .i64 la).wf = true ∧ (Lit.int .u64 (b : Int)).wf = true := by
  obtain ⟨v0, v1, v2, y0, y1, y2, n, rfl, rfl, rfl, h0, h1, h2⟩ := Joins.open_agg3 Try.underlying24 (by kernel_rfl) (by kernel_rfl) hv h
  obtain ⟨so, e0, rfl⟩ := DataW.trod_bool Try.underlying4 h0
  obtain ⟨la, e1, rfl, w1⟩ := DataW.trod_int Try.underlying3 h1
  obtain ⟨b, e2, rfl, w2⟩ := DataW.trod_int Try.underlying22 h2
  have hb := bounds_u64 w2
  have hl := bounds_i64 w1
  injection e0 with e0
  injection e1 with e1
  injection e2 with e2
  subst e0 e1 e2
  obtain ⟨b', rfl⟩ : ∃ b' : Nat, b = (b' : Int) := ⟨b.toNat, by omega⟩
  exact ⟨so, la, b', rfl, rfl, rfl, hl.1, hl.2, by omega, w1, w2⟩
theorem shut_seen {H : Type} {enc : TypeId × Value → H} {W : World} {base : Nat} {sp : Nat → Bool} {held : Bool} {so : Bool} {la : Int} {b : Nat} (h1 : (Lit.int .i64 la).wf = true) (h2 : (Lit.int .u64 (b : Int)).wf = true) :
    DataW.Trod enc Try.prog W base sp held 24 (seenV so la b) (.agg [.lit (.bool so), .lit (.int .i64 la), .lit (.int .u64 (b : Int))]) [] := by
  have := Joins.shut_agg3 (enc := enc) (w := W) (base := base) (spare := sp) (held := held) (y0 := (.lit (.bool so), [])) (y1 := (.lit (.int .i64 la), [])) (y2 := (.lit (.int .u64 (b : Int)), [])) (v0 := .bool so) (v1 := .int .i64 la) (v2 := .int .u64 (b : Int)) Try.underlying24 (by kernel_rfl) (by kernel_rfl)
    ⟨1, by simp [DataW.trod, Try.underlying4]⟩ ⟨1, by simp [DataW.trod, Try.underlying3, h1]⟩ ⟨1, by simp [DataW.trod, Try.underlying22, h2]⟩
  exact this
end Go.Proofs.Ytgcaapehfnmelaa
