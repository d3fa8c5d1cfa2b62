/- How a raw thing (three numbers and a text) is read as an argument of a law. -/
import Derived.Test.YtfgkodgdoplpbabFrameG
import Derived.Test.YtfgkodgdoplpbabRawVal
import Derived.Lib.SmallJoins
namespace Go.Proofs.Ytfgkodgdoplpbab
open Go.ChangeShapes Go.WideShapes Go.ChangeAt Go.RowKit Go.Deep

set_option maxRecDepth 100000 in
theorem open_raw {H : Type} {enc : TypeId × Value → H} {W : World} {base : Nat} {v : Value} {d : DataW H} {p : List MemPlace} (hv : Value.okWide Try.prog W .any base 36 v)
    (h : DataW.Trod enc Try.prog W 0 (fun _ => true) true 36 v d p) :
    ∃ (k a b : Int) (s : ByteArray), v = rawV k a b s ∧ d = .agg [.lit (.int .i64 k), .lit (.int .i64 a), .lit (.int .i64 b), .lit (.string s.data.toList)] ∧ p = [] ∧
      ((-9223372036854775808 ≤ k ∧ k ≤ 9223372036854775807) ∧ (-9223372036854775808 ≤ a ∧ a ≤ 9223372036854775807) ∧ (-9223372036854775808 ≤ b ∧ b ≤ 9223372036854775807)) ∧
      (Lit.int .i64 k).wf = true ∧ (Lit.int .i64 a).wf = true ∧ (Lit.int .i64 b).wf = true ∧ s.size ≤ maxLen := by
  obtain ⟨v0, v1, v2, v3, y0, y1, y2, y3, n, rfl, rfl, rfl, h0, h1, h2, h3⟩ := Joins.open_agg4 Try.underlying36 (by kernel_rfl) (by kernel_rfl) hv h
  obtain ⟨k, e0, rfl, w0⟩ := DataW.trod_int Try.underlying3 h0
  obtain ⟨a, e1, rfl, w1⟩ := DataW.trod_int Try.underlying3 h1
  obtain ⟨b, e2, rfl, w2⟩ := DataW.trod_int Try.underlying3 h2
  obtain ⟨s, e3, rfl, w3⟩ := DataW.trod_string Try.underlying9 h3
  injection e0 with e0
  injection e1 with e1
  injection e2 with e2
  injection e3 with e3
  subst e0 e1 e2 e3
  exact ⟨k, a, b, s, rfl, rfl, rfl, ⟨bounds_i64 w0, bounds_i64 w1, bounds_i64 w2⟩, w0, w1, w2, w3⟩
set_option maxRecDepth 100000 in
theorem shut_raw {H : Type} {enc : TypeId × Value → H} {W : World} {base : Nat} {sp : Nat → Bool} {held : Bool} {k a b : Int} {s : ByteArray} (h0 : (Lit.int .i64 k).wf = true) (h1 : (Lit.int .i64 a).wf = true) (h2 : (Lit.int .i64 b).wf = true) (h3 : s.size ≤ maxLen) :
    DataW.Trod enc Try.prog W base sp held 36 (rawV k a b s) (.agg [.lit (.int .i64 k), .lit (.int .i64 a), .lit (.int .i64 b), .lit (.string s.data.toList)]) [] := by
  have := Joins.shut_agg4 (enc := enc) (w := W) (base := base) (spare := sp) (held := held) (y0 := (.lit (.int .i64 k), [])) (y1 := (.lit (.int .i64 a), [])) (y2 := (.lit (.int .i64 b), [])) (y3 := (.lit (.string s.data.toList), [])) (v0 := .int .i64 k) (v1 := .int .i64 a) (v2 := .int .i64 b) (v3 := .string s) Try.underlying36 (by kernel_rfl) (by kernel_rfl)
    ⟨1, by simp [DataW.trod, Try.underlying3, h0]⟩ ⟨1, by simp [DataW.trod, Try.underlying3, h1]⟩ ⟨1, by simp [DataW.trod, Try.underlying3, h2]⟩ ⟨1, by simp [DataW.trod, Try.underlying9, h3]⟩
  exact this
end Go.Proofs.Ytfgkodgdoplpbab
