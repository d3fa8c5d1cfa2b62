/- How a packet is read as an argument of a law. -/
import Derived.Test.YtfipnkledifilaaFrameG
import Derived.Test.YtfipnkledifilaaFrame
import Derived.Test.YtfipnkledifilaaPackCode3
import Derived.Lib.SmallJoins
namespace Go.Proofs.Ytfipnkledifilaa
open Go.ChangeShapes Go.WideShapes Go.ChangeAt Go.RowKit Go.Deep

set_option maxRecDepth 100000 in
theorem open_pack {H : Type} {enc : TypeId × Value → H} {W : World} {base : Nat} {v : Value} {d : DataW H} {p : List MemPlace} (hv : Value.okWide Try.prog W .any base 57 v)
    (h : DataW.Trod enc Try.prog W 0 (fun _ => true) true 57 v d p) :
    ∃ (s t : Nat) (a : Option Addr) (n c : Nat) (bs : List UInt8), v = packV s t a n c ∧ s < 4294967296 ∧ t < 4294967296 ∧ BytesAt W W.heap.size a n bs ∧ (a = none → n = 0 ∧ c = 0) := by
  obtain ⟨v0, v1, v2, y0, y1, y2, n, rfl, rfl, rfl, h0, h1, h2⟩ := Joins.open_agg3 Try.underlying57 (by kernel_rfl) (by kernel_rfl) hv h
  obtain ⟨s, e0, _, w0⟩ := DataW.trod_int Try.underlying27 h0
  obtain ⟨t, e1, _, w1⟩ := DataW.trod_int Try.underlying27 h1
  obtain ⟨a, l, c, e2⟩ := Joins.slice_form Try.underlying55 h2
  injection e0 with e0
  injection e1 with e1
  injection e2 with e2
  subst e0 e1 e2
  have hs := bounds_u32 w0
  have ht := bounds_u32 w1
  obtain ⟨s', rfl⟩ : ∃ s' : Nat, s = (s' : Int) := ⟨s.toNat, by omega⟩
  obtain ⟨t', rfl⟩ : ∃ t' : Nat, t = (t' : Int) := ⟨t.toNat, by omega⟩
  obtain ⟨bs, hb, _, hn, _⟩ := open_bytes (enc := enc) (W := W) (a := a) (len := l) (cap := c) (d := y2.1) (p := y2.2) ⟨n, h2⟩
  exact ⟨s', t', a, l, c, bs, rfl, by omega, by omega, hb, hn⟩
end Go.Proofs.Ytfipnkledifilaa
