/- How a message is read as an argument of a law. -/
import Derived.Test.YtfgkodgdoplpbabFrameG
import Derived.Test.YtfgkodgdoplpbabFrame
import Derived.Test.YtfgkodgdoplpbabWireCode1
import Derived.Lib.SmallJoins
namespace Go.Proofs.Ytfgkodgdoplpbab
open Go.ChangeShapes Go.WideShapes Go.ChangeAt Go.RowKit Go.Deep

theorem five_of {α : Type} {l : List α} (h : l.length = 5) : ∃ a b c d e, l = [a, b, c, d, e] := by
  cases l with
  | nil => cases h
  | cons a l =>
    cases l with
    | nil => cases h
    | cons b l =>
      cases l with
      | nil => cases h
      | cons c l =>
        cases l with
        | nil => cases h
        | cons d l =>
          cases l with
          | nil => cases h
          | cons e l =>
            cases l with
            | nil => exact ⟨a, b, c, d, e, rfl⟩
            | cons f l => simp at h

set_option maxRecDepth 100000 in
set_option maxHeartbeats 1600000 in
theorem open_mess {H : Type} {enc : TypeId × Value → H} {W : World} {base : Nat} {v : Value} {d : DataW H} {p : List MemPlace} (hv : Value.okWide Try.prog W .any base 24 v)
    (h : DataW.Trod enc Try.prog W 0 (fun _ => true) true 24 v d p) :
    ∃ (k s r c : Int) (a : Option Addr) (n cap : Nat) (bs : List UInt8), v = messV k s r c a n cap ∧ BytesAt W W.heap.size a n bs ∧ (a = none → n = 0 ∧ cap = 0) := by
  obtain ⟨cs, rfl, hsz⟩ := okWide_struct Try.underlying24 hv
  obtain ⟨fuel, hf⟩ := h
  obtain ⟨xs, n, _, _, hl, hlen, hf⟩ := DataW.trod_struct Try.underlying24 hf
  have hcm : Try.prog.cellsOf 24 = 5 := by kernel_rfl
  have hci : Try.prog.cellsOf 3 = 1 := by kernel_rfl
  have hcb : Try.prog.cellsOf 22 = 1 := by kernel_rfl
  obtain ⟨c0, c1, c2, c3, c4, hcs⟩ := five_of (show cs.toList.length = 5 by rw [Array.length_toList, hsz, hcm])
  obtain ⟨y0, y1, y2, y3, y4, rfl⟩ := five_of (show xs.length = 5 from hlen)
  obtain rfl : cs = #[c0, c1, c2, c3, c4] := by apply Array.ext'; exact hcs
  have h0 := hf 0 _ rfl
  have h1 := hf 1 _ rfl
  have h2 := hf 2 _ rfl
  have h3 := hf 3 _ rfl
  have h4 := hf 4 _ rfl
  simp [Value.cells, hci, hcb] at h0 h1 h2 h3 h4
  obtain ⟨k, e0, _, _⟩ := DataW.trod_int Try.underlying3 h0
  obtain ⟨s, e1, _, _⟩ := DataW.trod_int Try.underlying3 h1
  obtain ⟨r, e2, _, _⟩ := DataW.trod_int Try.underlying3 h2
  obtain ⟨c, e3, _, _⟩ := DataW.trod_int Try.underlying3 h3
  obtain ⟨a, l, cap, e4⟩ := Joins.slice_form Try.underlying22 h4
  injection e0 with e0
  injection e1 with e1
  injection e2 with e2
  injection e3 with e3
  injection e4 with e4
  subst e0 e1 e2 e3 e4
  obtain ⟨bs, hb, _, hn, _⟩ := open_bytes (enc := enc) (W := W) (a := a) (len := l) (cap := cap) (d := y4.1) (p := y4.2) ⟨n, h4⟩
  exact ⟨k, s, r, c, a, l, cap, bs, rfl, hb, hn⟩
end Go.Proofs.Ytfgkodgdoplpbab
