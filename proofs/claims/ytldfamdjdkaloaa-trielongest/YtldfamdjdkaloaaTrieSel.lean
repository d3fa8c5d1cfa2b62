/- Function values that select nodes: by network, by owner; slices.IndexFunc with one. -/
import Derived.Test.YtldfamdjdkaloaaNodeMem3
import Derived.Test.YtldfamdjdkaloaaNetInBlk
import Derived.Test.YtldfamdjdkaloaaNodeEq
import Derived.Shelf.Abstract
namespace Go.Proofs.Ytldfamdjdkaloaa
open Go.RowKit

def nodeV (n : Tr.Node) : Value := .agg #[.int .u32 (n.a : Int), .int .i64 n.b, .string n.o, .int .i64 n.s]
/-- The function F, with what it has captured at gc, selects. -/
def SelAt (F gc N : Nat) (sel : Tr.Node → Bool) (w : World) : Prop := (∀ (args : Array Value) (W : World), (callFunc F args).run Try.prog W = .ok (.enter F args) W) ∧ ∀ W, Below N w W → ∀ nd : Tr.Node, Calls Try.prog F #[nodeV nd, .pointer (some ⟨gc, 0, none⟩)] W fun e W' => e = .returned (.bool (sel nd)) ∧ Below W.heap.size W W'
theorem SelAt.below {F gc N : Nat} {sel : Tr.Node → Bool} {w w' : World} (h : SelAt F gc N sel w) (hb : Below N w w') : SelAt F gc N sel w' := ⟨h.1, fun W hW nd => h.2 W (hb.trans hW) nd⟩

set_option maxRecDepth 20000 in
set_option maxHeartbeats 1600000 in
theorem nodes_IndexFunc (F gc N : Nat) (sel : Tr.Node → Bool) (a : Option Addr) (n c : Nat) (l : List Tr.Node) (w : World) (h : NodesAt w w.heap.size a n l) (hn : n ≤ 3518437208883) (hs : SelAt F gc N sel w) (hN : N ≤ w.heap.size) :
    Calls Try.prog 85 #[.slice a n c, .func (.func F) #[] #[.pointer (some ⟨gc, 0, none⟩)]] w fun e w' => ((e = .returned (.int .i64 (-1)) ∧ ∀ x ∈ l, sel x = false) ∨ ∃ (k : Nat) (hk : k < l.length), e = .returned (.int .i64 (k : Int)) ∧ sel l[k] = true ∧ ∀ x ∈ l.take k, sel x = false) ∧ Below w.heap.size w w' := by
  have Hh := Lib.hid h
  have hl := h.1
  have Hs := Lib.hid hs
  have hent := hs.1
  clear h hs
  go_enter Try.func85, Try.ntmps85
  go_wp2
  go_loopw [8] (fun i wr => ∃ k : Nat, k ≤ n ∧ i = .int .i64 k ∧ Hid (∀ x ∈ l.take k, sel x = false) ∧ Below w.heap.size w wr) (fun i _ => n - (intOf i).toNat)
  case atStart => exact ⟨0, Nat.zero_le _, rfl, Lib.hid (fun x hx => by simp at hx), Below.refl _ _⟩
  case round =>
    obtain ⟨k, hk, rfl, Ha, hB⟩ := hrel
    have hsz := hB.size
    by_cases hlt : k < n
    · obtain ⟨b, off, rfl, hbl, hcs⟩ := (Hh.out.below hB).2 (by omega)
      have hkl : k < l.length := by omega
      obtain ⟨c0, c1, c2, c3⟩ := hcs k hkl
      have HC := Lib.hid (Hs.out.2 wr (hB.mono hN) l[k])
      have Hn := Lib.hid (fun (hh : sel l[k] = false) => (show ∀ x ∈ l.take (k + 1), sel x = false by
        intro x hx
        rw [List.take_succ_eq_append_getElem hkl] at hx
        rcases List.mem_append.1 hx with hx | hx
        · exact Ha.out x hx
        · obtain rfl : x = l[k] := by simpa using hx
          exact hh))
      have Hy := Lib.hid (fun (hh : sel l[k] = true) => (show ∃ (q : Nat) (hq : q < l.length), (Ending.returned (.int .i64 (k : Int)) = Ending.returned (.int .i64 (q : Int))) ∧ sel l[q] = true ∧ ∀ x ∈ l.take q, sel x = false from ⟨k, hkl, rfl, hh, Ha.out⟩))
      unfold nodeV at HC
      clear hcs
      generalize l[k] = nd at *
      obtain ⟨na, nb, no, ns⟩ := nd
      cases hse : sel ⟨na, nb, no, ns⟩ with
      | false =>
        rw [hse] at HC
        have Hn' := Lib.hid (Hn.out hse)
        clear Hn Hy hse
        go_wp2_with fail
        refine HC.out.mono ?_
        rintro e w2 ⟨rfl, b2⟩
        have hB2 := hB.trans (b2.mono hsz)
        clear b2 HC c0 c1 c2 c3
        go_wp2
        go_roundw
        case rel => exact ⟨k + 1, by omega, by go_num, Hn', hB2⟩
        case measure => simp [intOf]; omega
      | true =>
        rw [hse] at HC
        have Hy' := Lib.hid (Hy.out hse)
        clear Hn Hy hse
        go_wp2_with fail
        refine HC.out.mono ?_
        rintro e w2 ⟨rfl, b2⟩
        have hB2 := hB.trans (b2.mono hsz)
        clear b2 HC c0 c1 c2 c3
        go_wp2
        go_ret
        exact ⟨.inr Hy'.out, hB2⟩
    · have htk : l.take k = l := List.take_of_length_le (by omega)
      rw [htk] at Ha
      clear Hh
      go_wp2
      go_ret
      exact ⟨.inl ⟨rfl, Ha.out⟩, hB⟩
end Go.Proofs.Ytldfamdjdkaloaa
