/- The contract of sort.Search with the closure of trie.grow. -/
import Derived.Test.YtldfamdjdkaloaaTrieCode3
namespace Go.Proofs.Ytldfamdjdkaloaa
open Go.RowKit

/-- Where the search is. -/
structure Seeks (w : World) (t : Tr.Nw) (l : List Tr.Node) (i j : Nat) (wr : World) : Prop where
  le : i ≤ j
  up : j ≤ l.length
  low : ∀ x (_ : x < i) (h : x < l.length), Tr.bitAt l[x].a t.2.toNat = 0
  high : ∀ x (_ : j ≤ x) (h : x < l.length), Tr.bitAt l[x].a t.2.toNat = 1
  below : Below w.heap.size w wr

set_option maxRecDepth 20000 in
set_option maxHeartbeats 1600000 in
theorem trie_Search (g5 g3 : Nat) (t : Tr.Nw) (a : Option Addr) (n c : Nat) (l : List Tr.Node) (w : World) (hS : Sees w w.heap.size g5 g3 t a n c l) (hn : n ≤ 3518437208883) (hw : Tr.Within t l) (hs : Tr.sorted l) (ht : 0 < n → t.2 ≤ 31) :
    Calls Try.prog 80 #[.int .i64 (n : Int), .func (.func 81) #[] #[.pointer (some ⟨g5, 0, none⟩), .pointer (some ⟨g3, 0, none⟩)]] w fun e w' => (∃ k : Nat, e = .returned (.int .i64 (k : Int)) ∧ Tr.Ones t l k) ∧ Below w.heap.size w w' := by
  have HS := Lib.hid hS
  have HW := Lib.hid hw
  have Hs := Lib.hid hs
  have hl := hS.nodes.1
  have Ht := Lib.hid ht
  clear hS hw hs ht
  go_enter Try.func80, Try.ntmps80
  go_wp2
  go_loopw [5, 6] (fun vi vj wr => ∃ i j : Nat, vi = .int .i64 i ∧ vj = .int .i64 j ∧ Hid (Seeks w t l i j wr)) (fun vi vj _ => (intOf vj - intOf vi).toNat)
  case atStart => exact ⟨0, n, rfl, rfl, Lib.hid ⟨Nat.zero_le _, by omega, fun x hx => by omega, fun x hx h => by omega, Below.refl _ _⟩⟩
  case round =>
    obtain ⟨i, j, rfl, rfl, HK⟩ := hrel
    obtain ⟨wo, hwo⟩ : ∃ wo, wo = wr := ⟨_, rfl⟩
    subst hwo
    have hij := HK.out.le
    have hjn := HK.out.up
    have hsz := HK.out.below.size
    by_cases hlt : i < j
    · obtain ⟨m, hm⟩ : ∃ m, m = (i + j) / 2 := ⟨_, rfl⟩
      have hm1 : i ≤ m := by omega
      have hm2 : m < j := by omega
      have HB := Lib.hid (trie_bit m g5 g3 w.heap.size t a n c l wo (HS.out.below HK.out.below) (by omega) hn HW.out.t0 (Ht.out (by omega)))
      have e1 : IntKind.i64.wrap ((i : Int) + (j : Int)) = (i : Int) + (j : Int) := IntWalk.i64_in _ (by omega)
      have e2 : ((i : Int) + (j : Int)) / 2 = (m : Int) := by omega
      clear hm
      go_wp2_with fail
      refine HB.out.mono ?_
      rintro e w2 ⟨⟨r, rfl, hr⟩, hb2⟩
      have hml : m < l.length := by omega
      rw [show l.getD m ⟨0, 0, ByteArray.empty, 0⟩ = l[m] by rw [List.getD_eq_getElem?_getD, List.getElem?_eq_getElem hml]; rfl] at hr
      have hB2 := HK.out.below.trans (hb2.mono hsz)
      cases r with
      | true =>
        have h1 := hr.1 rfl
        have HN : Hid (Seeks w t l i m w2) := Lib.hid ⟨hm1, by omega, HK.out.low, fun x hx h => HW.out.mono Hs.out hx h h1, hB2⟩
        clear hr h1 HB e1 e2
        go_wp2
        go_roundw
        case rel => exact ⟨i, m, rfl, rfl, HN⟩
        case measure => simp [intOf]; omega
      | false =>
        have h1 : Tr.bitAt l[m].a t.2.toNat = 0 := (Tr.bit_two _ _).resolve_right fun h => by have := hr.2 h; cases this
        have HN : Hid (Seeks w t l (m + 1) j w2) := Lib.hid ⟨by omega, hjn, fun x hx h => by
          rcases Tr.bit_two l[x].a t.2.toNat with hb | hb
          · exact hb
          · have := HW.out.mono Hs.out (show x ≤ m by omega) hml hb
            omega, HK.out.high, hB2⟩
        clear hr h1 HB e1 e2
        go_wp2
        go_roundw
        case rel => exact ⟨m + 1, j, by go_num, rfl, HN⟩
        case measure => simp [intOf]; omega
    · obtain rfl : i = j := by omega
      have HO : Hid (Tr.Ones t l i) := Lib.hid ⟨hjn, HK.out.low, HK.out.high⟩
      have hB := HK.out.below
      clear HS HW Hs Ht
      go_wp2
      go_ret
      exact ⟨⟨i, rfl, HO.out⟩, hB⟩
end Go.Proofs.Ytldfamdjdkaloaa
