/- The contract of the reference's without. -/
import Derived.Test.YtldfamdjdkaloaaTrieRef2
import Derived.Test.YtldfamdjdkaloaaTriePlain5
import Derived.Test.YtldfamdjdkaloaaTrieSel
namespace Go.Proofs.Ytldfamdjdkaloaa
open Go.RowKit

theorem filter_snoc (p : Tr.Node → Bool) (l : List Tr.Node) (n : Tr.Node) : (l ++ [n]).filter p = l.filter p ++ (if p n = true then [n] else []) := by
  rw [List.filter_append]
  congr 1
  by_cases h : p n = true
  · rw [if_pos h, List.filter_cons_of_pos h]; rfl
  · rw [if_neg h, List.filter_cons_of_neg h]; rfl
set_option maxRecDepth 20000 in
set_option maxHeartbeats 1600000 in
theorem ref_without (F gc N : Nat) (sel : Tr.Node → Bool) (a : Option Addr) (n c : Nat) (l : List Tr.Node) (w : World) (h : NodesAt w w.heap.size a n l) (hn : n ≤ 3518437208780) (hg : ∀ x ∈ Tr.owned l, Tr.good (Tr.nw x)) (hol : (Tr.owned l).length ≤ 1759218604441) (hs : SelAt F gc N sel w) (hN : N ≤ w.heap.size) :
    Calls Try.prog 46 #[.slice a n c, .func (.func F) #[] #[.pointer (some ⟨gc, 0, none⟩)]] w fun e w' => ∃ v, e = .returned v ∧ OwnN w' w.heap.size v (Tr.trie ((Tr.owned l).filter fun x => !sel x)) ∧ Below w.heap.size w w' := by
  have H2 := Lib.hid (ref_owned a n c l w h hn)
  have Hs := Lib.hid hs
  have hent := hs.1
  have Hg := Lib.hid hg
  clear h hs hg
  generalize Tr.owned l = al at *
  go_enter Try.func46, Try.ntmps46
  go_wp2_with fail
  refine H2.out.mono ?_
  rintro e w3 ⟨v3, rfl, o3, b3⟩
  obtain ⟨a3, c3, rfl, _, at3⟩ := o3.at
  have HA := Lib.hid at3
  have hsz3 := b3.size
  clear o3 at3 H2
  obtain ⟨m, hm⟩ : ∃ m, m = al.length := ⟨_, rfl⟩
  rw [← hm] at HA hol ⊢
  have Hm := Lib.hid hm
  clear hm
  go_wp2
  go_loopw [5, 11] (fun v i wr => ∃ k : Nat, k ≤ m ∧ i = .int .i64 k ∧ Hid (OwnN wr w3.heap.size v ((al.take k).filter fun x => !sel x)) ∧ Below w3.heap.size w3 wr) (fun _ i _ => m - (intOf i).toNat)
  case atStart => exact ⟨0, Nat.zero_le _, rfl, Lib.hid (OwnN.nil _ _), Below.refl _ _⟩
  case round =>
    obtain ⟨k, hk, rfl, HO, hB⟩ := hrel
    obtain ⟨wo, hwo⟩ : ∃ wo, wo = wr := ⟨_, rfl⟩
    subst hwo
    have hsz := hB.size
    by_cases hlt : k < m
    · obtain ⟨b, off, rfl, hbl, hcs⟩ := (HA.out.below hB).2 (by omega)
      have hkl : k < al.length := by rw [← Hm.out]; exact hlt
      obtain ⟨c0, c1, c2, c3'⟩ := hcs k hkl
      have hfl : ((al.take k).filter fun x => !sel x).length ≤ k := Nat.le_trans (List.length_filter_le _ _) (by rw [List.length_take]; omega)
      have Hsn := Lib.hid (filter_snoc (fun x => !sel x) (al.take k) al[k])
      rw [← List.take_succ_eq_append_getElem hkl] at Hsn
      have HC := Lib.hid (fun (W : World) (hW : Below w3.heap.size w3 W) => Hs.out.2 W ((b3.mono hN).trans (hW.mono (by omega))) al[k])
      clear hcs
      generalize al[k] = nd at *
      obtain ⟨na, nb, no, ns⟩ := nd
      have hbo : Below w3.heap.size w3 (wo.alloc (.cells #[.int .u32 (na : Int), .int .i64 nb, .string no, .int .i64 ns] 56)) := hB.alloc hsz _
      have HN : Hid (NodeIn (wo.alloc (.cells #[.int .u32 (na : Int), .int .i64 nb, .string no, .int .i64 ns] 56)) wo.heap.size ⟨na, nb, no, ns⟩) := Lib.hid (heap_alloc_last wo _)
      have HOo := Lib.hid (HO.out.alloc (.cells #[.int .u32 (na : Int), .int .i64 nb, .string no, .int .i64 ns] 56))
      have HC1 := Lib.hid (HC.out _ hbo)
      unfold nodeV at HC1
      have Hbo := Lib.hid hbo
      have hszo := hbo.size
      clear hbo HC HO
      cases hse : sel ⟨na, nb, no, ns⟩ with
      | true =>
        rw [hse] at HC1 Hsn
        rw [if_neg (by simp), List.append_nil] at Hsn
        clear hse
        go_wp2_with fail
        refine HC1.out.mono ?_
        rintro e w4 ⟨rfl, b4⟩
        have hB4 := Hbo.out.trans (b4.mono hszo)
        have HO4 := Lib.hid (HOo.out.below b4)
        clear b4 c0 c1 c2 c3' HC1
        go_wp2
        go_roundw
        case rel => exact ⟨k + 1, by omega, by go_num, Lib.hid (by rw [Hsn.out]; exact HO4.out), hB4⟩
        case measure => simp [intOf]; omega
      | false =>
        rw [hse] at HC1 Hsn
        rw [if_pos (by simp)] at Hsn
        clear hse
        go_wp2_with fail
        refine HC1.out.mono ?_
        rintro e w4 ⟨rfl, b4⟩
        have hB4 := Hbo.out.trans (b4.mono hszo)
        have hsz4 := hB4.size
        have HO4 := Lib.hid (HOo.out.below b4)
        obtain ⟨d0, d1, d2, d3⟩ := (HN.out.low b4 HN.out.lt).cells
        have hnw := nodesAt_new w4 ⟨na, nb, no, ns⟩
        have Hnw := Lib.hid hnw
        clear b4 c0 c1 c2 c3' HC1 hnw
        go_wp2_with (at_builtin; refine wpL_append_nodes _ rfl _ _ rfl w3.heap.size _ ((al.take k).filter fun x => !sel x) rfl (HO4.out.alloc _) _ 1 _ [⟨na, nb, no, ns⟩] rfl (fun h => by cases h) Hnw.out (by omega) (by simp; omega) ?_)
        intro v' w5 hO5 hgr _
        have hB5 := (hB4.alloc hsz4 _).trans ((below_grownN (HO4.out.alloc _) hgr (by simp; omega)))
        rw [← Hsn.out] at hO5
        have HO5 := Lib.hid hO5
        clear hO5 hgr
        go_wp2
        go_roundw
        case rel => exact ⟨k + 1, by omega, by go_num, HO5, hB5⟩
        case measure => simp [intOf]; omega
    · have htk : al.take k = al := List.take_of_length_le (by rw [← Hm.out]; omega)
      rw [htk] at HO
      obtain ⟨a6, c6, rfl, _, at6⟩ := HO.out.at
      have hfl : (al.filter fun x => !sel x).length ≤ al.length := List.length_filter_le _ _
      have hfm := Hm.out
      have HG := Lib.hid (ref_grown 33 a6 _ c6 (al.filter fun x => !sel x) wo at6 (fun x hx => Hg.out x (List.mem_filter.1 hx).1) Tr.deep (by omega) (by omega))
      clear HO at6 HA hfm
      go_wp2_with fail
      refine HG.out.mono ?_
      rintro e w7 ⟨v7, rfl, o7, b7⟩
      have hB7 := b3.trans ((hB.trans (b7.mono hsz)).mono hsz3)
      have HO7 := Lib.hid (o7.base (show w.heap.size ≤ wo.heap.size by omega))
      clear o7 b7 HG
      go_wp2
      go_ret
      exact ⟨_, rfl, HO7.out, hB7⟩
end Go.Proofs.Ytldfamdjdkaloaa
