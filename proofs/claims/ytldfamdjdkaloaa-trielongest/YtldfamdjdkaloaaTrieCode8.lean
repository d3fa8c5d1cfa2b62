/- The contract of slices.DeleteFunc at a row of nodes of the call's own. -/
import Derived.Test.YtldfamdjdkaloaaTrieSel
import Derived.Test.YtldfamdjdkaloaaNodeMem4
import Derived.Test.YtldfamdjdkaloaaTrieRef5
namespace Go.Proofs.Ytldfamdjdkaloaa
open Go.RowKit

/-- Where DeleteFunc is: the row's nodes R, the kept ones ahead of i, those behind j as they were. -/
structure DelSo (w wr : World) (B g c : Nat) (S R : List Tr.Node) (sel : Tr.Node → Bool) (i j : Nat) : Prop where
  row : wr.ownsRow B 56 4 (.slice (some ⟨g, 0, none⟩) R.length c) R.length (Tr.nodesC R)
  len : R.length = S.length
  lt : i < j
  le : j ≤ S.length
  kept : R.take i = (S.take j).filter fun x => !sel x
  rest : R.drop j = S.drop j
  grown : w.grownBy wr (some g)
theorem drop_get {α : Type} {R S : List α} {j q : Nat} (h : R.drop j = S.drop j) (hj : j ≤ q) (h1 : q < R.length) (h2 : q < S.length) : R[q] = S[q] := by
  have e1 : R[q]? = (R.drop j)[q - j]? := by rw [List.getElem?_drop, show j + (q - j) = q by omega]
  have e2 : S[q]? = (S.drop j)[q - j]? := by rw [List.getElem?_drop, show j + (q - j) = q by omega]
  rw [h, ← e2, List.getElem?_eq_getElem h1, List.getElem?_eq_getElem h2] at e1
  injection e1

set_option maxRecDepth 20000 in
set_option maxHeartbeats 3200000 in
theorem nodes_DeleteFunc (F gc N : Nat) (sel : Tr.Node → Bool) (v : Value) (S : List Tr.Node) (w : World) (B : Nat) (hO : OwnN w B v S) (hB : B ≤ w.heap.size) (hn : S.length ≤ 3518437208883) (hs : SelAt F gc N sel w) (hN : N ≤ B) :
    Calls Try.prog 67 #[v, .func (.func F) #[] #[.pointer (some ⟨gc, 0, none⟩)]] w fun e w' => (∃ a m c, e = .returned (.slice a m c) ∧ NodesAt w' w'.heap.size a m (S.filter fun x => !sel x) ∧ m ≤ c) ∧ Below B w w' := by
  obtain ⟨va, vc, rfl, hown⟩ := hO
  have hO : OwnN w B (.slice va S.length vc) S := ⟨va, vc, rfl, hown⟩
  have hcap : S.length ≤ vc := by
    rcases hown.2 with ⟨_, hz⟩ | ⟨g, cap, cur, hv, _, _, hk, _⟩
    · omega
    · injection hv with _ _ h3; omega
  have hat := hO.at'.2
  have HI := Lib.hid (nodes_IndexFunc F gc N sel va S.length vc S w hat hn hs (by omega))
  have Hs := Lib.hid hs
  have hent := hs.1
  have HO := Lib.hid hO
  clear hs hown hO hat
  go_enter Try.func67, Try.ntmps67
  go_wp2_with fail
  refine HI.out.mono ?_
  rintro e w2 ⟨hres, b2⟩
  have hsz2 := b2.size
  rcases hres with ⟨rfl, hall⟩ | ⟨k, hk, rfl, hsel, hpre⟩
  · have hfe : (S.filter fun x => !sel x) = S := List.filter_eq_self.2 fun x hx => by rw [hall x hx]; rfl
    have HR : Hid (NodesAt w2 w2.heap.size va S.length (S.filter fun x => !sel x)) := Lib.hid (by rw [hfe]; exact (HO.out.below b2).at'.2)
    clear hall hfe HI
    go_wp2
    go_ret
    exact ⟨⟨_, _, _, rfl, HR.out, hcap⟩, b2.mono hB⟩
  · obtain ⟨g, c1, hv, hc1, hBg, hglt, hrow⟩ := (HO.out.below b2).row (by intro e; rw [e] at hk; simp at hk)
    injection hv with hv1 _ hv3
    subst hv1 hv3
    have hK0 : Hid (∃ R, DelSo w w2 B g vc S R sel k (k + 1)) := Lib.hid ⟨S, ⟨hrow, rfl, by omega, by omega, by
      rw [List.take_succ_eq_append_getElem hk, filter_snoc, if_neg (by rw [hsel]; simp), List.append_nil]
      exact (List.filter_eq_self.2 fun x hx => by rw [hpre x hx]; rfl).symm, rfl, ⟨b2.os, b2.tape, b2.output, b2.size, fun q hq _ => b2.block q hq⟩⟩⟩
    obtain ⟨n, hnn⟩ : ∃ n, n = S.length := ⟨_, rfl⟩
    rw [← hnn] at hcap hn hk ⊢
    have Hn := Lib.hid hnn
    clear hnn hrow hsel hpre HI HO hc1
    have hk1 : ((k : Int) == -1) = false := beq_eq_false_iff_ne.2 (by omega)
    go_wp2
    clear hk1
    go_loopw [5, 6] (fun v5 v6 wr => ∃ i j : Nat, v5 = .int .i64 i ∧ v6 = .int .i64 j ∧ j ≤ n ∧ i < j ∧ Hid (∃ R, DelSo w wr B g vc S R sel i j)) (fun _ v6 _ => n - (intOf v6).toNat)
    case atStart => exact ⟨k, k + 1, rfl, by go_num, by omega, by omega, hK0⟩
    case round =>
      obtain ⟨i, j, rfl, rfl, hj, hij, HK⟩ := hrel
      obtain ⟨wo, hwo⟩ : ∃ wo, wo = wr := ⟨_, rfl⟩
      subst hwo
      obtain ⟨R, hD⟩ := HK.out
      have hRl := hD.len
      rw [← Hn.out] at hRl
      have hszo := hD.grown.size
      by_cases hlt : j < n
      · have hjR : j < R.length := by omega
        have hiR : i < R.length := by omega
        have hjS : j < S.length := by rw [← Hn.out]; exact hlt
        obtain ⟨⟨c0, c1', c2, c3⟩, _⟩ := row_write hD.row j hjR
        have hRS := drop_get hD.rest (Nat.le_refl j) hjR hjS
        obtain ⟨nd, hnd⟩ : ∃ nd, nd = S[j] := ⟨_, rfl⟩
        rw [hRS, ← hnd] at c0 c1' c2 c3
        have HSn := Lib.hid (filter_snoc (fun x => !sel x) (S.take j) S[j])
        rw [← List.take_succ_eq_append_getElem hjS, ← hnd] at HSn
        have hrd : R.drop (j + 1) = S.drop (j + 1) := by
          have := congrArg (List.drop 1) hD.rest
          rwa [List.drop_drop, List.drop_drop] at this
        clear hRS hnd
        have hbN : Below N w wo := (below_of_grown hD.grown hB (fun q hq => by injection hq with hq; omega)).mono hN
        have HC := Lib.hid (Hs.out.2 _ (hbN.alloc (by omega) (.cells #[.int .u32 (nd.a : Int), .int .i64 nd.b, .string nd.o, .int .i64 nd.s] 56)) nd)
        unfold nodeV at HC
        have HN : Hid (NodeIn (wo.alloc (.cells #[.int .u32 (nd.a : Int), .int .i64 nd.b, .string nd.o, .int .i64 nd.s] 56)) wo.heap.size nd) := Lib.hid (heap_alloc_last wo _)
        have HD := Lib.hid hD
        have hgo : g < wo.heap.size := (HD.out.row.lt g rfl).2
        have i1 : (j : Int) < (n : Int) := by omega
        have i2 : (i : Int) < (n : Int) := by omega
        have HA : Hid (Below wo.heap.size wo (wo.alloc (.cells #[.int .u32 (nd.a : Int), .int .i64 nd.b, .string nd.o, .int .i64 nd.s] 56))) := Lib.hid ((Below.refl _ _).alloc (Nat.le_refl _) _)
        clear hD HK hbN
        cases hse : sel nd with
        | true =>
          rw [hse] at HC HSn
          rw [if_neg (by simp), List.append_nil] at HSn
          clear hse
          go_wp2_with fail
          refine HC.out.mono ?_
          rintro e w4 ⟨rfl, b4⟩
          have b4' := HA.out.trans (b4.mono (by simp))
          have HD4 : Hid (∃ R, DelSo w w4 B g vc S R sel i (j + 1)) := Lib.hid ⟨R, ⟨HD.out.row.kept (row := none) ⟨b4'.os, b4'.tape, b4'.output, b4'.size, fun q hq _ => b4'.block q hq⟩ (.inr (by simp [Value.ownBlock])), HD.out.len, by omega, by omega, by rw [HSn.out]; exact HD.out.kept, hrd, HD.out.grown.trans ⟨b4'.os, b4'.tape, b4'.output, b4'.size, fun q hq _ => b4'.block q hq⟩⟩⟩
          clear b4 b4' c0 c1' c2 c3 HC hrd
          go_wp2
          go_roundw
          case rel => exact ⟨i, j + 1, rfl, by go_num, by omega, by omega, HD4⟩
          case measure => simp [intOf]; omega
        | false =>
          rw [hse] at HC HSn
          rw [if_pos (by simp)] at HSn
          clear hse
          go_wp2_with fail
          refine HC.out.mono ?_
          rintro e w4 ⟨rfl, b4⟩
          have b4' := HA.out.trans (b4.mono (by simp))
          have hrow4 := HD.out.row.kept (row := none) ⟨b4'.os, b4'.tape, b4'.output, b4'.size, fun q hq _ => b4'.block q hq⟩ (.inr (by simp [Value.ownBlock]))
          obtain ⟨d0, d1, d2, d3⟩ := (HN.out.low b4 HN.out.lt).cells
          obtain ⟨⟨e0, e1, e2, e3⟩, f0, f1, f2, f3⟩ := row_write hrow4 i hiR
          obtain ⟨p1, p2⟩ := OwnN.putN hrow4 i hiR nd
          have HD4 : Hid (∃ R', DelSo w ((((w4.setCell ⟨g, i * 4, none⟩ (.int .u32 (nd.a : Int))).setCell ⟨g, i * 4 + 1, none⟩ (.int .i64 nd.b)).setCell ⟨g, i * 4 + 2, none⟩ (.string nd.o)).setCell ⟨g, i * 4 + 3, none⟩ (.int .i64 nd.s)) B g vc S R' sel (i + 1) (j + 1)) := Lib.hid ⟨R.set i nd, ⟨p1, by rw [List.length_set]; exact HD.out.len, by omega, by omega, by
            rw [HSn.out, ← HD.out.kept, List.take_succ_eq_append_getElem (by rw [List.length_set]; exact hiR), List.getElem_set_self, List.take_set_of_le (Nat.le_refl _)], by
            rw [List.drop_set_of_lt (by omega)]; exact hrd, (HD.out.grown.trans ⟨b4'.os, b4'.tape, b4'.output, b4'.size, fun q hq _ => b4'.block q hq⟩).trans p2⟩⟩
          clear b4 b4' c0 c1' c2 c3 HC hrd p1 p2 hrow4
          go_wp2
          go_roundw
          case rel => exact ⟨i + 1, j + 1, by go_num, by go_num, by omega, by omega, HD4⟩
          case measure => simp [intOf]; omega
      · obtain rfl : j = n := by omega
        have hst : S.take j = S := List.take_of_length_le (by rw [← Hn.out]; exact Nat.le_refl _)
        have hkp := hD.kept
        rw [hst] at hkp
        obtain ⟨W, hcl, hna, hgr⟩ := run_clear_nodes hD.row i (j - i) (vc - i) (by omega) (by omega) 0
        have HNA := Lib.hid (hna 0)
        rw [hkp] at HNA
        have hWg := hD.grown.trans hgr
        have hWs := hWg.size
        have HWg : g < W.heap.size := Nat.lt_of_lt_of_le (hD.row.lt g rfl).2 hgr.size
        have HWb : Hid (Below B w W) := Lib.hid (below_of_grown hWg hB (fun q hq => by injection hq with hq; omega))
        have i1 : (i : Int) ≤ (j : Int) := by omega
        have i2 : (i : Int) ≤ (vc : Int) := by omega
        have i3 : ¬ vc - i = 0 := by omega
        have i4 : (j : Int) ≤ (vc : Int) := by omega
        clear hD HK hna hgr hWg hkp hst
        go_wp2
        go_ret
        exact ⟨⟨_, _, _, rfl, HNA.out.up (by have := HWg; omega), by omega⟩, HWb.out⟩
end Go.Proofs.Ytldfamdjdkaloaa
