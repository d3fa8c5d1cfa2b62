/- The contracts of slices.IndexFunc and slices.DeleteFunc at networks, with a function value that selects. -/
import Derived.Shelf.Small.Bits
import Derived.Test.YtjdflnnpamjjcaaDoorProg
import Derived.Test.YtjdflnnpamjjcaaDoorSF13
namespace Go.Proofs
open Go.Shelf
def Tryd.lays125_ren : Go.Shelf.Ren := ⟨fun | 125 => 42 | 128 => 73 | 129 => 74 | n => n, fun | 46 => 73 | 3 => 3 | 51 => 40 | 53 => 108 | 4 => 4 | 5 => 5 | 9 => 9 | n => n, fun | n => n⟩
theorem Tryd.lays125 : Go.Proofs.Lays.n125 Tryd.prog Tryd.lays125_ren := {
  mixed := by kernel_rfl
  f125 := Tryd.func42.trans (congrArg some (by kernel_rfl))
  f128 := Tryd.func73.trans (congrArg some (by kernel_rfl))
  f129 := Tryd.func74.trans (congrArg some (by kernel_rfl))
  t3 := Tryd.underlying3
  a3 := Tryd.isAgg3
  z3 := Tryd.sizeOf3
  v3 := Tryd.zeroValue3
  t4 := Tryd.underlying4
  a4 := Tryd.isAgg4
  z4 := Tryd.sizeOf4
  v4 := Tryd.zeroValue4
  t5 := Tryd.underlying5
  a5 := Tryd.isAgg5
  z5 := Tryd.sizeOf5
  v5 := Tryd.zeroValue5
  t9 := Tryd.underlying9
  a9 := Tryd.isAgg9
  z9 := Tryd.sizeOf9
  v9 := Tryd.zeroValue9
  t46 := Tryd.underlying73
  a46 := Tryd.isAgg73
  z46 := Tryd.sizeOf73
  v46 := Tryd.zeroValue73
  t51 := Tryd.underlying40
  a51 := Tryd.isAgg40
  z51 := Tryd.sizeOf40
  v51 := Tryd.zeroValue40
  t53 := Tryd.underlying108
  a53 := Tryd.isAgg108
  z53 := Tryd.sizeOf108
  v53 := Tryd.zeroValue108 }
theorem Tryd.bits_Len (x : Int) (w : World) (h0 : 0 ≤ x) (h1 : x ≤ 18446744073709551615) :
    Calls Tryd.prog 42 #[.int .u64 x] w fun e w' => e = .returned (.int .i64 (Lib.bitLen x.toNat)) ∧ w' = w := Any.bits_Len Tryd.lays125 x w h0 h1
end Go.Proofs

namespace Go.Proofs.YtjdflnnpamjjcaaDoor
open Go.RowKit

set_option maxHeartbeats 1600000 in
theorem nets_SortFunc (v : Value) (l : List (Nat × Int)) (w : World) (B : Nat) (hO : netT.own w B v l) (hn : l.length ≤ 12) :
    Calls Tryd.prog 24 #[v, .func (.func 25) #[] #[]] w fun e w' => e = .returned (.tuple #[]) ∧ netT.own w' B v (Nt.sortN l) ∧ w.grownBy w' v.ownBlock := by
  by_cases hl : l = []
  · subst hl
    obtain ⟨a, c, rfl, _⟩ := hO.slice
    have HO := Lib.hid hO
    have HL := Lib.hid (fun W => Tryd.bits_Len 0 W (by omega) (by omega))
    have HP := Lib.hid (fun u W => nets_pdqsort_nil (.slice a 0 c) u W)
    have hw0 : IntKind.u64.wrap 0 = 0 := by decide
    clear hO
    simp only [List.length_nil]
    go_enter Tryd.func24, Tryd.ntmps24
    go_wp2_with fail
    refine (HL.out w).mono ?_
    rintro e w2 ⟨rfl, rfl⟩
    go_wp2_with fail
    refine (HP.out _ w2).mono ?_
    rintro e w3 ⟨rfl, rfl⟩
    go_wp2
    exact bodyPost_end (v := .tuple #[]) (by simp [results, Tryd.results24]) rfl ⟨rfl, HO.out, World.grownBy.refl _ _⟩
  · obtain ⟨g, c, X, rfl, hc, hm, hB, hgl, hg, hX⟩ := hO.block hl
    have HP := Lib.hid (fun u => nets_pdqsort g l.length c u l X w hg rfl hn)
    have hs := Nt.sort_length l
    have HF := Lib.hid (fun (W : World) (hW : RowIs W g X (Nt.sortN l)) => (show netT.own W B (.slice (some ⟨g, 0, none⟩) l.length c) (Nt.sortN l) by
      have := RowTy.own_of_block (T := netT) (w := W) (B := B) (g := g) (c := c) (l := Nt.sortN l) (X := X) hW (by rw [hs]; exact hX) (by omega) hm hB
      rwa [hs] at this))
    clear hO hg hX hl hs
    generalize Nt.sortN l = L at *
    generalize l.length = n at *
    have HL := Lib.hid (fun W => Tryd.bits_Len (n : Int) W (by omega) (by omega))
    have hw0 : IntKind.u64.wrap (n : Int) = (n : Int) := by rw [IntKind.wrap_u64]; omega
    go_enter Tryd.func24, Tryd.ntmps24
    go_wp2_with fail
    refine (HL.out w).mono ?_
    rintro e w2 ⟨rfl, rfl⟩
    go_wp2_with fail
    refine (HP.out _).mono ?_
    rintro e w3 ⟨rfl, hr, hg⟩
    have HR := Lib.hid (HF.out w3 hr)
    have HG := Lib.hid hg
    clear hr hg
    go_wp2
    exact bodyPost_end (v := .tuple #[]) (by simp [results, Tryd.results24]) rfl ⟨rfl, HR.out, HG.out⟩
end Go.Proofs.YtjdflnnpamjjcaaDoor

namespace Go.Proofs.YtjdflnnpamjjcaaDoor
open Go.RowKit

/-- The function F, with what it has captured at gc, selects networks, as long as that block is as it is. -/
def SelN (F gc : Nat) (sel : Nat × Int → Bool) (w : World) : Prop := (∀ (args : Array Value) (W : World), (callFunc F args).run Tryd.prog W = .ok (.enter F args) W) ∧ gc < w.heap.size ∧ ∀ W, W.heap[gc]? = w.heap[gc]? → w.heap.size ≤ W.heap.size → ∀ x : Nat × Int, Calls Tryd.prog F #[.agg #[.int .u32 (x.1 : Int), .int .i64 x.2], .pointer (some ⟨gc, 0, none⟩)] W fun e W' => e = .returned (.bool (sel x)) ∧ Below W.heap.size W W'

set_option maxRecDepth 20000 in
set_option maxHeartbeats 1600000 in
theorem nets_IndexFunc (F gc : Nat) (sel : Nat × Int → Bool) (a : Option Addr) (n c : Nat) (l : List (Nat × Int)) (w : World) (h : NetsAt w w.heap.size a n l) (hn : n ≤ maxLen) (hs : SelN F gc sel w) :
    Calls Tryd.prog 43 #[.slice a n c, .func (.func F) #[] #[.pointer (some ⟨gc, 0, none⟩)]] w fun e w' => ((e = .returned (.int .i64 (-1)) ∧ ∀ x ∈ l, sel x = false) ∨ ∃ (k : Nat) (hk : k < l.length), e = .returned (.int .i64 (k : Int)) ∧ sel l[k] = true ∧ ∀ x ∈ l.take k, sel x = false) ∧ Below w.heap.size w w' := by
  have Hh := Lib.hid h
  have hl := h.1
  have Hs := Lib.hid hs
  have hent := hs.1
  have hm' : n ≤ 9223372036854775807 := by unfold maxLen at hn; omega
  clear h hs
  go_enter Tryd.func43, Tryd.ntmps43
  go_wp2
  go_loopw [8] (fun i wr => ∃ k : Nat, k ≤ n ∧ i = .int .i64 k ∧ Hid (∀ x ∈ l.take k, sel x = false) ∧ Below w.heap.size w wr) (fun i _ => n - (intOf i).toNat)
  case atStart => exact ⟨0, Nat.zero_le _, rfl, Lib.hid (fun x hx => by simp at hx), Below.refl _ _⟩
  case round =>
    obtain ⟨k, hk, rfl, Ha, hB⟩ := hrel
    have hsz := hB.size
    by_cases hlt : k < n
    · obtain ⟨b, off, rfl, hbl, hcs⟩ := (Hh.out.below hB).2 (by omega)
      have hkl : k < l.length := by omega
      obtain ⟨c0, c1⟩ := hcs k hkl
      have HC := Lib.hid (Hs.out.2.2 wr (hB.block gc Hs.out.2.1) hsz l[k])
      have Hn := Lib.hid (fun (hh : sel l[k] = false) => (show ∀ x ∈ l.take (k + 1), sel x = false by
        intro x hx
        rw [List.take_succ_eq_append_getElem hkl] at hx
        rcases List.mem_append.1 hx with hx | hx
        · exact Ha.out x hx
        · obtain rfl : x = l[k] := by simpa using hx
          exact hh))
      have Hy := Lib.hid (fun (hh : sel l[k] = true) => (show ∃ (q : Nat) (hq : q < l.length), (Ending.returned (.int .i64 (k : Int)) = Ending.returned (.int .i64 (q : Int))) ∧ sel l[q] = true ∧ ∀ x ∈ l.take q, sel x = false from ⟨k, hkl, rfl, hh, Ha.out⟩))
      clear hcs
      have i1 : (k : Int) < (n : Int) := by omega
      generalize l[k] = nd at *
      obtain ⟨na, nb⟩ := nd
      simp only at HC c0 c1
      cases hse : sel (na, nb) with
      | false =>
        rw [hse] at HC
        have Hn' := Lib.hid (Hn.out hse)
        clear Hn Hy hse
        go_wp2_with fail
        refine HC.out.mono ?_
        rintro e w2 ⟨rfl, b2⟩
        have hB2 := hB.trans (b2.mono hsz)
        clear b2 HC c0 c1
        go_wp2
        go_roundw
        case rel => exact ⟨k + 1, by omega, by go_num, Hn', hB2⟩
        case measure => simp [intOf]; omega
      | true =>
        rw [hse] at HC
        have Hy' := Lib.hid (Hy.out hse)
        clear Hn Hy hse
        go_wp2_with fail
        refine HC.out.mono ?_
        rintro e w2 ⟨rfl, b2⟩
        have hB2 := hB.trans (b2.mono hsz)
        clear b2 HC c0 c1
        go_wp2
        go_ret
        exact ⟨.inr Hy'.out, hB2⟩
    · have htk : l.take k = l := List.take_of_length_le (by omega)
      rw [htk] at Ha
      clear Hh
      go_wp2
      go_ret
      exact ⟨.inl ⟨rfl, Ha.out⟩, hB⟩
/-- Where DeleteFunc is: the row's networks R, the kept ones ahead of i, those behind j as they were. -/
structure DelN (w wr : World) (g : Nat) (X : List Value) (S R : List (Nat × Int)) (sel : Nat × Int → Bool) (i j : Nat) : Prop where
  row : RowIs wr g X R
  len : R.length = S.length
  lt : i < j
  le : j ≤ S.length
  kept : R.take i = (S.take j).filter fun x => !sel x
  rest : R.drop j = S.drop j
  grown : w.grownBy wr (some g)
theorem drop_getG {α : Type} {R S : List α} {j q : Nat} (h : R.drop j = S.drop j) (hj : j ≤ q) (h1 : q < R.length) (h2 : q < S.length) : R[q] = S[q] := by
  have e1 : R[q]? = (R.drop j)[q - j]? := by rw [List.getElem?_drop, show j + (q - j) = q by omega]
  have e2 : S[q]? = (S.drop j)[q - j]? := by rw [List.getElem?_drop, show j + (q - j) = q by omega]
  rw [h, ← e2, List.getElem?_eq_getElem h1, List.getElem?_eq_getElem h2] at e1
  injection e1
theorem filter_one {α : Type} (p : α → Bool) (l : List α) (n : α) : (l ++ [n]).filter p = l.filter p ++ (if p n = true then [n] else []) := by
  rw [List.filter_append]
  congr 1
  cases h : p n <;> simp [h]
set_option maxRecDepth 20000 in
set_option maxHeartbeats 3200000 in
theorem nets_DeleteFunc (F gc : Nat) (sel : Nat × Int → Bool) (v : Value) (S : List (Nat × Int)) (w : World) (B : Nat) (hO : netT.own w B v S) (hs : SelN F gc sel w) (hgc : v.ownBlock ≠ some gc) :
    Calls Tryd.prog 26 #[v, .func (.func F) #[] #[.pointer (some ⟨gc, 0, none⟩)]] w fun e w' => (∃ v', e = .returned v' ∧ netT.own w' B v' (S.filter fun x => !sel x) ∧ v'.ownBlock = v.ownBlock) ∧ w.grownBy w' v.ownBlock := by
  obtain ⟨va, vc, rfl, hnil, hcap, hvm⟩ := hO.slice
  obtain ⟨va', vc', e', _, hat0⟩ := hO.at
  injection e' with e1 _ e2
  subst e1 e2
  have hat := netT_at.1 hat0
  have hSm : S.length ≤ maxLen := Nat.le_trans hcap hvm
  have HI := Lib.hid (nets_IndexFunc F gc sel va S.length vc S w hat hSm hs)
  have Hs := Lib.hid hs
  have hent := hs.1
  have HO := Lib.hid hO
  have hn' : S.length ≤ 9223372036854775807 := by unfold maxLen at hSm; omega
  have hvc' : vc ≤ 9223372036854775807 := by unfold maxLen at hvm; omega
  clear hs hO hat hat0 hnil
  go_enter Tryd.func26, Tryd.ntmps26
  go_wp2_with fail
  refine HI.out.mono ?_
  rintro e w2 ⟨hres, b2⟩
  have hsz2 := b2.size
  rcases hres with ⟨rfl, hall⟩ | ⟨k, hk, rfl, hsel, hpre⟩
  · have hfe : (S.filter fun x => !sel x) = S := List.filter_eq_self.2 fun x hx => by rw [hall x hx]; rfl
    have HR : Hid (netT.own w2 B (.slice va S.length vc) (S.filter fun x => !sel x)) := Lib.hid (by rw [hfe]; exact HO.out.below b2)
    have HB2 : Hid (w.grownBy w2 (Value.slice va S.length vc).ownBlock) := Lib.hid ⟨b2.os, b2.tape, b2.output, b2.size, fun q hq _ => b2.block q hq⟩
    clear hall hfe HI
    go_wp2
    go_ret
    exact ⟨⟨_, rfl, HR.out, rfl⟩, HB2.out⟩
  · obtain ⟨g, c1, X, hv, hc1, hm1, hBg, hglt, hrow, hX⟩ := (HO.out.below b2).block (by intro e; rw [e] at hk; simp at hk)
    injection hv with hv1 _ hv3
    subst hv1 hv3
    have hK0 : Hid (∃ R, DelN w w2 g X S R sel k (k + 1)) := Lib.hid ⟨S, ⟨hrow, rfl, by omega, by omega, by
      rw [List.take_succ_eq_append_getElem hk, filter_one, if_neg (by rw [hsel]; simp), List.append_nil]
      exact (List.filter_eq_self.2 fun x hx => by rw [hpre x hx]; rfl).symm, rfl, ⟨b2.os, b2.tape, b2.output, b2.size, fun q hq _ => b2.block q hq⟩⟩⟩
    obtain ⟨n, hnn⟩ : ∃ n, n = S.length := ⟨_, rfl⟩
    rw [← hnn] at hcap hn' hk hX hSm ⊢
    have Hn := Lib.hid hnn
    clear hnn hrow hsel hpre HI HO hc1
    have hk1 : ((k : Int) == -1) = false := beq_eq_false_iff_ne.2 (by omega)
    go_wp2
    clear hk1
    go_loopw [5, 6] (fun v5 v6 wr => ∃ i j : Nat, v5 = .int .i64 i ∧ v6 = .int .i64 j ∧ j ≤ n ∧ i < j ∧ Hid (∃ R, DelN w wr g X S R sel i j)) (fun _ v6 _ => n - (intOf v6).toNat)
    case atStart => exact ⟨k, k + 1, rfl, by go_num, by omega, by omega, hK0⟩
    case round =>
      obtain ⟨i, j, rfl, rfl, hj, hij, HK⟩ := hrel
      obtain ⟨wo, hwo⟩ : ∃ wo, wo = wr := ⟨_, rfl⟩
      subst hwo
      obtain ⟨R, hD⟩ := HK.out
      have hRl := hD.len
      rw [← Hn.out] at hRl
      have hszo := hD.grown.size
      have hgo : g < wo.heap.size := hD.row.lt
      by_cases hlt : j < n
      · have hjR : j < R.length := by omega
        have hiR : i < R.length := by omega
        have hjS : j < S.length := by rw [← Hn.out]; exact hlt
        obtain ⟨⟨c0, c1'⟩, _⟩ := hD.row.cells j hjR
        have hRS := drop_getG hD.rest (Nat.le_refl j) hjR hjS
        obtain ⟨nd, hnd⟩ : ∃ nd, nd = S[j] := ⟨_, rfl⟩
        rw [hRS, ← hnd] at c0 c1'
        have HSn := Lib.hid (filter_one (fun x => !sel x) (S.take j) S[j])
        rw [← List.take_succ_eq_append_getElem hjS, ← hnd] at HSn
        have hrd : R.drop (j + 1) = S.drop (j + 1) := by
          have := congrArg (List.drop 1) hD.rest
          rwa [List.drop_drop, List.drop_drop] at this
        clear hRS hnd
        obtain ⟨w3, hw3⟩ : ∃ w3, w3 = wo.alloc (.cells #[.int .u32 (nd.1 : Int), .int .i64 nd.2] 44) := ⟨_, rfl⟩
        have hbA : Below wo.heap.size wo w3 := by rw [hw3]; exact (Below.refl _ _).alloc (Nat.le_refl _) _
        have HM := Lib.hid (show Blk w3 wo.heap.size 44 [.int .u32 (nd.1 : Int), .int .i64 nd.2] by rw [hw3]; exact Blk.new _ _ _)
        have hbN : w3.heap[gc]? = w.heap[gc]? := (hbA.block gc (by have := Hs.out.2.1; omega)).trans (hD.grown.block gc Hs.out.2.1 (fun e => hgc e.symm))
        have HC := Lib.hid (Hs.out.2.2 w3 hbN (Nat.le_trans hszo hbA.size) nd)
        have HD := Lib.hid hD
        have i1 : (j : Int) < (n : Int) := by omega
        have i2 : (i : Int) < (n : Int) := by omega
        have HA := Lib.hid hbA
        have m0 := HM.out.cell 0 rfl
        have m1 := HM.out.cell 1 rfl
        clear hD HK hbN hbA
        go_upto_region 8 with fail
        rw [← hw3]
        clear hw3 c0 c1'
        cases hse : sel nd with
        | true =>
          rw [hse] at HC HSn
          rw [if_neg (by simp), List.append_nil] at HSn
          clear hse
          go_wp2_with fail
          refine HC.out.mono ?_
          rintro e w4 ⟨rfl, b4⟩
          have b4' := HA.out.trans (b4.mono HA.out.size)
          have HD4 : Hid (∃ R, DelN w w4 g X S R sel i (j + 1)) := Lib.hid ⟨R, ⟨HD.out.row.below b4' hgo, HD.out.len, by omega, by rw [← Hn.out]; omega, by rw [HSn.out]; exact HD.out.kept, hrd, HD.out.grown.trans (grown_below b4')⟩⟩
          clear b4 b4' HC hrd m0 m1
          go_wp2
          go_roundw
          case rel => exact ⟨i, j + 1, rfl, by go_num, by omega, by omega, HD4⟩
          case measure => simp [intOf]; omega
        | false =>
          rw [hse] at HC HSn
          rw [if_pos (by simp)] at HSn
          clear hse
          go_wp2_with fail
          refine HC.out.mono ?_
          rintro e w4 ⟨rfl, b4⟩
          have b4' := HA.out.trans (b4.mono HA.out.size)
          have hrow4 := HD.out.row.below b4' hgo
          have d0 := (HM.out.kept b4).cell 0 rfl
          have d1 := (HM.out.kept b4).cell 1 rfl
          have Hrow4 : Hid (w4.heap[g]? = some (.cells (netT.cs R ++ X).toArray 44 (0, 0))) := Lib.hid hrow4
          have HPut := Lib.hid (fun (w5 : World) (h5 : w5.heap[g]? = some (.cells (netT.cs (R.set i nd) ++ X).toArray 44 (0, 0))) (g5 : w4.grownBy w5 (some g)) => (show ∃ R', DelN w w5 g X S R' sel (i + 1) (j + 1) from ⟨R.set i nd, ⟨h5, by rw [List.length_set]; exact HD.out.len, by omega, by rw [← Hn.out]; omega, by
            rw [HSn.out, ← HD.out.kept, List.take_succ_eq_append_getElem (by rw [List.length_set]; exact hiR), List.getElem_set_self, List.take_set_of_le (Nat.le_refl _)], by
            rw [List.drop_set_of_lt (by omega)]; exact hrd, (HD.out.grown.trans (grown_below b4')).trans g5⟩⟩))
          clear b4 b4' HC hrd hrow4 m0 m1
          obtain ⟨na, nb⟩ := nd
          simp only at d0 d1
          go_wp2_with (refine wpL_store_R netT (o := ⟨none, _, _, _, _, _⟩) rfl (.tmp 33) (.tmp 32) rfl g i R X (na, nb) rfl rfl Hrow4.out hiR ?_)
          intro w5 hr5 hg5 hs5
          have HD5 := Lib.hid (HPut.out w5 hr5 hg5)
          clear hr5 hg5 hs5 d0 d1
          go_wp2
          go_roundw
          case rel => exact ⟨i + 1, j + 1, by go_num, by go_num, by omega, by omega, HD5⟩
          case measure => simp [intOf]; omega
      · obtain rfl : j = n := by omega
        have hst : S.take j = S := List.take_of_length_le (by rw [← Hn.out]; exact Nat.le_refl _)
        have hkp := hD.kept
        rw [hst] at hkp
        obtain ⟨W, Y, hcl, hna, hYl, hgr⟩ := netT.run_clear (.agg #[.int .u32 0, .int .i64 0]) (fun W => by kernel_rfl) rfl wo g i (j - i) (vc - i) R X hD.row (by omega) (by omega)
        rw [hkp] at hna
        have hfl : (S.filter fun x => !sel x).length = i := by rw [← hkp, List.length_take]; omega
        have HOw : Hid (netT.own W B (.slice (some ⟨g, 0, none⟩) i vc) (S.filter fun x => !sel x)) := Lib.hid (by
          have := RowTy.own_of_block (T := netT) (w := W) (B := B) (g := g) (c := vc) (l := S.filter fun x => !sel x) (X := Y) hna (by rw [hfl, hYl, hX]; show (vc - j) * 2 + (j - i) * 2 = (vc - i) * 2; omega) (by omega) hvm hBg
          rwa [hfl] at this)
        have HG := Lib.hid (hD.grown.trans hgr)
        have hcl' : ∀ ty, (Builtin.clear_ #[22] ty #[.slice (some ⟨g, i * 2, none⟩) (j - i) (vc - i)]).run Tryd.prog wo = .ok (.tuple #[]) W := hcl
        have i1 : (i : Int) ≤ (j : Int) := by omega
        have i2 : (i : Int) ≤ (vc : Int) := by omega
        have i3 : ¬ vc - i = 0 := by omega
        have i4 : (j : Int) ≤ (vc : Int) := by omega
        clear hD HK hna hgr hkp hst hfl hYl hcl
        go_wp2
        go_ret
        exact ⟨⟨_, rfl, HOw.out, rfl⟩, HG.out⟩
end Go.Proofs.YtjdflnnpamjjcaaDoor
