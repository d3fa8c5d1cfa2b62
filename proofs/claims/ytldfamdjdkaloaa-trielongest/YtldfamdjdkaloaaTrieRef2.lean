/- The contract of the reference's grown. -/
import Derived.Test.YtldfamdjdkaloaaTrieRef1
import Derived.Test.YtldfamdjdkaloaaTriePlain4
import Derived.Test.YtldfamdjdkaloaaNodeMem2
import Derived.Test.YtldfamdjdkaloaaNetRef4
import Derived.Test.YtldfamdjdkaloaaNetInBlk
namespace Go.Proofs.Ytldfamdjdkaloaa
open Go.RowKit

/-- The top so far. -/
def Tr.topK (l : List Tr.Node) (x : Tr.Nw) (k : Nat) : Tr.Nw := Tr.top x ((l.take k).map Tr.nw)
theorem topK_succ (l : List Tr.Node) (x : Tr.Nw) (k : Nat) (h : k < l.length) : Tr.topK l x (k + 1) = Tr.join (Tr.topK l x k) (Tr.nw l[k]) := by
  unfold Tr.topK Tr.top
  rw [List.take_succ_eq_append_getElem h, List.map_append, List.foldl_append]
  rfl
theorem topK_good {l : List Tr.Node} {x : Tr.Nw} (hx : Tr.good x) (h : ∀ n ∈ l, Tr.good (Tr.nw n)) (k : Nat) : Tr.good (Tr.topK l x k) := by
  refine Tr.top_good _ _ hx (fun y hy => ?_)
  obtain ⟨n, hn, rfl⟩ := List.mem_map.1 hy
  exact h n (List.mem_of_mem_take hn)
def TopSo (w : World) (g : Nat) (l : List Tr.Node) (x : Tr.Nw) (k : Nat) (wr : World) : Prop := NetIn wr g (Tr.topK l x k).1 (Tr.topK l x k).2 ∧ Below w.heap.size w wr

/-- Where the walk is in the second loop: the top, the root, the halves so far. -/
structure HalfSo (w : World) (g6 : Nat) (l : List Tr.Node) (t : Tr.Nw) (k : Nat) (v7 v8 : Value) (wr : World) : Prop where
  top : NetIn wr w.heap.size t.1 t.2
  root : NodeIn wr g6 ⟨t.1, t.2, Tr.ownerOf t (l.take k), 0⟩
  left : OwnN wr (g6 + 1) v7 (Tr.leftOf t (l.take k))
  right : OwnN wr (g6 + 1) v8 (Tr.rightOf t (l.take k))
  apart : Apart v7 v8
  below : Below w.heap.size w wr
theorem owner_snoc (t : Tr.Nw) (l : List Tr.Node) (n : Tr.Node) : Tr.ownerOf t (l ++ [n]) = if Tr.nw n = t then n.o else Tr.ownerOf t l := by
  unfold Tr.ownerOf
  rw [List.foldl_append]
  rfl
theorem left_snoc (t : Tr.Nw) (l : List Tr.Node) (n : Tr.Node) : Tr.leftOf t (l ++ [n]) = Tr.leftOf t l ++ (if Tr.nw n ≠ t ∧ Tr.bitAt n.a t.2.toNat = 0 then [n] else []) := by
  unfold Tr.leftOf
  rw [List.filter_append]
  congr 1
  by_cases h : Tr.nw n ≠ t ∧ Tr.bitAt n.a t.2.toNat = 0
  · rw [if_pos h, List.filter_cons_of_pos (by simp [h.1, h.2])]; rfl
  · rw [if_neg h, List.filter_cons_of_neg (by simpa using h)]; rfl
theorem right_snoc (t : Tr.Nw) (l : List Tr.Node) (n : Tr.Node) : Tr.rightOf t (l ++ [n]) = Tr.rightOf t l ++ (if Tr.nw n ≠ t ∧ Tr.bitAt n.a t.2.toNat ≠ 0 then [n] else []) := by
  unfold Tr.rightOf
  rw [List.filter_append]
  congr 1
  by_cases h : Tr.nw n ≠ t ∧ Tr.bitAt n.a t.2.toNat ≠ 0
  · rw [if_pos h, List.filter_cons_of_pos (by simp [h.1, h.2])]; rfl
  · rw [if_neg h, List.filter_cons_of_neg (by simpa using h)]; rfl

set_option maxRecDepth 20000 in
set_option maxHeartbeats 3200000 in
theorem ref_grown : ∀ (f : Nat) (a : Option Addr) (n c : Nat) (l : List Tr.Node) (w : World), NodesAt w w.heap.size a n l → (∀ x ∈ l, Tr.good (Tr.nw x)) → (l ≠ [] → 33 ≤ f + (Tr.topN l).2.toNat) → n ≤ 1759218604441 → f ≤ 34 →
    Calls Try.prog 42 #[.slice a n c] w fun e w' => ∃ v, e = .returned v ∧ OwnN w' w.heap.size v (Tr.grown f l) ∧ Below w.heap.size w w' := by
  intro f
  induction f with
  | zero =>
    intro a n c l w h hg hd hn hf
    have hl : l = [] := by
      cases l with
      | nil => rfl
      | cons x r =>
        exfalso
        have h1 := hd (by simp)
        have h2 := Nt.err_zero (Tr.topN_good (l := x :: r) (by simp) hg).2
        omega
    subst hl
    have hz : n = 0 := by have := h.1; simpa using this.symm
    subst hz
    clear h hg hd
    go_enter Try.func42, Try.ntmps42
    go_wp2
    go_ret
    exact ⟨_, rfl, OwnN.nil _ _, Below.refl _ _⟩
  | succ f ih =>
    intro a n c l w h hg hd hn hf
    cases l with
    | nil =>
      have hz : n = 0 := by have := h.1; simpa using this.symm
      subst hz
      clear h hg hd ih
      go_enter Try.func42, Try.ntmps42
      go_wp2
      go_ret
      exact ⟨_, rfl, OwnN.nil _ _, Below.refl _ _⟩
    | cons x r =>
      have hl : (x :: r).length = n := h.1
      have hpos : 0 < n := by rw [← hl]; simp
      have hn0 : ((n : Int) == 0) = false := by simp; omega
      obtain ⟨b, off, rfl, hbl, hcs⟩ := h.2 hpos
      have Hh := Lib.hid h
      have Hg := Lib.hid hg
      have Hd := Lib.hid (hd (by simp))
      have Hi := Lib.hid ih
      obtain ⟨c0, c1, c2, c3⟩ := hcs 0 (by simp)
      rw [Nat.zero_mul, Nat.add_zero] at c0 c1 c2 c3
      have gx := hg x (List.mem_cons_self ..)
      change w.cell? ⟨b, off, none⟩ = some (.int .u32 (x.a : Int)) at c0
      change w.cell? ⟨b, off + 1, none⟩ = some (.int .i64 x.b) at c1
      clear h hg hd ih hcs c2 c3
      go_enter Try.func42, Try.ntmps42
      go_wp2
      clear c0 c1
      go_loopw [21] (fun i wr => ∃ k : Nat, k ≤ n ∧ i = .int .i64 k ∧ TopSo w w.heap.size (x :: r) (Tr.nw x) k wr) (fun i _ => n - (intOf i).toNat)
      case atStart => exact ⟨0, Nat.zero_le _, rfl, heap_alloc_last w _, (Below.refl _ _).alloc (Nat.le_refl _) _⟩
      case round =>
        obtain ⟨k, hk, rfl, hT, hB⟩ := hrel
        obtain ⟨wo, hwo⟩ : ∃ wo, wo = wr := ⟨_, rfl⟩
        subst hwo
        by_cases hlt : k < n
        · obtain ⟨b', off', he', hbl', hcs⟩ := (Hh.out.below hB).2 hpos
          injection he' with he'
          injection he' with he1 he2
          subst he1 he2
          have hkl : k < (x :: r).length := by rw [hl]; exact hlt
          obtain ⟨c0, c1, c2, c3⟩ := hcs k hkl
          have gT := topK_good gx Hg.out k
          have gN := Hg.out _ (List.getElem_mem hkl)
          have Hj := Lib.hid (topK_succ (x :: r) (Tr.nw x) k hkl)
          generalize (x :: r)[k] = nd at *
          have HJ := Lib.hid (fun W => ref_NetJoined (Tr.topK (x :: r) (Tr.nw x) k).1 (Tr.topK (x :: r) (Tr.nw x) k).2 nd.a nd.b W gT.1 gN.1)
          unfold netV at HJ
          have HT := Lib.hid hT
          have HB := Lib.hid hB
          have hsz := hB.size
          have hgl := hT.lt
          obtain ⟨t0, t1⟩ := two_cells hT.own
          unfold Tr.join at Hj
          generalize Tr.topK (x :: r) (Tr.nw x) k = T at *
          obtain ⟨Ta, Tb⟩ := T
          obtain ⟨na, nb, no, ns⟩ := nd
          change Hid (Tr.topK (x :: r) (Tr.nw x) (k + 1) = (Nt.joinAddr Ta Tb na nb, (Nt.joinBits Ta Tb na nb : Int))) at Hj
          clear hcs hT hB gT gN
          generalize Nt.joinAddr Ta Tb na nb = JA at *
          generalize Nt.joinBits Ta Tb na nb = JB at *
          generalize Nt.joinErr Ta Tb na nb = JE at *
          have hne : w.heap.size < wo.heap.size := hgl
          go_wp2_with fail
          refine (HJ.out _).mono ?_
          rintro e w2 ⟨rfl, hb2⟩
          have hN2 : NetIn w2 w.heap.size Ta Tb := by
            refine NetIn.below ?_ hb2
            unfold NetIn
            rw [Below.heap_alloc _ _ _ hne]
            exact HT.out
          obtain ⟨u0, u1⟩ := two_cells hN2.own
          have f0 := hN2.own.frozenAt 0
          have f1 := hN2.own.frozenAt 1
          have HN3 := Lib.hid (hN2.set JA (JB : Int))
          have hB2 := (HB.out.alloc hsz _).trans (hb2.mono (by simp; omega))
          clear c0 c1 c2 c3 t0 t1 hN2
          go_wp2
          go_roundw
          case rel => exact ⟨k + 1, by omega, by go_num, by unfold TopSo; rw [Hj.out]; exact ⟨HN3.out, (hB2.setCell (Nat.le_refl _) _).setCell (Nat.le_refl _) _⟩⟩
          case measure => simp [intOf]; omega
        · obtain rfl : k = n := by omega
          have hTop : Tr.topK (x :: r) (Tr.nw x) k = Tr.topN (x :: r) := by
            unfold Tr.topK Tr.topN
            rw [List.take_of_length_le (by omega)]
          unfold TopSo at *
          rw [hTop] at hT
          clear hTop
          have gT := Tr.topN_good (l := x :: r) (by simp) Hg.out
          have HL := Lib.hid (fun (m : Tr.Node) (hm : m ∈ x :: r) (hne : Tr.nw m ≠ Tr.topN (x :: r)) => Tr.top_lt Hg.out hm hne)
          have HT := Lib.hid hT
          have HB := Lib.hid hB
          have hgl := hT.lt
          have hsz := hB.size
          obtain ⟨t0, t1⟩ := two_cells hT.own
          clear hT hB
          obtain ⟨t, ht⟩ : ∃ t, t = Tr.topN (x :: r) := ⟨_, rfl⟩
          rw [← ht] at HT t0 t1 gT
          have Ht := Lib.hid ht
          clear ht
          go_wp2
          clear t0 t1
          go_loopw [7, 8, 37] (fun v7 v8 i wr => ∃ j : Nat, j ≤ k ∧ i = .int .i64 j ∧ Hid (HalfSo w wo.heap.size (x :: r) t j v7 v8 wr)) (fun _ _ i _ => k - (intOf i).toNat)
          case atStart =>
            refine ⟨0, Nat.zero_le _, rfl, Lib.hid ⟨?_, heap_alloc_last wo _, OwnN.nil _ _, OwnN.nil _ _, (fun g h => by cases h), HB.out.alloc hsz _⟩⟩
            unfold NetIn
            rw [Below.heap_alloc _ _ _ hgl]
            exact HT.out
          case round =>
            obtain ⟨j, hj, rfl, HS⟩ := hrel
            obtain ⟨wp, hwp⟩ : ∃ wp, wp = wr := ⟨_, rfl⟩
            subst hwp
            have hp6 := HS.out.root.lt
            have hps := HS.out.below.size
            have hgl2 : w.heap.size < wp.heap.size := HS.out.top.lt
            by_cases hlt : j < k
            · obtain ⟨b', off', he', hbl', hcs⟩ := (Hh.out.below HS.out.below).2 hpos
              injection he' with he'
              injection he' with he1 he2
              subst he1 he2
              have hjl : j < (x :: r).length := by rw [hl]; exact hlt
              obtain ⟨c0, c1, c2, c3⟩ := hcs j hjl
              have hnl := HL.out _ (List.getElem_mem hjl)
              have gN := Hg.out _ (List.getElem_mem hjl)
              have Ho := Lib.hid (owner_snoc t ((x :: r).take j) (x :: r)[j])
              have Hle := Lib.hid (left_snoc t ((x :: r).take j) (x :: r)[j])
              have Hri := Lib.hid (right_snoc t ((x :: r).take j) (x :: r)[j])
              rw [← List.take_succ_eq_append_getElem hjl] at Ho Hle Hri
              rw [← Ht.out] at hnl
              generalize (x :: r)[j] = nd at *
              obtain ⟨t0, t1⟩ := two_cells HS.out.top.own
              obtain ⟨r0, r1, r2, r3⟩ := HS.out.root.cells
              have rf := HS.out.root.frozen 2
              have hlen := Tr.halves_le t ((x :: r).take j)
              rw [List.length_take] at hlen
              obtain ⟨na, nb, no, ns⟩ := nd
              obtain ⟨ta, tb⟩ := t
              clear hcs
              by_cases hq : Tr.nw ⟨na, nb, no, ns⟩ = (ta, tb)
              · rw [if_pos hq] at Ho
                rw [if_neg (fun h => h.1 hq), List.append_nil] at Hle Hri
                obtain ⟨rfl, rfl⟩ : na = ta ∧ nb = tb := by injection hq with h1 h2; exact ⟨h1, h2⟩
                clear hq hnl gN hlen
                have HR2 := Lib.hid (HS.out.root.owner no)
                go_wp2
                go_roundw
                case rel =>
                  refine ⟨j + 1, by omega, by go_num, Lib.hid ⟨?_, ?_, ?_, ?_, HS.out.apart, ?_⟩⟩
                  · unfold NetIn
                    rw [Below.heap_alloc _ _ _ (by simp; omega), heap_setCell_other _ _ _ _ (by show w.heap.size ≠ wo.heap.size; omega)]
                    exact HS.out.top
                  · rw [Ho.out]
                    unfold NodeIn
                    rw [Below.heap_alloc _ _ _ (by simp; omega)]
                    exact HR2.out
                  · rw [Hle.out]; exact (HS.out.left.other (by omega)).alloc _
                  · rw [Hri.out]; exact (HS.out.right.other (by omega)).alloc _
                  · exact (HS.out.below.setCell (by show w.heap.size ≤ wo.heap.size; omega) _).alloc (by simp; omega) _
                case measure => simp [intOf]; omega
              · rw [if_neg hq] at Ho
                obtain ⟨tb0, tb1⟩ := hnl hq
                obtain ⟨m, rfl⟩ : ∃ m : Nat, tb = (m : Int) := ⟨tb.toNat, by have : (0 : Int) ≤ tb := tb0; omega⟩
                have hm32 : m < 32 := by have : (m : Int) < 32 := tb1; omega
                have HBit := Lib.hid (fun W => ref_bit na m W gN.1 hm32)
                have hbit : Tr.bitAt na (m : Int).toNat = na / 2 ^ (31 - m) % 2 := by unfold Tr.bitAt; rw [Int.toNat_natCast]
                rcases Tr.bit_two na (m : Int).toNat with hb | hb
                · rw [if_pos ⟨hq, hb⟩] at Hle
                  rw [if_neg (fun h => h.2 hb), List.append_nil] at Hri
                  rw [← hbit, hb] at HBit
                  clear hbit
                  rcases (show na ≠ ta ∨ (na = ta ∧ nb ≠ (m : Int)) by by_cases h : na = ta; exact .inr ⟨h, fun e => hq (by rw [h, e]; rfl)⟩; exact .inl h) with hne | ⟨hne1, hne2⟩
                  all_goals
                    first
                    | have q1 : ((na : Int) == (ta : Int)) = false := by simp; omega
                    | have q1 : (nb == (m : Int)) = false := by rw [beq_eq_false_iff_ne]; exact hne2
                    clear hq hb gN
                    try have q0 : ((na : Int) == (ta : Int)) = true := by simp [hne1]
                    try clear hne1
                    have hmx : (Tr.leftOf (ta, (m : Int)) ((x :: r).take j)).length + 1 ≤ 3518437208883 := by omega
                    have hnw := nodesAt_new (wp.alloc (.cells #[.int .u32 (na : Int), .int .i64 nb, .string no, .int .i64 ns] 56)) ⟨na, nb, no, ns⟩
                    rw [show (wp.alloc (.cells #[.int .u32 (na : Int), .int .i64 nb, .string no, .int .i64 ns] 56)).heap.size = wp.heap.size + 1 by simp] at hnw
                    have Hnw := Lib.hid hnw
                    clear hnw
                    go_wp2_with fail
                    refine (HBit.out _).mono ?_
                    rintro e w2 ⟨rfl, hw2⟩
                    subst hw2
                    go_wp2_with (at_builtin; refine wpL_append_nodes _ rfl _ _ rfl (wo.heap.size + 1) _ (Tr.leftOf (ta, (m : Int)) ((x :: r).take j)) rfl ((HS.out.left.alloc _).alloc _) _ 1 _ [⟨na, nb, no, ns⟩] rfl (fun h => by cases h) Hnw.out hmx (by simp; omega) ?_)
                    intro v' w3 hO2 hgr hat
                    have HO2 := Lib.hid hO2
                    have Hgr := Lib.hid hgr
                    have Hat := Lib.hid hat.out
                    have hb3 := below_grownN ((HS.out.left.alloc _).alloc _) hgr (by simp; omega)
                    have Hb3 := Lib.hid hb3
                    have hB3 := ((HS.out.below.alloc hps _).alloc (by simp; omega) _).trans (hb3.mono (by omega))
                    clear hO2 hgr hat hb3
                    go_wp2
                    go_roundw
                    case rel =>
                      refine ⟨j + 1, by omega, by go_num, Lib.hid ⟨?_, ?_, ?_, ?_, ?_, hB3⟩⟩
                      · refine (Hb3.out.block _ (by omega)).trans ?_
                        rw [Below.heap_alloc _ _ _ (by simp; omega), Below.heap_alloc _ _ _ (by omega)]
                        exact HS.out.top
                      · rw [Ho.out]
                        refine (Hb3.out.block _ (by omega)).trans ?_
                        rw [Below.heap_alloc _ _ _ (by simp; omega), Below.heap_alloc _ _ _ (by omega)]
                        exact HS.out.root
                      · rw [Hle.out]; exact HO2.out
                      · rw [Hri.out]; exact ((HS.out.right.alloc _).alloc _).kept Hgr.out HS.out.apart
                      · exact apart_grownN' HS.out.right HS.out.apart Hat.out (by omega)
                    case measure => simp [intOf]; omega
                · rw [if_neg (fun h => by rw [hb] at h; exact absurd h.2 (by decide)), List.append_nil] at Hle
                  rw [if_pos ⟨hq, by rw [hb]; decide⟩] at Hri
                  rw [← hbit, hb] at HBit
                  clear hbit
                  rcases (show na ≠ ta ∨ (na = ta ∧ nb ≠ (m : Int)) by by_cases h : na = ta; exact .inr ⟨h, fun e => hq (by rw [h, e]; rfl)⟩; exact .inl h) with hne | ⟨hne1, hne2⟩
                  all_goals
                    first
                    | have q1 : ((na : Int) == (ta : Int)) = false := by simp; omega
                    | have q1 : (nb == (m : Int)) = false := by rw [beq_eq_false_iff_ne]; exact hne2
                    clear hq hb gN
                    try have q0 : ((na : Int) == (ta : Int)) = true := by simp [hne1]
                    try clear hne1
                    have hmx : (Tr.rightOf (ta, (m : Int)) ((x :: r).take j)).length + 1 ≤ 3518437208883 := by omega
                    have hnw := nodesAt_new (wp.alloc (.cells #[.int .u32 (na : Int), .int .i64 nb, .string no, .int .i64 ns] 56)) ⟨na, nb, no, ns⟩
                    rw [show (wp.alloc (.cells #[.int .u32 (na : Int), .int .i64 nb, .string no, .int .i64 ns] 56)).heap.size = wp.heap.size + 1 by simp] at hnw
                    have Hnw := Lib.hid hnw
                    clear hnw
                    go_wp2_with fail
                    refine (HBit.out _).mono ?_
                    rintro e w2 ⟨rfl, hw2⟩
                    subst hw2
                    go_wp2_with (at_builtin; refine wpL_append_nodes _ rfl _ _ rfl (wo.heap.size + 1) _ (Tr.rightOf (ta, (m : Int)) ((x :: r).take j)) rfl ((HS.out.right.alloc _).alloc _) _ 1 _ [⟨na, nb, no, ns⟩] rfl (fun h => by cases h) Hnw.out hmx (by simp; omega) ?_)
                    intro v' w3 hO2 hgr hat
                    have HO2 := Lib.hid hO2
                    have Hgr := Lib.hid hgr
                    have Hat := Lib.hid hat.out
                    have hb3 := below_grownN ((HS.out.right.alloc _).alloc _) hgr (by simp; omega)
                    have Hb3 := Lib.hid hb3
                    have hB3 := ((HS.out.below.alloc hps _).alloc (by simp; omega) _).trans (hb3.mono (by omega))
                    clear hO2 hgr hat hb3
                    go_wp2
                    go_roundw
                    case rel =>
                      refine ⟨j + 1, by omega, by go_num, Lib.hid ⟨?_, ?_, ?_, ?_, ?_, hB3⟩⟩
                      · refine (Hb3.out.block _ (by omega)).trans ?_
                        rw [Below.heap_alloc _ _ _ (by simp; omega), Below.heap_alloc _ _ _ (by omega)]
                        exact HS.out.top
                      · rw [Ho.out]
                        refine (Hb3.out.block _ (by omega)).trans ?_
                        rw [Below.heap_alloc _ _ _ (by simp; omega), Below.heap_alloc _ _ _ (by omega)]
                        exact HS.out.root
                      · rw [Hle.out]; exact ((HS.out.left.alloc _).alloc _).kept Hgr.out HS.out.apart.symm
                      · rw [Hri.out]; exact HO2.out
                      · exact (apart_grownN' HS.out.left HS.out.apart.symm Hat.out (by omega)).symm
                    case measure => simp [intOf]; omega
            · obtain rfl : j = k := by omega
              have htk : (x :: r).take j = x :: r := List.take_of_length_le (by omega)
              have hS := HS.out
              obtain ⟨sT, sR, sL, sQ, sA, sB⟩ := hS
              rw [htk] at sR sL sQ
              obtain ⟨a7, c7, rfl, n7, at7⟩ := sL.at
              obtain ⟨a8, c8, rfl, n8, at8⟩ := sQ.at
              have hh := Tr.halves_le t (x :: r)
              rw [hl] at hh
              have hT0 := Nt.err_zero gT.2
              have htop := Ht.out
              have dL : Tr.leftOf t (x :: r) ≠ [] → 33 ≤ f + (Tr.topN (Tr.leftOf t (x :: r))).2.toNat := by
                intro hne
                have h1 := Hd.out
                have h2 := Tr.left_top Hg.out (by rw [← htop]; exact hne)
                rw [← htop] at h1 h2
                omega
              have dR : Tr.rightOf t (x :: r) ≠ [] → 33 ≤ f + (Tr.topN (Tr.rightOf t (x :: r))).2.toNat := by
                intro hne
                have h1 := Hd.out
                have h2 := Tr.right_top Hg.out (by rw [← htop]; exact hne)
                rw [← htop] at h1 h2
                omega
              have K1 := Lib.hid (Hi.out a7 _ c7 (Tr.leftOf t (x :: r)) wp at7 (Tr.left_good Hg.out) dL (by omega) (by omega))
              have K2 := Lib.hid (fun (W : World) (hW : Below wp.heap.size wp W) => Hi.out a8 _ c8 (Tr.rightOf t (x :: r)) W ((at8.below hW).up hW.size) (Tr.right_good Hg.out) dR (by omega) (by omega))
              have hgl1 := Tr.grown_two f (Tr.leftOf t (x :: r)) (Tr.left_good Hg.out)
              have hgl2' := Tr.grown_two f (Tr.rightOf t (x :: r)) (Tr.right_good Hg.out)
              have HG : Hid (Tr.grown (f + 1) (x :: r) = ⟨t.1, t.2, Tr.ownerOf t (x :: r), ((1 + (Tr.grown f (Tr.leftOf t (x :: r)) ++ Tr.grown f (Tr.rightOf t (x :: r))).length : Nat) : Int)⟩ :: (Tr.grown f (Tr.leftOf t (x :: r)) ++ Tr.grown f (Tr.rightOf t (x :: r)))) := Lib.hid (by rw [htop]; rfl)
              have HR := Lib.hid sR
              have HB2 := Lib.hid sB
              clear sT sR sL sQ sA sB at7 at8 n7 n8 dL dR htk hT0 htop Hi Hd
              generalize Tr.grown f (Tr.leftOf t (x :: r)) = GL at *
              generalize Tr.grown f (Tr.rightOf t (x :: r)) = GR at *
              generalize Tr.ownerOf t (x :: r) = OW at *
              go_wp2_with fail
              refine K1.out.mono ?_
              rintro e w2 ⟨v2, rfl, o2, b2⟩
              go_wp2_with fail
              refine (K2.out w2 b2).mono ?_
              rintro e w3 ⟨v3, rfl, o3, b3⟩
              have o2' := Lib.hid (o2.below b3)
              have b3' := b2.trans (b3.mono b2.size)
              obtain ⟨a9, c9, rfl, n9, at9⟩ := o3.at
              have At9 := Lib.hid at9
              clear o2 o3 at9 b2 b3
              go_wp2_with (at_builtin; refine wpL_append_nodes _ rfl _ _ rfl wp.heap.size _ GL rfl o2'.out a9 _ c9 GR rfl n9 At9.out (by omega) b3'.size ?_)
              intro v4 w4 o4 g4 _
              have b4 := b3'.trans (below_grownN o2'.out g4 b3'.size)
              clear g4
              obtain ⟨a4, c4, rfl, ho4⟩ := o4
              have O4 : Hid (OwnN w4 wp.heap.size (.slice a4 (GL ++ GR).length c4) (GL ++ GR)) := Lib.hid ⟨a4, c4, rfl, ho4⟩
              have hR4 := HR.out.low b4 hp6
              obtain ⟨r0, r1, r2, r3⟩ := hR4.cells
              have rf := hR4.frozen 3
              have hle : (GL ++ GR).length ≤ 3518437208882 := by rw [List.length_append]; omega
              have HR5 := Lib.hid (hR4.size ((1 : Int) + ((GL ++ GR).length : Int)))
              have B4 := Lib.hid b4
              have hz4 := b4.size
              clear ho4 hR4 b4
              generalize (GL ++ GR) = GG at *
              have hz6 : (w4.setCell ⟨wo.heap.size, 3, none⟩ (.int .i64 ((1 : Int) + (GG.length : Int)))).heap.size = w4.heap.size := by simp
              have oN := own_new (w4.setCell ⟨wo.heap.size, 3, none⟩ (.int .i64 ((1 : Int) + (GG.length : Int)))) w.heap.size ⟨t.1, t.2, OW, (1 : Int) + (GG.length : Int)⟩ (by rw [hz6]; omega)
              rw [hz6] at oN
              have ON := Lib.hid oN
              have AT := Lib.hid (((O4.out.other (g := wo.heap.size) (i := 3) (x := .int .i64 ((1 : Int) + (GG.length : Int))) hp6).alloc (.cells #[.int .u32 (t.1 : Int), .int .i64 t.2, .string OW, .int .i64 ((1 : Int) + (GG.length : Int))] 56)).at')
              clear oN
              go_wp2_with (at_builtin; refine wpL_append_nodes _ rfl _ _ rfl w.heap.size _ [⟨t.1, t.2, OW, (1 : Int) + (GG.length : Int)⟩] rfl ON.out a4 _ c4 GG rfl AT.out.1 AT.out.2 (by simp; omega) (by simp; omega) ?_)
              intro v6 w6 o6 g6 _
              have b6 := below_grownN ON.out g6 (by simp; omega)
              have hB6 := (((HB2.out.trans (B4.out.mono hps)).setCell (p := ⟨wo.heap.size, 3, none⟩) (by show w.heap.size ≤ wo.heap.size; omega) (.int .i64 ((1 : Int) + (GG.length : Int)))).alloc (by simp; omega) (.cells #[.int .u32 (t.1 : Int), .int .i64 t.2, .string OW, .int .i64 ((1 : Int) + (GG.length : Int))] 56)).trans b6
              have O6 := Lib.hid o6
              clear o6 g6 b6
              go_wp2
              go_ret
              refine ⟨_, rfl, ?_, hB6⟩
              rw [HG.out, Int.natCast_add]
              exact O6.out
end Go.Proofs.Ytldfamdjdkaloaa
