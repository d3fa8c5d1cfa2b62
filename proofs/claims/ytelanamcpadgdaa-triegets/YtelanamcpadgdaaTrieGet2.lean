/- The contracts of the reference's TrieGet, of trie.Drop and the reference's TrieDrop; the walk of the law TrieGets. -/
import Derived.Test.YtelanamcpadgdaaTrieGet
import Derived.Test.YtelanamcpadgdaaTrieLaw3
namespace Go.Proofs.Ytelanamcpadgdaa
open Go.RowKit

set_option maxRecDepth 20000 in
set_option maxHeartbeats 1600000 in
theorem ref_TrieGet (a : Option Addr) (n c : Nat) (l : List Tr.Node) (na : Nat) (nb : Int) (w : World) (h : NodesAt w w.heap.size a n l) (hf : Tr.fit l) (hn : n ≤ 3518437208780) (ha : na < 4294967296) :
    Calls Try.prog 22 #[.slice a n c, .agg #[.int .u32 (na : Int), .int .i64 nb]] w fun e w' => e = .returned (.tuple #[.string (Tr.go (na, nb) l), .int .i64 (Tr.ge (na, nb) l : Int)]) ∧ Below w.heap.size w w' := by
  obtain ⟨w1, hw1⟩ : ∃ w1, w1 = w.alloc (.cells #[.int .u32 (na : Int), .int .i64 nb] 28) := ⟨_, rfl⟩
  have hA : Below w.heap.size w w1 := by rw [hw1]; exact (Below.refl _ _).alloc (Nat.le_refl _) _
  have hz1 : w.heap.size < w1.heap.size := by rw [hw1]; simp
  have hN1 : NetIn w1 w.heap.size na nb := by rw [hw1]; exact heap_alloc_last w _
  have hat1 := (h.below hA).up (show w.heap.size ≤ w1.heap.size by omega)
  have H1 := Lib.hid (ref_TrieFault a n c l w1 hat1 hf hn)
  have HN1 := Lib.hid hN1
  by_cases hfz : Tr.fault l = 0
  · have H2 := Lib.hid (fun W => ref_NetFault na nb W ha)
    unfold netV at H2
    rw [hfz] at H1
    by_cases hez : Nt.err na nb = 0
    · have Hge : Hid (Tr.ge (na, nb) l = if (Tr.getO (na, nb) l).size = 0 then 5 else 0) := Lib.hid (by unfold Tr.ge; rw [if_pos hfz, if_pos hez])
      obtain ⟨hg, _, hso, hol, hsl, _⟩ := Tr.fault_facts hf hfz
      have H3 := Lib.hid (fun (W : World) (hb : Below w1.heap.size w1 W) => ref_owned a n c l W ((hat1.below hb).up hb.size) (by omega))
      have Hon := Lib.hid (Tr.sorted_once hso)
      have hsi := Tr.owned_single l
      rw [hez] at H2
      have Hgo : Hid (Tr.getO (na, nb) l = Tr.ownerOf (na, nb) (Tr.owned l)) := Lib.hid rfl
      have hole := Tr.owned_le l
      rw [h.1] at hole
      clear h hf hfz hez hg hsl hat1 hN1 hso
      generalize Tr.owned l = al at *
      have Hsi := Lib.hid hsi
      clear hsi
      go_enter Try.func22, Try.ntmps22
      go_wp2_with fail
      rw [← hw1]
      clear hw1
      refine H1.out.mono ?_
      rintro e w2 ⟨rfl, b2⟩
      obtain ⟨u0, u1⟩ := two_cells (HN1.out.below b2).own
      have hsz2 := b2.size
      go_wp2_with fail
      refine (H2.out w2).mono ?_
      rintro e w3 ⟨rfl, b3⟩
      have b3' := b2.trans (b3.mono hsz2)
      have hsz3 := b3'.size
      clear u0 u1
      go_wp2_with fail
      refine (H3.out w3 b3').mono ?_
      rintro e w4 ⟨v4, rfl, o4, b4⟩
      obtain ⟨a4, c4, rfl, _, at4⟩ := o4.at
      have B4 := b3'.trans (b4.mono hsz3)
      have hsz4 := B4.size
      have HA4 := Lib.hid at4
      clear b2 b3 b3' b4 o4 at4 H1 H2 H3
      obtain ⟨m, hm⟩ : ∃ m, m = al.length := ⟨_, rfl⟩
      rw [← hm] at HA4 hole ⊢
      have Hm := Lib.hid hm
      clear hm
      have HN4 := Lib.hid (HN1.out.below B4)
      go_wp2
      go_loopw [23] (fun i wr => ∃ k : Nat, k ≤ m ∧ i = .int .i64 k ∧ Hid (∀ q (_ : q < k) (hq : q < al.length), Tr.nw al[q] ≠ (na, nb)) ∧ Below w4.heap.size w4 wr) (fun i _ => m - (intOf i).toNat)
      case atStart => exact ⟨0, Nat.zero_le _, rfl, Lib.hid (fun q hq => by omega), Below.refl _ _⟩
      case round =>
        obtain ⟨k, hk, rfl, Hq, hB⟩ := hrel
        obtain ⟨wo, hwo⟩ : ∃ wo, wo = wr := ⟨_, rfl⟩
        subst hwo
        have hsz := hB.size
        have hBw := hA.trans ((B4.trans (hB.mono hsz4)).mono (by omega))
        by_cases hlt : k < m
        · obtain ⟨b, off, rfl, hbl, hcs⟩ := (HA4.out.below hB).2 (by omega)
          have hkl : k < al.length := by rw [← Hm.out]; exact hlt
          obtain ⟨c0, c1, c2, c3⟩ := hcs k hkl
          obtain ⟨t0, t1⟩ := two_cells (HN4.out.below hB).own
          have Hqs := Lib.hid (fun (hh : Tr.nw al[k] ≠ (na, nb)) q (hq : q < k + 1) (hql : q < al.length) => (show Tr.nw al[q] ≠ (na, nb) by
            rcases Nat.eq_or_lt_of_le (show q ≤ k by omega) with rfl | hlt
            · exact hh
            · exact Hq.out q hlt hql))
          have Hfo := Lib.hid (fun (hh : Tr.nw al[k] = (na, nb)) => (⟨Tr.owner_mem Hon.out (List.getElem_mem hkl) hh ByteArray.empty, (Hsi.out _ (List.getElem_mem hkl)).1⟩ : Tr.ownerOf (na, nb) al = al[k].o ∧ 0 < al[k].o.size))
          have hgo : w.heap.size < wo.heap.size := by omega
          clear hcs
          generalize al[k] = Y at *
          obtain ⟨ya, yb, yo, ys⟩ := Y
          rcases (show (ya = na ∧ yb = nb) ∨ ((ya : Int) == (na : Int)) = false ∨ (ya = na ∧ (yb == nb) = false) by
            by_cases h1 : ya = na
            · by_cases h2 : yb = nb
              · exact .inl ⟨h1, h2⟩
              · exact .inr (.inr ⟨h1, beq_eq_false_iff_ne.2 h2⟩)
            · exact .inr (.inl (beq_eq_false_iff_ne.2 (by omega)))) with ⟨rfl, rfl⟩ | h0 | ⟨rfl, h0⟩
          · obtain ⟨f1, f2⟩ := Hfo.out rfl
            have Hr : Hid (Tr.go (ya, yb) l = yo ∧ Tr.ge (ya, yb) l = 0) := Lib.hid (by
              have e1 : Tr.ge (ya, yb) l = 0 := by rw [Hge.out, Hgo.out, f1]; exact if_neg (by have : 0 < yo.size := f2; show ¬ yo.size = 0; omega)
              exact ⟨by unfold Tr.go; rw [if_pos e1, Hgo.out, f1], e1⟩)
            have HB1 := Lib.hid (hBw.alloc (by omega) (.cells #[.int .u32 (ya : Int), .int .i64 yb, .string yo, .int .i64 ys] 56))
            clear f1 f2 Hfo Hqs
            go_wp2
            go_ret2
            exact ⟨by rw [Hr.out.1, Hr.out.2]; rfl, HB1.out⟩
          · have hne : Hid (Tr.nw ⟨ya, yb, yo, ys⟩ ≠ (na, nb)) := Lib.hid fun h => by injection h with h1 h2; change ya = na at h1; rw [h1] at h0; simp at h0
            clear Hfo
            go_wp2
            go_roundw
            case rel => exact ⟨k + 1, by omega, by go_num, Lib.hid (Hqs.out hne.out), hB.alloc hsz _⟩
            case measure => simp [intOf]; omega
          · have hne : Hid (Tr.nw ⟨ya, yb, yo, ys⟩ ≠ (ya, nb)) := Lib.hid fun h => by injection h with h1 h2; change yb = nb at h2; rw [h2] at h0; simp at h0
            clear Hfo
            go_wp2
            go_roundw
            case rel => exact ⟨k + 1, by omega, by go_num, Lib.hid (Hqs.out hne.out), hB.alloc hsz _⟩
            case measure => simp [intOf]; omega
        · have hno : Tr.ownerOf (na, nb) al = ByteArray.empty := Tr.owner_none (fun x hx => by
            obtain ⟨i, hi, rfl⟩ := List.mem_iff_getElem.1 hx
            exact Hq.out i (by have := Hm.out; omega) hi) _
          have Hr : Hid (Tr.go (na, nb) l = ⟨#[]⟩ ∧ Tr.ge (na, nb) l = 5) := Lib.hid (by
            have e1 : Tr.ge (na, nb) l = 5 := by rw [Hge.out, Hgo.out, hno]; rfl
            exact ⟨by unfold Tr.go; rw [e1]; rfl, e1⟩)
          clear hno HA4 Hq
          go_wp2
          go_ret2
          exact ⟨by rw [Hr.out.1, Hr.out.2]; rfl, hBw⟩
    · have Hr : Hid (Tr.go (na, nb) l = ⟨#[]⟩ ∧ Tr.ge (na, nb) l = Nt.err na nb) := Lib.hid (by
        have e1 : Tr.ge (na, nb) l = Nt.err na nb := by unfold Tr.ge; rw [if_pos hfz, if_neg hez]
        exact ⟨by unfold Tr.go; rw [e1, if_neg hez]; rfl, e1⟩)
      have hz' : ((Nt.err na nb : Int) != 0) = true := by simp; omega
      clear h hf hfz hez hat1 hN1
      generalize Nt.err na nb = E at *
      go_enter Try.func22, Try.ntmps22
      go_wp2_with fail
      rw [← hw1]
      clear hw1
      refine H1.out.mono ?_
      rintro e w2 ⟨rfl, b2⟩
      obtain ⟨u0, u1⟩ := two_cells (HN1.out.below b2).own
      have hsz2 := b2.size
      go_wp2_with fail
      refine (H2.out w2).mono ?_
      rintro e w3 ⟨rfl, b3⟩
      have B3 := hA.trans ((b2.trans (b3.mono hsz2)).mono (by omega))
      clear u0 u1 b2 b3 H1 H2
      go_wp2
      go_ret2
      exact ⟨by rw [Hr.out.1, Hr.out.2]; rfl, B3⟩
  · have Hr : Hid (Tr.go (na, nb) l = ⟨#[]⟩ ∧ Tr.ge (na, nb) l = Tr.fault l) := Lib.hid (by
      have e1 : Tr.ge (na, nb) l = Tr.fault l := if_neg hfz
      exact ⟨by unfold Tr.go; rw [e1, if_neg hfz]; rfl, e1⟩)
    have hz' : ((Tr.fault l : Int) != 0) = true := by simp; omega
    clear h hf hfz hat1 hN1
    generalize Tr.fault l = E at *
    go_enter Try.func22, Try.ntmps22
    go_wp2_with fail
    rw [← hw1]
    clear hw1
    refine H1.out.mono ?_
    rintro e w2 ⟨rfl, b2⟩
    have B2 := hA.trans (b2.mono (by omega))
    clear b2 H1
    go_wp2
    go_ret2
    exact ⟨by rw [Hr.out.1, Hr.out.2]; rfl, B2⟩

noncomputable def Tr.dropN (x : Tr.Nw) (l : List Tr.Node) : List Tr.Node := if Tr.ge x l = 0 then Tr.trie ((Tr.owned l).filter fun y => !decide (Tr.nw y = x)) else []
theorem Tr.ge_fault {x : Tr.Nw} {l : List Tr.Node} (h : Tr.ge x l = 0) : Tr.fault l = 0 := by
  unfold Tr.ge at h
  by_cases h0 : Tr.fault l = 0
  · exact h0
  · rw [if_neg h0] at h; exact absurd h h0
theorem dropN_len {x : Tr.Nw} {l : List Tr.Node} (hf : Tr.fit l) : (Tr.dropN x l).length ≤ 3518437208883 := by
  unfold Tr.dropN
  split
  · next hz =>
    obtain ⟨_, hg, _, hol, _⟩ := Tr.fault_facts hf (Tr.ge_fault hz)
    have h1 := Tr.grown_two 33 ((Tr.owned l).filter fun y => !decide (Tr.nw y = x)) (fun y hy => hg y (List.mem_filter.1 hy).1)
    have h2 : ((Tr.owned l).filter fun y => !decide (Tr.nw y = x)).length ≤ (Tr.owned l).length := List.length_filter_le _ _
    refine Nat.le_trans h1 ?_
    omega
  · simp
set_option maxRecDepth 20000 in
set_option maxHeartbeats 1600000 in
theorem trie_Drop (a : Option Addr) (n c : Nat) (l : List Tr.Node) (na : Nat) (nb : Int) (w : World) (h : NodesAt w w.heap.size a n l) (hf : Tr.fit l) (hn : n ≤ 3518437208780) (ha : na < 4294967296) (b0 : -9223372036854775808 ≤ nb) (b1 : nb ≤ 9223372036854775807) :
    Calls Try.prog 21 #[.slice a n c, .agg #[.int .u32 (na : Int), .int .i64 nb]] w fun e w' => (∃ v, e = .returned (.tuple #[v, .int .i64 (Tr.ge (na, nb) l : Int)]) ∧ OwnN w' w.heap.size v (Tr.dropN (na, nb) l)) ∧ Below w.heap.size w w' := by
  obtain ⟨w1, hw1⟩ : ∃ w1, w1 = w.alloc (.cells #[.int .u32 (na : Int), .int .i64 nb] 28) := ⟨_, rfl⟩
  have hA : Below w.heap.size w w1 := by rw [hw1]; exact (Below.refl _ _).alloc (Nat.le_refl _) _
  have hz1 : w.heap.size < w1.heap.size := by rw [hw1]; simp
  have hN1 : NetIn w1 w.heap.size na nb := by rw [hw1]; exact heap_alloc_last w _
  obtain ⟨t0, t1⟩ := two_cells hN1.own
  have H1 := Lib.hid (trie_Get a n c l na nb w1 ((h.below hA).up (by omega)) hf hn ha b0 b1)
  by_cases hz : Tr.ge (na, nb) l = 0
  · have Hd : Hid (Tr.dropN (na, nb) l = Tr.trie ((Tr.owned l).filter fun y => !decide (Tr.nw y = (na, nb)))) := Lib.hid (if_pos hz)
    obtain ⟨_, hg, hso, hol, _⟩ := Tr.fault_facts hf (Tr.ge_fault hz)
    have H2 := Lib.hid (fun (W : World) (hb : Below w1.heap.size w1 W) => trie_without 49 w.heap.size w1.heap.size (fun y => decide (Tr.nw y = (na, nb))) a n c l W (((h.below hA).below (hb.mono (by omega))).up (by have := hb.size; omega)) hn hg hso (by omega) (sel_drop w.heap.size w1.heap.size na nb W (hN1.below hb) hz1) hb.size)
    rw [hz] at H1 ⊢
    clear h hf hz hg hso hN1
    generalize Tr.go (na, nb) l = GO at *
    go_enter Try.func21, Try.ntmps21
    go_wp2_with fail
    rw [← hw1]
    clear hw1
    refine H1.out.mono ?_
    rintro e w2 ⟨rfl, b2⟩
    clear t0 t1
    go_wp2_with fail
    refine (H2.out w2 b2).mono ?_
    rintro e w3 ⟨v3, rfl, o3, b3⟩
    have B3 := hA.trans ((b2.trans (b3.mono b2.size)).mono (by omega))
    have O3 := Lib.hid (o3.base (show w.heap.size ≤ w2.heap.size by have := b2.size; omega))
    clear b2 b3 H1 H2 o3
    go_wp2
    go_ret2
    exact ⟨⟨_, rfl, by rw [Hd.out]; exact O3.out⟩, B3⟩
  · have Hd : Hid (Tr.dropN (na, nb) l = []) := Lib.hid (if_neg hz)
    have hz' : ((Tr.ge (na, nb) l : Int) != 0) = true := by simp; omega
    clear hz h hf hN1
    generalize Tr.ge (na, nb) l = FF at *
    generalize Tr.go (na, nb) l = GO at *
    go_enter Try.func21, Try.ntmps21
    go_wp2_with fail
    rw [← hw1]
    clear hw1
    refine H1.out.mono ?_
    rintro e w2 ⟨rfl, b2⟩
    have B2 := hA.trans (b2.mono (by omega))
    clear t0 t1
    go_wp2
    go_ret2
    exact ⟨⟨_, rfl, by rw [Hd.out]; exact OwnN.nil _ _⟩, B2⟩
set_option maxRecDepth 20000 in
set_option maxHeartbeats 1600000 in
theorem ref_TrieDrop (a : Option Addr) (n c : Nat) (l : List Tr.Node) (na : Nat) (nb : Int) (w : World) (h : NodesAt w w.heap.size a n l) (hf : Tr.fit l) (hn : n ≤ 3518437208780) (ha : na < 4294967296) :
    Calls Try.prog 23 #[.slice a n c, .agg #[.int .u32 (na : Int), .int .i64 nb]] w fun e w' => (∃ v, e = .returned (.tuple #[v, .int .i64 (Tr.ge (na, nb) l : Int)]) ∧ OwnN w' w.heap.size v (Tr.dropN (na, nb) l)) ∧ Below w.heap.size w w' := by
  obtain ⟨w1, hw1⟩ : ∃ w1, w1 = w.alloc (.cells #[.int .u32 (na : Int), .int .i64 nb] 28) := ⟨_, rfl⟩
  have hA : Below w.heap.size w w1 := by rw [hw1]; exact (Below.refl _ _).alloc (Nat.le_refl _) _
  have hz1 : w.heap.size < w1.heap.size := by rw [hw1]; simp
  have hN1 : NetIn w1 w.heap.size na nb := by rw [hw1]; exact heap_alloc_last w _
  obtain ⟨t0, t1⟩ := two_cells hN1.own
  have H1 := Lib.hid (ref_TrieGet a n c l na nb w1 ((h.below hA).up (by omega)) hf hn ha)
  by_cases hz : Tr.ge (na, nb) l = 0
  · have Hd : Hid (Tr.dropN (na, nb) l = Tr.trie ((Tr.owned l).filter fun y => !decide (Tr.nw y = (na, nb)))) := Lib.hid (if_pos hz)
    obtain ⟨_, hg, hso, hol, _⟩ := Tr.fault_facts hf (Tr.ge_fault hz)
    have H2 := Lib.hid (fun (W : World) (hb : Below w1.heap.size w1 W) => ref_without 50 w.heap.size w1.heap.size (fun y => decide (Tr.nw y = (na, nb))) a n c l W (((h.below hA).below (hb.mono (by omega))).up (by have := hb.size; omega)) hn hg (by omega) (sel_rdrop w.heap.size w1.heap.size na nb W (hN1.below hb) hz1) hb.size)
    rw [hz] at H1 ⊢
    clear h hf hz hg hso hN1
    generalize Tr.go (na, nb) l = GO at *
    go_enter Try.func23, Try.ntmps23
    go_wp2_with fail
    rw [← hw1]
    clear hw1
    refine H1.out.mono ?_
    rintro e w2 ⟨rfl, b2⟩
    clear t0 t1
    go_wp2_with fail
    refine (H2.out w2 b2).mono ?_
    rintro e w3 ⟨v3, rfl, o3, b3⟩
    have B3 := hA.trans ((b2.trans (b3.mono b2.size)).mono (by omega))
    have O3 := Lib.hid (o3.base (show w.heap.size ≤ w2.heap.size by have := b2.size; omega))
    clear b2 b3 H1 H2 o3
    go_wp2
    go_ret2
    exact ⟨⟨_, rfl, by rw [Hd.out]; exact O3.out⟩, B3⟩
  · have Hd : Hid (Tr.dropN (na, nb) l = []) := Lib.hid (if_neg hz)
    have hz' : ((Tr.ge (na, nb) l : Int) != 0) = true := by simp; omega
    clear hz h hf hN1
    generalize Tr.ge (na, nb) l = FF at *
    generalize Tr.go (na, nb) l = GO at *
    go_enter Try.func23, Try.ntmps23
    go_wp2_with fail
    rw [← hw1]
    clear hw1
    refine H1.out.mono ?_
    rintro e w2 ⟨rfl, b2⟩
    have B2 := hA.trans (b2.mono (by omega))
    clear t0 t1
    go_wp2
    go_ret2
    exact ⟨⟨_, rfl, by rw [Hd.out]; exact OwnN.nil _ _⟩, B2⟩

set_option maxRecDepth 20000 in
set_option maxHeartbeats 1600000 in
theorem trieGets_walk (a : Option Addr) (n c : Nat) (l : List Tr.Node) (na : Nat) (nb : Int) (w : World) (h : NodesAt w w.heap.size a n l) (_hc : n ≤ c) (hf : Tr.fit l) (hn : n ≤ 3518437208780) (ha : na < 4294967296) (b0 : -9223372036854775808 ≤ nb) (b1 : nb ≤ 9223372036854775807) :
    Calls Try.prog 5 #[.slice a n c, netV na nb] w fun e w' => e = .returned (.bool true) ∧ Below w.heap.size w w' := by
  unfold netV
  obtain ⟨w1, hw1⟩ : ∃ w1, w1 = w.alloc (.cells #[.int .u32 (na : Int), .int .i64 nb] 28) := ⟨_, rfl⟩
  have hA : Below w.heap.size w w1 := by rw [hw1]; exact (Below.refl _ _).alloc (Nat.le_refl _) _
  have hz1 : w.heap.size < w1.heap.size := by rw [hw1]; simp
  have hN1 : NetIn w1 w.heap.size na nb := by rw [hw1]; exact heap_alloc_last w _
  have hat1 := (h.below hA).up (show w.heap.size ≤ w1.heap.size by omega)
  have H1 := Lib.hid (trie_Get a n c l na nb w1 hat1 hf hn ha b0 b1)
  have H2 := Lib.hid (fun (W : World) (hb : Below w1.heap.size w1 W) => trie_Drop a n c l na nb W ((hat1.below hb).up hb.size) hf hn ha b0 b1)
  have H3 := Lib.hid (fun (W : World) (hb : Below w1.heap.size w1 W) => ref_TrieGet a n c l na nb W ((hat1.below hb).up hb.size) hf hn ha)
  have H4 := Lib.hid (fun (W : World) (hb : Below w1.heap.size w1 W) => ref_TrieDrop a n c l na nb W ((hat1.below hb).up hb.size) hf hn ha)
  have hal := dropN_len (x := (na, nb)) hf
  have HN := Lib.hid hN1
  obtain ⟨t0, t1⟩ := two_cells hN1.own
  clear h hf hat1 hN1
  generalize Tr.ge (na, nb) l = E at *
  generalize Tr.go (na, nb) l = O at *
  generalize Tr.dropN (na, nb) l = A at *
  go_enter Try.func5, Try.ntmps5
  go_wp2_with fail
  rw [← hw1]
  clear hw1
  refine H1.out.mono ?_
  rintro e w2 ⟨rfl, b2⟩
  obtain ⟨u0, u1⟩ := two_cells (HN.out.below b2).own
  clear t0 t1
  go_wp2_with fail
  refine (H2.out w2 b2).mono ?_
  rintro e w3 ⟨⟨v3, rfl, o3⟩, b3⟩
  have B3 := b2.trans (b3.mono b2.size)
  obtain ⟨t0, t1⟩ := two_cells (HN.out.below B3).own
  clear u0 u1
  go_wp2_with fail
  refine (H3.out w3 B3).mono ?_
  rintro e w4 ⟨rfl, b4⟩
  have B4 := B3.trans (b4.mono B3.size)
  obtain ⟨u0, u1⟩ := two_cells (HN.out.below B4).own
  clear t0 t1
  go_wp2_with fail
  refine (H4.out w4 B4).mono ?_
  rintro e w5 ⟨⟨v5, rfl, o5⟩, b5⟩
  have B5' := B4.trans (b5.mono B4.size)
  have B5 := hA.trans (B5'.mono (by omega))
  have o3' := (o3.below b4).below b5
  obtain ⟨a3, c3, rfl, _, at3⟩ := o3'.at
  obtain ⟨a5, c5, rfl, _, at5⟩ := o5.at
  have HE := Lib.hid (law_sameNodes a3 a5 _ _ c3 c5 A A w5 at3 at5 (by omega))
  have hsz5 := B5.size
  clear b2 b3 b4 b5 B3 B4 B5' o3 o5 o3' at3 at5 H1 H2 H3 H4 u0 u1
  go_wp2_with fail
  refine HE.out.mono ?_
  rintro e w6 ⟨r6, rfl, hr6, b6⟩
  obtain rfl : r6 = true := by first | exact hr6.2 rfl | exact hr6.2 trivial | simpa using hr6
  have B6 := B5.trans (b6.mono hsz5)
  clear hr6 b6 B5 HE
  go_wp2
  go_ret
  exact ⟨by simp, B6⟩
end Go.Proofs.Ytelanamcpadgdaa
