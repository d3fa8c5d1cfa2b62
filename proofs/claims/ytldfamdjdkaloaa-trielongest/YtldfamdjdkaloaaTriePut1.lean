/- The plain words of Put; the contract of the reference's TriePut. -/
import Derived.Test.YtldfamdjdkaloaaTrieGet
import Derived.Test.YtldfamdjdkaloaaTrieRef5
namespace Go.Proofs.Ytldfamdjdkaloaa
open Go.RowKit

namespace Tr
/-- The other networks' nodes. -/
def others (x : Nw) (l : List Node) : List Node := (owned l).filter fun y => !decide (nw y = x)
def newN (x : Nw) (o : ByteArray) : Node := ⟨x.1, x.2, o, 1⟩
noncomputable def pe (x : Nw) (o : ByteArray) (l : List Node) : Nat := if be x l = 0 then (if o.size = 0 then 3 else 0) else be x l
noncomputable def putL (x : Nw) (o : ByteArray) (l : List Node) : List Node := if pe x o l = 0 then trie (others x l ++ [newN x o]) else []
theorem be_zero {x : Nw} {l : List Node} (h : be x l = 0) : fault l = 0 ∧ Nt.err x.1 x.2 = 0 := by
  unfold be at h
  by_cases h0 : fault l = 0
  · rw [if_pos h0] at h; exact ⟨h0, h⟩
  · rw [if_neg h0] at h; exact absurd h h0
theorem others_facts {x : Nw} {l : List Node} (hg : ∀ n ∈ owned l, good (nw n)) (hs : sorted (owned l)) : (∀ n ∈ others x l, good (nw n)) ∧ sorted (others x l) ∧ single (others x l) ∧ (others x l).length ≤ (owned l).length ∧ (∀ n ∈ others x l, nw n ≠ x) := by
  refine ⟨fun n hn => hg n (List.mem_filter.1 hn).1, List.Pairwise.filter _ hs, fun n hn => owned_single l n (List.mem_filter.1 hn).1, List.length_filter_le _ _, fun n hn => ?_⟩
  simpa using (List.mem_filter.1 hn).2
theorem new_good {x : Nw} {o : ByteArray} {l : List Node} (hx : good x) (hg : ∀ n ∈ l, good (nw n)) : ∀ n ∈ l ++ [newN x o], good (nw n) := by
  intro n hn
  rcases List.mem_append.1 hn with h | h
  · exact hg n h
  · obtain rfl : n = newN x o := by simpa using h
    exact hx
/-- A sorted list with the new node in its place. -/
theorem put_perm {A C : List Node} {x : Nw} {o : ByteArray} (hs : sorted (A ++ newN x o :: C)) (hg : ∀ n ∈ A ++ newN x o :: C, good (nw n)) : trie (A ++ newN x o :: C) = trie (A ++ C ++ [newN x o]) := by
  refine grown_perm 33 ?_ (sorted_once hs) hg
  refine List.perm_middle.trans ?_
  exact (List.perm_append_singleton (newN x o) (A ++ C)).symm
end Tr

set_option maxRecDepth 20000 in
set_option maxHeartbeats 1600000 in
theorem ref_TriePut (a : Option Addr) (n c : Nat) (l : List Tr.Node) (na : Nat) (nb : Int) (o : ByteArray) (w : World) (h : NodesAt w w.heap.size a n l) (hf : Tr.fit l) (hn : n ≤ 3518437208780) (ha : na < 4294967296) :
    Calls Try.prog 18 #[.slice a n c, .agg #[.int .u32 (na : Int), .int .i64 nb], .string o] w fun e w' => (∃ v, e = .returned (.tuple #[v, .int .i64 (Tr.pe (na, nb) o l : Int)]) ∧ OwnN w' w.heap.size v (Tr.putL (na, nb) o l)) ∧ Below w.heap.size w w' := by
  obtain ⟨w1, hw1⟩ : ∃ w1, w1 = w.alloc (.cells #[.int .u32 (na : Int), .int .i64 nb] 28) := ⟨_, rfl⟩
  have hA : Below w.heap.size w w1 := by rw [hw1]; exact (Below.refl _ _).alloc (Nat.le_refl _) _
  have hz1 : w.heap.size < w1.heap.size := by rw [hw1]; simp
  have hN1 : NetIn w1 w.heap.size na nb := by rw [hw1]; exact heap_alloc_last w _
  have hat1 := (h.below hA).up (show w.heap.size ≤ w1.heap.size by omega)
  have H1 := Lib.hid (ref_TrieFault a n c l w1 hat1 hf hn)
  have HN1 := Lib.hid hN1
  by_cases hfz : Tr.fault l = 0
  · have H2 := Lib.hid (fun W => ref_NetFault na nb W ha)
    unfold netV at H2
    rw [hfz] at H1
    by_cases hez : Nt.err na nb = 0
    · rw [hez] at H2
      have hbe : Tr.be (na, nb) l = 0 := by unfold Tr.be; rw [if_pos hfz]; exact hez
      by_cases ho : o.size = 0
      · have Hr : Hid (Tr.pe (na, nb) o l = 3 ∧ Tr.putL (na, nb) o l = []) := Lib.hid (by
          have e1 : Tr.pe (na, nb) o l = 3 := by unfold Tr.pe; rw [if_pos hbe, if_pos ho]
          exact ⟨e1, by unfold Tr.putL; rw [e1]; rfl⟩)
        rw [Hr.out.1, Hr.out.2]
        obtain rfl := empty_of_size ho
        clear h hf hfz hez hat1 hN1 hbe ho Hr
        go_enter Try.func18, Try.ntmps18
        go_wp2_with fail
        rw [← hw1]
        clear hw1
        refine H1.out.mono ?_
        rintro e w2 ⟨rfl, b2⟩
        obtain ⟨u0, u1⟩ := two_cells (HN1.out.below b2).own
        have hsz2 := b2.size
        go_wp2_with fail
        refine (H2.out w2).mono ?_
        rintro e w3 ⟨rfl, b3⟩
        have B3 := hA.trans ((b2.trans (b3.mono hsz2)).mono (by omega))
        clear u0 u1 b2 b3 H1 H2
        go_wp2
        go_ret2
        exact ⟨⟨_, rfl, OwnN.nil _ _⟩, B3⟩
      · have Hr : Hid (Tr.pe (na, nb) o l = 0 ∧ Tr.putL (na, nb) o l = Tr.trie (Tr.others (na, nb) l ++ [Tr.newN (na, nb) o])) := Lib.hid (by
          have e1 : Tr.pe (na, nb) o l = 0 := by unfold Tr.pe; rw [if_pos hbe, if_neg ho]
          exact ⟨e1, by unfold Tr.putL; rw [if_pos e1]⟩)
        rw [Hr.out.1, Hr.out.2]
        obtain ⟨_, hg, hso, hol, _⟩ := Tr.fault_facts hf hfz
        obtain ⟨og, os, o1, ol, _⟩ := Tr.others_facts (x := (na, nb)) hg hso
        have H3 := Lib.hid (fun (W : World) (hb : Below w1.heap.size w1 W) => ref_without 47 w.heap.size w1.heap.size (fun y => decide (Tr.nw y = (na, nb))) a n c l W ((hat1.below hb).up hb.size) hn hg (by omega) (sel_put w.heap.size w1.heap.size na nb W (hN1.below hb) hz1) hb.size)
        have hoe : Tr.owned (Tr.trie (Tr.others (na, nb) l)) = Tr.others (na, nb) l := Tr.owned_grown_eq og os o1 Tr.deep
        have htl := Tr.grown_two 33 (Tr.others (na, nb) l) og
        have Hgn := Lib.hid (Tr.new_good (x := (na, nb)) (o := o) (show Tr.good (na, nb) from ⟨ha, hez⟩) og)
        change Hid (∀ (W : World) (hb : Below w1.heap.size w1 W), Calls Try.prog 46 _ W fun e w' => ∃ v, e = .returned v ∧ OwnN w' W.heap.size v (Tr.trie (Tr.others (na, nb) l)) ∧ Below W.heap.size W w') at H3
        have Hoe := Lib.hid hoe
        have hse := isEmpty_of_pos (show 0 < o.size by omega)
        have hol2 : (Tr.others (na, nb) l).length ≤ 141733920768 := by omega
        clear h hf hfz hez hat1 hN1 hbe ho Hr hg hso og os o1 ol hol hoe
        generalize Tr.others (na, nb) l = OT at *
        go_enter Try.func18, Try.ntmps18
        go_wp2_with fail
        rw [← hw1]
        clear hw1
        refine H1.out.mono ?_
        rintro e w2 ⟨rfl, b2⟩
        obtain ⟨u0, u1⟩ := two_cells (HN1.out.below b2).own
        have hsz2 := b2.size
        go_wp2_with fail
        refine (H2.out w2).mono ?_
        rintro e w3 ⟨rfl, b3⟩
        have b3' := b2.trans (b3.mono hsz2)
        have hsz3 := b3'.size
        clear u0 u1
        go_wp2_with fail
        refine (H3.out w3 b3').mono ?_
        rintro e w4 ⟨v4, rfl, o4, b4⟩
        have b4' := b3'.trans (b4.mono hsz3)
        have hsz4 := b4'.size
        obtain ⟨a4, c4, rfl, _, at4⟩ := o4.at
        have H5 := Lib.hid (ref_owned a4 _ c4 (Tr.trie OT) w4 at4 (Nat.le_trans htl (by omega)))
        rw [Hoe.out] at H5
        clear o4 at4 b2 b3 b4 b3' H1 H2 H3
        go_wp2_with fail
        refine H5.out.mono ?_
        rintro e w5 ⟨v5, rfl, o5, b5⟩
        have b5' := b4'.trans (b5.mono hsz4)
        have hsz45 := b5.size
        have hsz5 := b5'.size
        obtain ⟨t0, t1⟩ := two_cells (HN1.out.below b5').own
        have HO5 := Lib.hid o5
        have Hnw := Lib.hid (nodesAt_new w5 ⟨na, nb, o, 1⟩)
        clear b5 H5 o5
        go_wp2_with (at_builtin; refine wpL_append_nodes _ rfl _ _ rfl w4.heap.size _ OT rfl (HO5.out.alloc _) _ 1 _ [⟨na, nb, o, 1⟩] rfl (fun h => by cases h) Hnw.out (by omega) (by simp; omega) ?_)
        intro v6 w6 hO6 hgr _
        have b6 := below_grownN (HO5.out.alloc _) hgr (by simp; omega)
        have b6' := b5'.trans ((((Below.refl w5.heap.size w5).alloc (Nat.le_refl _) (.cells #[.int .u32 (na : Int), .int .i64 nb, .string o, .int .i64 1] 56)).mono (show w1.heap.size ≤ w5.heap.size by omega)).trans (b6.mono (by omega)))
        have hsz6 := b6'.size
        obtain ⟨a6, c6, rfl, _, at6⟩ := hO6.at
        have hlen : (OT ++ [(⟨na, nb, o, 1⟩ : Tr.Node)]).length = OT.length + 1 := by simp
        have HG := Lib.hid (ref_grown 33 a6 _ c6 (OT ++ [⟨na, nb, o, 1⟩]) w6 at6 Hgn.out Tr.deep (by omega) (by omega))
        have Hba := Lib.hid (show w.heap.size ≤ w6.heap.size by omega)
        rw [hlen] at HG ⊢
        clear hO6 hgr b6 at6 HO5 Hnw t0 t1 hlen
        go_wp2_with fail
        refine HG.out.mono ?_
        rintro e w7 ⟨v7, rfl, o7, b7⟩
        have B7 := hA.trans ((b6'.trans (b7.mono hsz6)).mono (by omega))
        have HO7 := Lib.hid (o7.base Hba.out)
        clear b7 HG o7
        go_wp2
        go_ret2
        exact ⟨⟨_, rfl, HO7.out⟩, B7⟩
    · have Hr : Hid (Tr.pe (na, nb) o l = Nt.err na nb ∧ Tr.putL (na, nb) o l = []) := Lib.hid (by
        have e0 : Tr.be (na, nb) l = Nt.err na nb := by unfold Tr.be; rw [if_pos hfz]
        have e1 : Tr.pe (na, nb) o l = Nt.err na nb := by unfold Tr.pe; rw [e0, if_neg hez]
        exact ⟨e1, by unfold Tr.putL; rw [e1, if_neg hez]⟩)
      rw [Hr.out.1, Hr.out.2]
      have hz' : ((Nt.err na nb : Int) != 0) = true := by simp; omega
      clear h hf hfz hez hat1 hN1 Hr
      generalize Nt.err na nb = E at *
      go_enter Try.func18, Try.ntmps18
      go_wp2_with fail
      rw [← hw1]
      clear hw1
      refine H1.out.mono ?_
      rintro e w2 ⟨rfl, b2⟩
      obtain ⟨u0, u1⟩ := two_cells (HN1.out.below b2).own
      have hsz2 := b2.size
      go_wp2_with fail
      refine (H2.out w2).mono ?_
      rintro e w3 ⟨rfl, b3⟩
      have B3 := hA.trans ((b2.trans (b3.mono hsz2)).mono (by omega))
      clear u0 u1 b2 b3 H1 H2
      go_wp2
      go_ret2
      exact ⟨⟨_, rfl, OwnN.nil _ _⟩, B3⟩
  · have Hr : Hid (Tr.pe (na, nb) o l = Tr.fault l ∧ Tr.putL (na, nb) o l = []) := Lib.hid (by
      have e0 : Tr.be (na, nb) l = Tr.fault l := if_neg hfz
      have e1 : Tr.pe (na, nb) o l = Tr.fault l := by unfold Tr.pe; rw [e0, if_neg hfz]
      exact ⟨e1, by unfold Tr.putL; rw [e1, if_neg hfz]⟩)
    rw [Hr.out.1, Hr.out.2]
    have hz' : ((Tr.fault l : Int) != 0) = true := by simp; omega
    clear h hf hfz hat1 hN1 Hr
    generalize Tr.fault l = E at *
    go_enter Try.func18, Try.ntmps18
    go_wp2_with fail
    rw [← hw1]
    clear hw1
    refine H1.out.mono ?_
    rintro e w2 ⟨rfl, b2⟩
    have B2 := hA.trans (b2.mono (by omega))
    clear b2 H1
    go_wp2
    go_ret2
    exact ⟨⟨_, rfl, OwnN.nil _ _⟩, B2⟩
end Go.Proofs.Ytldfamdjdkaloaa
