/- The contract of the program's trie.Put; the walk of the law TriePuts. -/
import Derived.Test.YtelanamcpadgdaaTriePut1
import Derived.Test.YtelanamcpadgdaaTrieInsert3
import Derived.Test.YtelanamcpadgdaaTrieLaw3
namespace Go.Proofs.Ytelanamcpadgdaa
open Go.RowKit

/-- The row ahead of the last store: the node at k bears the network, and what is around it. -/
structure PutSo (x : Tr.Nw) (o : ByteArray) (l : List Tr.Node) (k : Nat) (A C : List Tr.Node) (nd : Tr.Node) : Prop where
  len : A.length = k
  node : { nd with o := o } = Tr.newN x o
  rest : A ++ C = Tr.others x l
  sorted : Tr.sorted (A ++ Tr.newN x o :: C)
theorem put_sorted {A C : List Tr.Node} {x : Tr.Nw} {o : ByteArray} (h : Tr.sorted (A ++ C)) (h1 : ∀ n ∈ A, Tr.lt (Tr.nw n) x) (h2 : ∀ n ∈ C, Tr.lt x (Tr.nw n)) : Tr.sorted (A ++ Tr.newN x o :: C) := by
  obtain ⟨a, b, c⟩ := List.pairwise_append.1 h
  refine List.pairwise_append.2 ⟨a, List.Pairwise.cons (fun n hn => h2 n hn) b, fun n hn m hm => ?_⟩
  rcases List.mem_cons.1 hm with rfl | hm
  · exact h1 n hn
  · exact c n hn m hm
theorem put_found {x : Tr.Nw} {o : ByteArray} {l : List Tr.Node} {k : Nat} (hs : Tr.sorted (Tr.owned l)) (hp : Place (Tr.owned l) x k) (hk : k < (Tr.owned l).length) (he : Tr.nw (Tr.owned l)[k] = x) :
    PutSo x o l k ((Tr.owned l).take k) ((Tr.owned l).drop (k + 1)) (Tr.owned l)[k] := by
  have h1 := Tr.owned_single l _ (List.getElem_mem hk)
  have hS : Tr.owned l = (Tr.owned l).take k ++ (Tr.owned l)[k] :: (Tr.owned l).drop (k + 1) := by rw [List.getElem_cons_drop, List.take_append_drop]
  have hA : ∀ n ∈ (Tr.owned l).take k, Tr.lt (Tr.nw n) x := fun n hn => by
    obtain ⟨i, hi, rfl⟩ := List.mem_iff_getElem.1 hn
    rw [List.length_take] at hi
    rw [List.getElem_take]
    exact hp.low i (by omega) (by omega)
  have hC : ∀ n ∈ (Tr.owned l).drop (k + 1), Tr.lt x (Tr.nw n) := fun n hn => by
    obtain ⟨i, hi, rfl⟩ := List.mem_iff_getElem.1 hn
    rw [List.length_drop] at hi
    rw [List.getElem_drop, ← he]
    exact Tr.sorted_get hs (by omega) (by omega)
  refine ⟨by rw [List.length_take]; omega, ?_, ?_, ?_⟩
  · subst he
    unfold Tr.newN Tr.nw
    rw [h1.2]
  · unfold Tr.others
    conv => rhs; rw [hS]
    rw [List.filter_append, List.filter_cons_of_neg (by simp [he]), List.filter_eq_self.2, List.filter_eq_self.2]
    · intro n hn
      have := hC n hn
      simp only [Bool.not_eq_true', decide_eq_false_iff_not]
      intro e
      rw [e] at this
      exact Tr.lt_irrefl _ this
    · intro n hn
      have := hA n hn
      simp only [Bool.not_eq_true', decide_eq_false_iff_not]
      intro e
      rw [e] at this
      exact Tr.lt_irrefl _ this
  · refine put_sorted ?_ hA hC
    refine List.Pairwise.sublist ?_ hs
    conv => rhs; rw [hS]
    exact List.Sublist.append_left (List.sublist_cons_self _ _) _
theorem put_new {x : Tr.Nw} {o : ByteArray} {l : List Tr.Node} {k : Nat} (hs : Tr.sorted (Tr.owned l)) (hp : Place (Tr.owned l) x k) (hno : ¬ ∃ h : k < (Tr.owned l).length, Tr.nw (Tr.owned l)[k] = x) :
    PutSo x o l k ((Tr.owned l).take k) ((Tr.owned l).drop k) ⟨x.1, x.2, ⟨#[]⟩, 1⟩ := by
  have hne := place_none hp hs hno
  refine ⟨by rw [List.length_take]; have := hp.le; omega, rfl, ?_, ?_⟩
  · rw [List.take_append_drop]
    unfold Tr.others
    rw [List.filter_eq_self.2]
    intro n hn
    simp only [Bool.not_eq_true', decide_eq_false_iff_not]
    exact hne n hn
  · refine put_sorted (by rw [List.take_append_drop]; exact hs) (fun n hn => ?_) (fun n hn => ?_)
    · obtain ⟨i, hi, rfl⟩ := List.mem_iff_getElem.1 hn
      rw [List.length_take] at hi
      rw [List.getElem_take]
      exact hp.low i (by omega) (by omega)
    · have hn' := List.mem_of_mem_drop hn
      obtain ⟨i, hi, rfl⟩ := List.mem_iff_getElem.1 hn
      rw [List.length_drop] at hi
      rw [List.getElem_drop] at hn' ⊢
      exact Tr.lt_or (hp.high (k + i) (by omega) (by omega)) (hne _ hn')

set_option maxRecDepth 20000 in
set_option maxHeartbeats 3200000 in
theorem trie_Put (a : Option Addr) (n c : Nat) (l : List Tr.Node) (na : Nat) (nb : Int) (o : ByteArray) (w : World) (h : NodesAt w w.heap.size a n l) (hf : Tr.fit l) (hn : n ≤ 3518437208780) (ha : na < 4294967296) (b0 : -9223372036854775808 ≤ nb) (b1 : nb ≤ 9223372036854775807) :
    Calls Try.prog 17 #[.slice a n c, .agg #[.int .u32 (na : Int), .int .i64 nb], .string o] w fun e w' => (∃ v, e = .returned (.tuple #[v, .int .i64 (Tr.pe (na, nb) o l : Int)]) ∧ OwnN w' w.heap.size v (Tr.putL (na, nb) o l)) ∧ Below w.heap.size w w' := by
  obtain ⟨w1, hw1⟩ : ∃ w1, w1 = w.alloc (.cells #[.int .u32 (na : Int), .int .i64 nb] 28) := ⟨_, rfl⟩
  have hA : Below w.heap.size w w1 := by rw [hw1]; exact (Below.refl _ _).alloc (Nat.le_refl _) _
  have hz1 : w.heap.size < w1.heap.size := by rw [hw1]; simp
  have hN1 : NetIn w1 w.heap.size na nb := by rw [hw1]; exact heap_alloc_last w _
  have hat1 := (h.below hA).up (show w.heap.size ≤ w1.heap.size by omega)
  have H1 := Lib.hid (trie_checkBoth a n c l na nb w1 hat1 hf hn ha b0 b1)
  have HN1 := Lib.hid hN1
  obtain ⟨t0, t1⟩ := two_cells hN1.own
  by_cases hz : Tr.be (na, nb) l = 0
  · obtain ⟨hfz, hez⟩ := Tr.be_zero hz
    change Nt.err na nb = 0 at hez
    rw [hz] at H1
    by_cases ho : o.size = 0
    · have Hr : Hid (Tr.pe (na, nb) o l = 3 ∧ Tr.putL (na, nb) o l = []) := Lib.hid (by
        have e1 : Tr.pe (na, nb) o l = 3 := by unfold Tr.pe; rw [if_pos hz, if_pos ho]
        exact ⟨e1, by unfold Tr.putL; rw [e1]; rfl⟩)
      rw [Hr.out.1, Hr.out.2]
      obtain rfl := empty_of_size ho
      clear h hf hfz hez hat1 hN1 hz ho Hr
      go_enter Try.func17, Try.ntmps17
      go_wp2_with fail
      rw [← hw1]
      clear hw1
      refine H1.out.mono ?_
      rintro e w2 ⟨rfl, b2⟩
      have B2 := hA.trans (b2.mono (by omega))
      clear t0 t1 b2 H1
      go_wp2
      go_ret2
      exact ⟨⟨_, rfl, OwnN.nil _ _⟩, B2⟩
    · have Hr : Hid (Tr.pe (na, nb) o l = 0 ∧ Tr.putL (na, nb) o l = Tr.trie (Tr.others (na, nb) l ++ [Tr.newN (na, nb) o])) := Lib.hid (by
        have e1 : Tr.pe (na, nb) o l = 0 := by unfold Tr.pe; rw [if_pos hz, if_neg ho]
        exact ⟨e1, by unfold Tr.putL; rw [if_pos e1]⟩)
      rw [Hr.out.1, Hr.out.2]
      obtain ⟨_, hg, hso, hol, _⟩ := Tr.fault_facts hf hfz
      obtain ⟨og, _, _, _, _⟩ := Tr.others_facts (x := (na, nb)) hg hso
      have hgx : Tr.good (na, nb) := ⟨ha, hez⟩
      have H2 := Lib.hid (fun (W : World) (hb : Below w1.heap.size w1 W) => trie_owned a n c l W ((hat1.below hb).up hb.size) hn)
      have Hse := Lib.hid (fun (W : World) (a3 : Option Addr) (c3 : Nat) (hat : NodesAt W W.heap.size a3 (Tr.owned l).length (Tr.owned l)) => trie_search a3 (Tr.owned l).length c3 (Tr.owned l) na nb W hat (by omega) hg hso hgx)
      have HPf := Lib.hid (fun k (hp : Place (Tr.owned l) (na, nb) k) (hk : k < (Tr.owned l).length) he => put_found (o := o) hso hp hk he)
      have HPn := Lib.hid (fun k (hp : Place (Tr.owned l) (na, nb) k) hno => put_new (o := o) hso hp hno)
      have HFin := Lib.hid (fun k A C nd (hP : PutSo (na, nb) o l k A C nd) => (show Tr.trie (A ++ Tr.newN (na, nb) o :: C) = Tr.trie (Tr.others (na, nb) l ++ [Tr.newN (na, nb) o]) ∧ (∀ y ∈ A ++ Tr.newN (na, nb) o :: C, Tr.good (Tr.nw y)) by
        have hgA : ∀ y ∈ A ++ Tr.newN (na, nb) o :: C, Tr.good (Tr.nw y) := fun y hy => by
          rcases List.mem_append.1 hy with hy | hy
          · exact og y (by rw [← hP.rest]; exact List.mem_append_left _ hy)
          · rcases List.mem_cons.1 hy with rfl | hy
            · exact hgx
            · exact og y (by rw [← hP.rest]; exact List.mem_append_right _ hy)
        exact ⟨by rw [← hP.rest]; exact Tr.put_perm hP.sorted hgA, hgA⟩))
      have hse := isEmpty_of_pos (show 0 < o.size by omega)
      clear h hf hfz hez hat1 hN1 hz ho Hr hg og hso hgx
      generalize Tr.trie (Tr.others (na, nb) l ++ [Tr.newN (na, nb) o]) = FIN at *
      go_enter Try.func17, Try.ntmps17
      go_wp2_with fail
      rw [← hw1]
      clear hw1
      refine H1.out.mono ?_
      rintro e w2 ⟨rfl, b2⟩
      have hsz2 := b2.size
      clear t0 t1 H1
      go_wp2_with fail
      refine (H2.out w2 b2).mono ?_
      rintro e w3 ⟨v3, rfl, o3, b3⟩
      have b3' := b2.trans (b3.mono hsz2)
      have hsz3 := b3'.size
      have hsz23 := b3.size
      obtain ⟨a3, c3, rfl, _, at3⟩ := o3.at
      obtain ⟨t0, t1⟩ := two_cells (HN1.out.below b3').own
      have HS := Lib.hid (Hse.out w3 a3 c3 at3)
      clear at3 H2 Hse
      go_wp2_with fail
      refine HS.out.mono ?_
      rintro e w4 ⟨⟨k, r, rfl, hp, hr⟩, b4⟩
      have b4' := b3'.trans (b4.mono hsz3)
      have hsz4 := b4'.size
      have hsz34 := b4.size
      have HO4 := Lib.hid (o3.below b4)
      have hlt3 := o3.lt
      have B24 : Below w2.heap.size w2 w4 := b3.trans (b4.mono hsz23)
      have HB24 := Lib.hid B24
      have hple := hp.le
      clear o3 t0 t1 HS B24
      cases r with
      | true =>
        obtain ⟨hk, he⟩ := hr.1 rfl
        have hP := HPf.out k hp hk he
        obtain ⟨q1, q2⟩ := HFin.out _ _ _ _ hP
        have hS : Tr.owned l = (Tr.owned l).take k ++ (Tr.owned l)[k] :: (Tr.owned l).drop (k + 1) := by rw [List.getElem_cons_drop, List.take_append_drop]
        obtain ⟨g, c9, hv9, hc9, hBg, hglt, hrow⟩ := HO4.out.row (by intro e; rw [e] at hk; simp at hk)
        injection hv9 with hv1 _ hv3
        subst hv1 hv3
        have hrow' := hrow
        rw [hS] at hrow'
        obtain ⟨m2, _, f2, _⟩ := row_node hrow'
        obtain ⟨p1, p2⟩ := OwnN.put2 hrow' o
        have hAl := hP.len
        rw [hAl] at m2 f2 p1 p2
        rw [hP.node] at p1
        have hO6 : OwnN (w4.setCell ⟨g, k * 4 + 2, none⟩ (.string o)) w2.heap.size (.slice (some ⟨g, 0, none⟩) ((Tr.owned l).take k ++ Tr.newN (na, nb) o :: (Tr.owned l).drop (k + 1)).length c3) ((Tr.owned l).take k ++ Tr.newN (na, nb) o :: (Tr.owned l).drop (k + 1)) := ⟨_, c3, rfl, p1⟩
        have hlen : ((Tr.owned l).take k ++ Tr.newN (na, nb) o :: (Tr.owned l).drop (k + 1)).length = (Tr.owned l).length := by rw [List.length_append, List.length_cons, List.length_take, List.length_drop]; omega
        have hB6 := HB24.out.trans (below_of_grown p2 (by omega) (fun q hq => by injection hq with hq; omega))
        have hcap := hO6.cap
        have HG := Lib.hid (trie_build (some ⟨g, 0, none⟩) _ c3 _ _ hO6.at'.2 hcap q2 hP.sorted (by rw [hlen]; omega))
        rw [hlen] at HG
        change Hid (Calls Try.prog 39 _ _ fun e w' => ∃ v', e = .returned v' ∧ OwnN w' _ v' (Tr.trie _) ∧ Below _ _ w') at HG
        rw [q1] at HG
        have Hb6 := Lib.hid hB6
        have hi1 : (k : Int) < ((Tr.owned l).length : Int) := by omega
        clear hS hrow hrow' p1 p2 hO6 hP q1 q2 hp hr he hAl hlen hcap hB6
        clear HPf HPn HFin
        go_wp2_with fail
        refine HG.out.mono ?_
        rintro e w7 ⟨v7, rfl, o7, b7⟩
        have hb7s : w.heap.size ≤ (w4.setCell ⟨g, k * 4 + 2, none⟩ (.string o)).heap.size := by simp; omega
        have B7 := hA.trans ((b2.trans ((Hb6.out.trans (b7.mono (by simp; omega))).mono hsz2)).mono (by omega))
        have HO7 := Lib.hid (o7.base hb7s)
        clear o7 b7 HG
        go_wp2
        go_ret2
        exact ⟨⟨_, rfl, HO7.out⟩, B7⟩
      | false =>
        have hP := HPn.out k hp (fun h => by have := hr.2 h; cases this)
        obtain ⟨q1, q2⟩ := HFin.out _ _ _ _ hP
        obtain ⟨t0, t1⟩ := two_cells (HN1.out.below b4').own
        have hnd : NodeIn (w4.alloc (.cells #[.int .u32 (na : Int), .int .i64 nb, .string ⟨#[]⟩, .int .i64 1] 56)) w4.heap.size ⟨na, nb, ⟨#[]⟩, 1⟩ := heap_alloc_last w4 _
        have HI := Lib.hid (nodes_Insert _ (Tr.owned l) k w4.heap.size ⟨na, nb, ⟨#[]⟩, 1⟩ _ w2.heap.size (HO4.out.alloc _) (by simp; omega) hple (by omega) hnd (fun e => by have := (HO4.out.lt _ e).2; omega))
        have HA4 := Lib.hid ((Below.refl w2.heap.size w4).alloc (show w2.heap.size ≤ w4.heap.size by omega) (.cells #[.int .u32 (na : Int), .int .i64 nb, .string ⟨#[]⟩, .int .i64 1] 56))
        have hAl := hP.len
        have HP := Lib.hid hP
        have Hq1 := Lib.hid q1
        have Hq2 := Lib.hid q2
        clear hp hr hnd hP q1 q2
        clear HPf HPn HFin
        go_wp2_with fail
        refine HI.out.mono ?_
        rintro e w5 ⟨v5, rfl, o5, b5⟩
        obtain ⟨g, c9, rfl, hc9, hBg, hglt, hrow⟩ := o5.row (by simp)
        obtain ⟨m2, _, f2, _⟩ := row_node hrow
        obtain ⟨p1, p2⟩ := OwnN.put2 hrow o
        rw [hAl] at m2 f2 p1 p2
        have hnode := HP.out.node
        change (⟨na, nb, o, 1⟩ : Tr.Node) = _ at hnode
        rw [hnode] at p1
        have hB5 : Below w2.heap.size w2 w5 := HB24.out.trans (HA4.out.trans b5)
        have hsz5 := hB5.size
        have hO6 : OwnN (w5.setCell ⟨g, k * 4 + 2, none⟩ (.string o)) w2.heap.size (.slice (some ⟨g, 0, none⟩) ((Tr.owned l).take k ++ Tr.newN (na, nb) o :: (Tr.owned l).drop k).length c9) ((Tr.owned l).take k ++ Tr.newN (na, nb) o :: (Tr.owned l).drop k) := ⟨_, c9, rfl, p1⟩
        have hlen : ((Tr.owned l).take k ++ Tr.newN (na, nb) o :: (Tr.owned l).drop k).length = ((Tr.owned l).take k ++ (⟨na, nb, ⟨#[]⟩, 1⟩ : Tr.Node) :: (Tr.owned l).drop k).length := by simp
        have hlen2 : ((Tr.owned l).take k ++ (⟨na, nb, ⟨#[]⟩, 1⟩ : Tr.Node) :: (Tr.owned l).drop k).length ≤ 141733920769 ∧ k < ((Tr.owned l).take k ++ (⟨na, nb, ⟨#[]⟩, 1⟩ : Tr.Node) :: (Tr.owned l).drop k).length := by
          have h9 : (Tr.owned l).length ≤ 141733920768 := by first | assumption | omega
          rw [List.length_append, List.length_cons, List.length_take, List.length_drop]
          rw [List.length_take] at hAl
          omega
        have hB6 := hB5.trans (below_of_grown p2 hsz5 (fun q hq => by injection hq with hq; omega))
        have hcap := hO6.cap
        have HG := Lib.hid (trie_build (some ⟨g, 0, none⟩) _ c9 _ _ hO6.at'.2 hcap Hq2.out HP.out.sorted (by rw [hlen]; omega))
        rw [hlen] at HG
        rw [Hq1.out] at HG
        have Hb6 := Lib.hid hB6
        generalize ((Tr.owned l).take k ++ (⟨na, nb, ⟨#[]⟩, 1⟩ : Tr.Node) :: (Tr.owned l).drop k).length = N5 at *
        have hi1 : (k : Int) < (N5 : Int) := by omega
        clear hrow p1 p2 hO6 hlen hcap hB6 hnode o5 b5 HI t0 t1
        go_wp2_with fail
        refine HG.out.mono ?_
        rintro e w7 ⟨v7, rfl, o7, b7⟩
        have hb7s : w.heap.size ≤ (w5.setCell ⟨g, k * 4 + 2, none⟩ (.string o)).heap.size := by simp; omega
        have B7 := hA.trans ((b2.trans ((Hb6.out.trans (b7.mono (by simp; omega))).mono hsz2)).mono (by omega))
        have HO7 := Lib.hid (o7.base hb7s)
        clear o7 b7 HG
        go_wp2
        go_ret2
        exact ⟨⟨_, rfl, HO7.out⟩, B7⟩
  · have Hr : Hid (Tr.pe (na, nb) o l = Tr.be (na, nb) l ∧ Tr.putL (na, nb) o l = []) := Lib.hid (by
      have e1 : Tr.pe (na, nb) o l = Tr.be (na, nb) l := by unfold Tr.pe; rw [if_neg hz]
      exact ⟨e1, by unfold Tr.putL; rw [e1, if_neg hz]⟩)
    rw [Hr.out.1, Hr.out.2]
    have hz' : ((Tr.be (na, nb) l : Int) != 0) = true := by simp; omega
    clear h hf hz hat1 hN1 Hr
    generalize Tr.be (na, nb) l = E at *
    go_enter Try.func17, Try.ntmps17
    go_wp2_with fail
    rw [← hw1]
    clear hw1
    refine H1.out.mono ?_
    rintro e w2 ⟨rfl, b2⟩
    have B2 := hA.trans (b2.mono (by omega))
    clear t0 t1 b2 H1
    go_wp2
    go_ret2
    exact ⟨⟨_, rfl, OwnN.nil _ _⟩, B2⟩
end Go.Proofs.Ytelanamcpadgdaa
