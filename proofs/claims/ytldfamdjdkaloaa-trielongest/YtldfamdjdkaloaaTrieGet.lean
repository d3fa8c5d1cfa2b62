/- The contracts of trie.search, trie.checkBoth, trie.Get and of the reference's TrieGet. -/
import Derived.Test.YtldfamdjdkaloaaTrieSearch
import Derived.Test.YtldfamdjdkaloaaTrieCode9
import Derived.Test.YtldfamdjdkaloaaTrieCode7
namespace Go.Proofs.Ytldfamdjdkaloaa
open Go.RowKit

theorem place_none {l : List Tr.Node} {x : Tr.Nw} {k : Nat} (hp : Place l x k) (hs : Tr.sorted l) (h : ¬ ∃ h : k < l.length, Tr.nw l[k] = x) : ∀ n ∈ l, Tr.nw n ≠ x := by
  intro n hn e
  obtain ⟨i, hi, rfl⟩ := List.mem_iff_getElem.1 hn
  by_cases h1 : i < k
  · have := hp.low i h1 hi; rw [e] at this; exact Tr.lt_irrefl _ this
  · rcases Nat.eq_or_lt_of_le (show k ≤ i by omega) with rfl | h2
    · exact h ⟨hi, e⟩
    · have hk : k < l.length := by omega
      have h3 := hp.high k (Nat.le_refl _) hk
      have h4 := Tr.sorted_get hs h2 hi
      rw [e] at h4
      exact h3 h4
theorem owned_mem {l : List Tr.Node} {m : Tr.Node} (h : m ∈ Tr.owned l) : ∃ n ∈ l, 0 < n.o.size ∧ m = { n with s := 1 } := by
  unfold Tr.owned at h
  obtain ⟨n, hn, rfl⟩ := List.mem_map.1 h
  exact ⟨n, (List.mem_filter.1 hn).1, by simpa using (List.mem_filter.1 hn).2, rfl⟩
/-- The owner of exactly a network. -/
def Tr.getO (x : Tr.Nw) (l : List Tr.Node) : ByteArray := Tr.ownerOf x (Tr.owned l)
theorem getO_none {l : List Tr.Node} {x : Tr.Nw} (h : ∀ n ∈ l, Tr.nw n ≠ x) : Tr.getO x l = ByteArray.empty := by
  refine Tr.owner_none (fun m hm => ?_) _
  obtain ⟨n, hn, _, rfl⟩ := owned_mem hm
  exact h n hn
theorem getO_mem {l : List Tr.Node} {x : Tr.Nw} (hs : Tr.sorted l) {n : Tr.Node} (hn : n ∈ l) (e : Tr.nw n = x) : Tr.getO x l = n.o := by
  by_cases h0 : 0 < n.o.size
  · have hm : ({ n with s := 1 } : Tr.Node) ∈ Tr.owned l := by
      unfold Tr.owned
      exact List.mem_map.2 ⟨n, List.mem_filter.2 ⟨hn, by simpa using h0⟩, rfl⟩
    exact Tr.owner_mem (Tr.sorted_once (Tr.owned_sorted hs)) hm e _
  · rw [empty_of_size (show n.o.size = 0 by omega)]
    refine Tr.owner_none (fun m hm hc => ?_) _
    obtain ⟨k, hk, hk0, rfl⟩ := owned_mem hm
    obtain ⟨i, hi, rfl⟩ := List.mem_iff_getElem.1 hn
    obtain ⟨j, hj, rfl⟩ := List.mem_iff_getElem.1 hk
    have hij : i = j := by
      apply Decidable.byContradiction
      intro hne
      rcases Nat.lt_or_gt_of_ne hne with h | h
      · have := Tr.sorted_get hs h hj; rw [e, show Tr.nw l[j] = x from hc] at this; exact Tr.lt_irrefl _ this
      · have := Tr.sorted_get hs h hi; rw [e, show Tr.nw l[j] = x from hc] at this; exact Tr.lt_irrefl _ this
    subst hij
    omega
noncomputable def Tr.ge (x : Tr.Nw) (l : List Tr.Node) : Nat := if Tr.fault l = 0 then (if Nt.err x.1 x.2 = 0 then (if (Tr.getO x l).size = 0 then 5 else 0) else Nt.err x.1 x.2) else Tr.fault l
noncomputable def Tr.go (x : Tr.Nw) (l : List Tr.Node) : ByteArray := if Tr.ge x l = 0 then Tr.getO x l else ByteArray.empty
noncomputable def Tr.be (x : Tr.Nw) (l : List Tr.Node) : Nat := if Tr.fault l = 0 then Nt.err x.1 x.2 else Tr.fault l

set_option maxHeartbeats 800000 in
theorem trie_checkBoth (a : Option Addr) (n c : Nat) (l : List Tr.Node) (na : Nat) (nb : Int) (w : World) (h : NodesAt w w.heap.size a n l) (hf : Tr.fit l) (hn : n ≤ 3518437208780) (ha : na < 4294967296) (b0 : -9223372036854775808 ≤ nb) (b1 : nb ≤ 9223372036854775807) :
    Calls Try.prog 43 #[.slice a n c, .agg #[.int .u32 (na : Int), .int .i64 nb]] w fun e w' => e = .returned (.int .i64 (Tr.be (na, nb) l : Int)) ∧ Below w.heap.size w w' := by
  obtain ⟨w1, hw1⟩ : ∃ w1, w1 = w.alloc (.cells #[.int .u32 (na : Int), .int .i64 nb] 28) := ⟨_, rfl⟩
  have hA : Below w.heap.size w w1 := by rw [hw1]; exact (Below.refl _ _).alloc (Nat.le_refl _) _
  have hz1 : w.heap.size < w1.heap.size := by rw [hw1]; simp
  have hN1 : NetIn w1 w.heap.size na nb := by rw [hw1]; exact heap_alloc_last w _
  have H1 := Lib.hid (trie_Check a n c l w1 ((h.below hA).up (by omega)) hf hn)
  have H2 := Lib.hid (fun W => net_Check na nb W ha b0 b1)
  unfold netV at H2
  clear h hf
  by_cases hz : Tr.fault l = 0
  · have Hb : Hid (Tr.be (na, nb) l = Nt.err na nb) := Lib.hid (if_pos hz)
    rw [hz] at H1
    clear hz
    generalize Nt.err na nb = E at *
    go_enter Try.func43, Try.ntmps43
    go_wp2_with fail
    rw [← hw1]
    clear hw1
    refine H1.out.mono ?_
    rintro e w2 ⟨rfl, b2⟩
    obtain ⟨t0, t1⟩ := two_cells (hN1.below b2).own
    have hsz2 := b2.size
    go_wp2_with fail
    refine (H2.out _).mono ?_
    rintro e w3 ⟨rfl, b3⟩
    have B3 := hA.trans ((b2.trans (b3.mono hsz2)).mono (by omega))
    clear b2 b3 H1 H2 t0 t1
    go_wp2
    go_ret
    exact ⟨by rw [Hb.out]; rfl, B3⟩
  · have Hb : Hid (Tr.be (na, nb) l = Tr.fault l) := Lib.hid (if_neg hz)
    have hz' : ((Tr.fault l : Int) != 0) = true := by simp; omega
    clear hz H2
    generalize Tr.fault l = FF at *
    go_enter Try.func43, Try.ntmps43
    go_wp2_with fail
    rw [← hw1]
    clear hw1
    refine H1.out.mono ?_
    rintro e w2 ⟨rfl, b2⟩
    have B2 := hA.trans (b2.mono (by omega))
    go_wp2
    go_ret
    exact ⟨by rw [Hb.out]; rfl, B2⟩

set_option maxHeartbeats 800000 in
theorem trie_search (a : Option Addr) (n c : Nat) (l : List Tr.Node) (na : Nat) (nb : Int) (w : World) (h : NodesAt w w.heap.size a n l) (hn : n ≤ 3518437208883) (hg : ∀ x ∈ l, Tr.good (Tr.nw x)) (hs : Tr.sorted l) (gn : Tr.good (na, nb)) :
    Calls Try.prog 44 #[.slice a n c, .agg #[.int .u32 (na : Int), .int .i64 nb]] w fun e w' => (∃ (k : Nat) (r : Bool), e = .returned (.tuple #[.int .i64 (k : Int), .bool r]) ∧ Place l (na, nb) k ∧ (r = true ↔ ∃ h : k < l.length, Tr.nw l[k] = (na, nb))) ∧ Below w.heap.size w w' := by
  obtain ⟨w1, hw1⟩ : ∃ w1, w1 = w.alloc (.cells #[.int .u32 (na : Int), .int .i64 nb] 28) := ⟨_, rfl⟩
  have hA : Below w.heap.size w w1 := by rw [hw1]; exact (Below.refl _ _).alloc (Nat.le_refl _) _
  have hz1 : w.heap.size < w1.heap.size := by rw [hw1]; simp
  have hN1 : NetIn w1 w.heap.size na nb := by rw [hw1]; exact heap_alloc_last w _
  have H1 := Lib.hid (nodes_Search a n c l na nb w1 ((h.below hA).up (by omega)) hn hg hs gn)
  obtain ⟨t0, t1⟩ := two_cells hN1.own
  clear h hg hs gn hN1
  go_enter Try.func44, Try.ntmps44
  go_wp2_with fail
  rw [← hw1]
  clear hw1
  refine H1.out.mono ?_
  rintro e w2 ⟨⟨k, r, rfl, hp, hr⟩, b2⟩
  have Hp := Lib.hid hp
  have Hr := Lib.hid hr
  have B2 := hA.trans (b2.mono (by omega))
  clear b2 hp hr H1 t0 t1
  go_wp2
  go_ret2
  exact ⟨⟨k, r, rfl, Hp.out, Hr.out⟩, B2⟩

set_option maxRecDepth 20000 in
set_option maxHeartbeats 1600000 in
theorem trie_Get (a : Option Addr) (n c : Nat) (l : List Tr.Node) (na : Nat) (nb : Int) (w : World) (h : NodesAt w w.heap.size a n l) (hf : Tr.fit l) (hn : n ≤ 3518437208780) (ha : na < 4294967296) (b0 : -9223372036854775808 ≤ nb) (b1 : nb ≤ 9223372036854775807) :
    Calls Try.prog 20 #[.slice a n c, .agg #[.int .u32 (na : Int), .int .i64 nb]] w fun e w' => e = .returned (.tuple #[.string (Tr.go (na, nb) l), .int .i64 (Tr.ge (na, nb) l : Int)]) ∧ Below w.heap.size w w' := by
  obtain ⟨w1, hw1⟩ : ∃ w1, w1 = w.alloc (.cells #[.int .u32 (na : Int), .int .i64 nb] 28) := ⟨_, rfl⟩
  have hA : Below w.heap.size w w1 := by rw [hw1]; exact (Below.refl _ _).alloc (Nat.le_refl _) _
  have hz1 : w.heap.size < w1.heap.size := by rw [hw1]; simp
  have hN1 : NetIn w1 w.heap.size na nb := by rw [hw1]; exact heap_alloc_last w _
  have hb1 := two_cells hN1.own
  have hat1 := (h.below hA).up (show w.heap.size ≤ w1.heap.size by omega)
  have H1 := Lib.hid (trie_checkBoth a n c l na nb w1 hat1 hf hn ha b0 b1)
  obtain ⟨t0, t1⟩ := hb1
  by_cases hz : Tr.be (na, nb) l = 0
  · have hfz : Tr.fault l = 0 := by
      unfold Tr.be at hz
      by_cases h0 : Tr.fault l = 0
      · exact h0
      · rw [if_neg h0] at hz; exact hz
    have hez : Nt.err na nb = 0 := by unfold Tr.be at hz; rw [if_pos hfz] at hz; exact hz
    have Hge : Hid (Tr.ge (na, nb) l = if (Tr.getO (na, nb) l).size = 0 then 5 else 0) := Lib.hid (by unfold Tr.ge; rw [if_pos hfz, if_pos hez])
    obtain ⟨hg, _, _, _, hsl, _⟩ := Tr.fault_facts hf hfz
    have H2 := Lib.hid (fun (W : World) (hb : Below w1.heap.size w1 W) => trie_search a n c l na nb W ((hat1.below hb).up hb.size) (by omega) hg hsl ⟨ha, hez⟩)
    have Hat1 := Lib.hid hat1
    have hl := h.1
    have Hsl := Lib.hid hsl
    have HN1 := Lib.hid hN1
    rw [hz] at H1
    clear h hf hz hfz hez hg hsl hat1 hN1
    go_enter Try.func20, Try.ntmps20
    go_wp2_with fail
    rw [← hw1]
    clear hw1
    refine H1.out.mono ?_
    rintro e w2 ⟨rfl, b2⟩
    obtain ⟨u0, u1⟩ := two_cells (HN1.out.below b2).own
    have hsz2 := b2.size
    go_wp2_with fail
    refine (H2.out w2 b2).mono ?_
    rintro e w3 ⟨⟨k, r, rfl, hp, hr⟩, b3⟩
    have b3' := b2.trans (b3.mono hsz2)
    have B3 := hA.trans (b3'.mono (by omega))
    cases r with
    | false =>
      have hno := getO_none (place_none hp Hsl.out (fun h => by have := hr.2 h; cases this))
      have Hr : Hid (Tr.go (na, nb) l = ⟨#[]⟩ ∧ Tr.ge (na, nb) l = 5) := Lib.hid (by
        have e1 : Tr.ge (na, nb) l = 5 := by rw [Hge.out, hno]; rfl
        exact ⟨by unfold Tr.go; rw [e1]; rfl, e1⟩)
      clear hno hp hr H1 H2 b2 b3 b3' t0 t1 u0 u1
      go_wp2
      go_ret2
      exact ⟨by rw [Hr.out.1, Hr.out.2]; rfl, B3⟩
    | true =>
      obtain ⟨hk, he⟩ := hr.1 rfl
      have hgo := getO_mem Hsl.out (List.getElem_mem hk) he
      obtain ⟨b, off, rfl, hbl, hcs⟩ := (Hat1.out.below b3').2 (by omega)
      obtain ⟨_, _, x2, _⟩ := hcs k hk
      have hi1 : (k : Int) < (n : Int) := by omega
      clear hcs hp hr he b2 b3 H1 H2 t0 t1 u0 u1
      generalize l[k] = X at *
      by_cases hx : X.o.size = 0
      · have Hr : Hid (Tr.go (na, nb) l = ⟨#[]⟩ ∧ Tr.ge (na, nb) l = 5) := Lib.hid (by
          have e1 : Tr.ge (na, nb) l = 5 := by rw [Hge.out, hgo, if_pos hx]
          exact ⟨by unfold Tr.go; rw [e1]; rfl, e1⟩)
        rw [empty_of_size hx] at x2
        clear hgo hx
        go_wp2
        go_ret2
        exact ⟨by rw [Hr.out.1, Hr.out.2]; rfl, B3⟩
      · have Hr : Hid (Tr.go (na, nb) l = X.o ∧ Tr.ge (na, nb) l = 0) := Lib.hid (by
          have e1 : Tr.ge (na, nb) l = 0 := by rw [Hge.out, hgo, if_neg hx]
          exact ⟨by unfold Tr.go; rw [if_pos e1, hgo], e1⟩)
        have hse := isEmpty_of_pos (show 0 < X.o.size by omega)
        clear hgo hx
        generalize X.o = O at *
        go_wp2
        go_ret2
        exact ⟨by rw [Hr.out.1, Hr.out.2]; rfl, B3⟩
  · have Hr : Hid (Tr.go (na, nb) l = ⟨#[]⟩ ∧ Tr.ge (na, nb) l = Tr.be (na, nb) l) := Lib.hid (by
      have e1 : Tr.ge (na, nb) l = Tr.be (na, nb) l := by
        unfold Tr.ge Tr.be
        by_cases h0 : Tr.fault l = 0
        · rw [if_pos h0, if_pos h0]
          refine if_neg fun h1 => hz ?_
          unfold Tr.be
          rw [if_pos h0]
          exact h1
        · rw [if_neg h0, if_neg h0]
      exact ⟨by unfold Tr.go; rw [e1, if_neg hz]; rfl, e1⟩)
    have hz' : ((Tr.be (na, nb) l : Int) != 0) = true := by simp; omega
    clear h hf hz hat1 hN1
    generalize Tr.be (na, nb) l = E at *
    go_enter Try.func20, Try.ntmps20
    go_wp2_with fail
    rw [← hw1]
    clear hw1
    refine H1.out.mono ?_
    rintro e w2 ⟨rfl, b2⟩
    have B2 := hA.trans (b2.mono (by omega))
    clear t0 t1 b2 H1
    go_wp2
    go_ret2
    exact ⟨by rw [Hr.out.1, Hr.out.2]; rfl, B2⟩
end Go.Proofs.Ytldfamdjdkaloaa
