/- Chapter 13 in plain words: the trie of a configuration. -/
import Derived.Test.YtjdflnnpamjjcaaGreatDoorSz16
import Derived.Test.YtjdflnnpamjjcaaGreatDoorConfPlain4
import Derived.Test.YtjdflnnpamjjcaaGreatDoorSz11
namespace Go.Proofs.YtjdflnnpamjjcaaGreatDoor
open Go.RowKit

theorem place_none {l : List Tr.Node} {x : Tr.Nw} {k : Nat} (hp : Place l x k) (hs : Tr.sorted l) (h : ¬ ∃ h : k < l.length, Tr.nw l[k] = x) : ∀ n ∈ l, Tr.nw n ≠ x := by
  intro n hn e
  obtain ⟨i, hi, rfl⟩ := List.mem_iff_getElem.1 hn
  by_cases h1 : i < k
  · have := hp.low i h1 hi; rw [e] at this; exact Tr.lt_irrefl _ this
  · rcases Nat.eq_or_lt_of_le (show k ≤ i by omega) with rfl | h2
    · exact h ⟨hi, e⟩
    · have hk : k < l.length := by omega
      have h3 := hp.high k (Nat.le_refl _) hk
      have h4 := Tr.sorted_get hs h2 hi
      rw [e] at h4
      exact h3 h4
theorem owned_mem {l : List Tr.Node} {m : Tr.Node} (h : m ∈ Tr.owned l) : ∃ n ∈ l, 0 < n.o.size ∧ m = { n with s := 1 } := by
  unfold Tr.owned at h
  obtain ⟨n, hn, rfl⟩ := List.mem_map.1 h
  exact ⟨n, (List.mem_filter.1 hn).1, by simpa using (List.mem_filter.1 hn).2, rfl⟩
/-- The owner of exactly a network. -/
def Tr.getO (x : Tr.Nw) (l : List Tr.Node) : ByteArray := Tr.ownerOf x (Tr.owned l)
theorem getO_none {l : List Tr.Node} {x : Tr.Nw} (h : ∀ n ∈ l, Tr.nw n ≠ x) : Tr.getO x l = ByteArray.empty := by
  refine Tr.owner_none (fun m hm => ?_) _
  obtain ⟨n, hn, _, rfl⟩ := owned_mem hm
  exact h n hn
theorem getO_mem {l : List Tr.Node} {x : Tr.Nw} (hs : Tr.sorted l) {n : Tr.Node} (hn : n ∈ l) (e : Tr.nw n = x) : Tr.getO x l = n.o := by
  by_cases h0 : 0 < n.o.size
  · have hm : ({ n with s := 1 } : Tr.Node) ∈ Tr.owned l := by
      unfold Tr.owned
      exact List.mem_map.2 ⟨n, List.mem_filter.2 ⟨hn, by simpa using h0⟩, rfl⟩
    exact Tr.owner_mem (Tr.sorted_once (Tr.owned_sorted hs)) hm e _
  · rw [empty_of_size (show n.o.size = 0 by omega)]
    refine Tr.owner_none (fun m hm hc => ?_) _
    obtain ⟨k, hk, hk0, rfl⟩ := owned_mem hm
    obtain ⟨i, hi, rfl⟩ := List.mem_iff_getElem.1 hn
    obtain ⟨j, hj, rfl⟩ := List.mem_iff_getElem.1 hk
    have hij : i = j := by
      apply Decidable.byContradiction
      intro hne
      rcases Nat.lt_or_gt_of_ne hne with h | h
      · have := Tr.sorted_get hs h hj; rw [e, show Tr.nw l[j] = x from hc] at this; exact Tr.lt_irrefl _ this
      · have := Tr.sorted_get hs h hi; rw [e, show Tr.nw l[j] = x from hc] at this; exact Tr.lt_irrefl _ this
    subst hij
    omega
noncomputable def Tr.ge (x : Tr.Nw) (l : List Tr.Node) : Nat := if Tr.fault l = 0 then (if Nt.err x.1 x.2 = 0 then (if (Tr.getO x l).size = 0 then 5 else 0) else Nt.err x.1 x.2) else Tr.fault l
noncomputable def Tr.go (x : Tr.Nw) (l : List Tr.Node) : ByteArray := if Tr.ge x l = 0 then Tr.getO x l else ByteArray.empty
noncomputable def Tr.be (x : Tr.Nw) (l : List Tr.Node) : Nat := if Tr.fault l = 0 then Nt.err x.1 x.2 else Tr.fault l

set_option maxHeartbeats 800000 in
theorem trie_checkBoth (a : Option Addr) (n c : Nat) (l : List Tr.Node) (na : Nat) (nb : Int) (w : World) (h : NodesAt w w.heap.size a n l) (hf : Tr.fit l) (hn : n ≤ 3518437208780) (ha : na < 4294967296) (b0 : -9223372036854775808 ≤ nb) (b1 : nb ≤ 9223372036854775807) :
    Calls Tryz.prog 35 #[.slice a n c, .agg #[.int .u32 (na : Int), .int .i64 nb]] w fun e w' => e = .returned (.int .i64 (Tr.be (na, nb) l : Int)) ∧ Below w.heap.size w w' := by
  obtain ⟨w1, hw1⟩ : ∃ w1, w1 = w.alloc (.cells #[.int .u32 (na : Int), .int .i64 nb] 47) := ⟨_, rfl⟩
  have hA : Below w.heap.size w w1 := by rw [hw1]; exact (Below.refl _ _).alloc (Nat.le_refl _) _
  have hz1 : w.heap.size < w1.heap.size := by rw [hw1]; simp
  have hN1 : NetIn w1 w.heap.size na nb := by rw [hw1]; exact heap_alloc_last w _
  have H1 := Lib.hid (trie_Check a n c l w1 ((h.below hA).up (by omega)) hf hn)
  have H2 := Lib.hid (fun W => net_Check na nb W ha b0 b1)
  unfold netV at H2
  clear h hf
  by_cases hz : Tr.fault l = 0
  · have Hb : Hid (Tr.be (na, nb) l = Nt.err na nb) := Lib.hid (if_pos hz)
    rw [hz] at H1
    clear hz
    generalize Nt.err na nb = E at *
    go_enter Tryz.func35, Tryz.ntmps35
    go_wp2_with fail
    rw [← hw1]
    clear hw1
    refine H1.out.mono ?_
    rintro e w2 ⟨rfl, b2⟩
    obtain ⟨t0, t1⟩ := two_cells (hN1.below b2).own
    have hsz2 := b2.size
    go_wp2_with fail
    refine (H2.out _).mono ?_
    rintro e w3 ⟨rfl, b3⟩
    have B3 := hA.trans ((b2.trans (b3.mono hsz2)).mono (by omega))
    clear b2 b3 H1 H2 t0 t1
    go_wp2
    go_ret
    exact ⟨by rw [Hb.out]; rfl, B3⟩
  · have Hb : Hid (Tr.be (na, nb) l = Tr.fault l) := Lib.hid (if_neg hz)
    have hz' : ((Tr.fault l : Int) != 0) = true := by simp; omega
    clear hz H2
    generalize Tr.fault l = FF at *
    go_enter Tryz.func35, Tryz.ntmps35
    go_wp2_with fail
    rw [← hw1]
    clear hw1
    refine H1.out.mono ?_
    rintro e w2 ⟨rfl, b2⟩
    have B2 := hA.trans (b2.mono (by omega))
    go_wp2
    go_ret
    exact ⟨by rw [Hb.out]; rfl, B2⟩

set_option maxHeartbeats 800000 in
theorem trie_search (a : Option Addr) (n c : Nat) (l : List Tr.Node) (na : Nat) (nb : Int) (w : World) (h : NodesAt w w.heap.size a n l) (hn : n ≤ 3518437208883) (hg : ∀ x ∈ l, Tr.good (Tr.nw x)) (hs : Tr.sorted l) (gn : Tr.good (na, nb)) :
    Calls Tryz.prog 37 #[.slice a n c, .agg #[.int .u32 (na : Int), .int .i64 nb]] w fun e w' => (∃ (k : Nat) (r : Bool), e = .returned (.tuple #[.int .i64 (k : Int), .bool r]) ∧ Place l (na, nb) k ∧ (r = true ↔ ∃ h : k < l.length, Tr.nw l[k] = (na, nb))) ∧ Below w.heap.size w w' := by
  obtain ⟨w1, hw1⟩ : ∃ w1, w1 = w.alloc (.cells #[.int .u32 (na : Int), .int .i64 nb] 47) := ⟨_, rfl⟩
  have hA : Below w.heap.size w w1 := by rw [hw1]; exact (Below.refl _ _).alloc (Nat.le_refl _) _
  have hz1 : w.heap.size < w1.heap.size := by rw [hw1]; simp
  have hN1 : NetIn w1 w.heap.size na nb := by rw [hw1]; exact heap_alloc_last w _
  have H1 := Lib.hid (nodes_Search a n c l na nb w1 ((h.below hA).up (by omega)) hn hg hs gn)
  obtain ⟨t0, t1⟩ := two_cells hN1.own
  clear h hg hs gn hN1
  go_enter Tryz.func37, Tryz.ntmps37
  go_wp2_with fail
  rw [← hw1]
  clear hw1
  refine H1.out.mono ?_
  rintro e w2 ⟨⟨k, r, rfl, hp, hr⟩, b2⟩
  have Hp := Lib.hid hp
  have Hr := Lib.hid hr
  have B2 := hA.trans (b2.mono (by omega))
  clear b2 hp hr H1 t0 t1
  go_wp2
  go_ret2
  exact ⟨⟨k, r, rfl, Hp.out, Hr.out⟩, B2⟩

end Go.Proofs.YtjdflnnpamjjcaaGreatDoor

namespace Go.Proofs.YtjdflnnpamjjcaaGreatDoor
open Go.RowKit

namespace Tr
/-- The other networks' nodes. -/
def others (x : Nw) (l : List Node) : List Node := (owned l).filter fun y => !decide (nw y = x)
def newN (x : Nw) (o : ByteArray) : Node := ⟨x.1, x.2, o, 1⟩
noncomputable def pe (x : Nw) (o : ByteArray) (l : List Node) : Nat := if be x l = 0 then (if o.size = 0 then 3 else 0) else be x l
noncomputable def putL (x : Nw) (o : ByteArray) (l : List Node) : List Node := if pe x o l = 0 then trie (others x l ++ [newN x o]) else []
theorem be_zero {x : Nw} {l : List Node} (h : be x l = 0) : fault l = 0 ∧ Nt.err x.1 x.2 = 0 := by
  unfold be at h
  by_cases h0 : fault l = 0
  · rw [if_pos h0] at h; exact ⟨h0, h⟩
  · rw [if_neg h0] at h; exact absurd h h0
theorem others_facts {x : Nw} {l : List Node} (hg : ∀ n ∈ owned l, good (nw n)) (hs : sorted (owned l)) : (∀ n ∈ others x l, good (nw n)) ∧ sorted (others x l) ∧ single (others x l) ∧ (others x l).length ≤ (owned l).length ∧ (∀ n ∈ others x l, nw n ≠ x) := by
  refine ⟨fun n hn => hg n (List.mem_filter.1 hn).1, List.Pairwise.filter _ hs, fun n hn => owned_single l n (List.mem_filter.1 hn).1, List.length_filter_le _ _, fun n hn => ?_⟩
  simpa using (List.mem_filter.1 hn).2
theorem new_good {x : Nw} {o : ByteArray} {l : List Node} (hx : good x) (hg : ∀ n ∈ l, good (nw n)) : ∀ n ∈ l ++ [newN x o], good (nw n) := by
  intro n hn
  rcases List.mem_append.1 hn with h | h
  · exact hg n h
  · obtain rfl : n = newN x o := by simpa using h
    exact hx
/-- A sorted list with the new node in its place. -/
theorem put_perm {A C : List Node} {x : Nw} {o : ByteArray} (hs : sorted (A ++ newN x o :: C)) (hg : ∀ n ∈ A ++ newN x o :: C, good (nw n)) : trie (A ++ newN x o :: C) = trie (A ++ C ++ [newN x o]) := by
  refine grown_perm 33 ?_ (sorted_once hs) hg
  refine List.perm_middle.trans ?_
  exact (List.perm_append_singleton (newN x o) (A ++ C)).symm
end Tr
end Go.Proofs.YtjdflnnpamjjcaaGreatDoor

namespace Go.Proofs.YtjdflnnpamjjcaaGreatDoor
open Go.RowKit

namespace Tr
/-- The trie of networks that stand once, each alone and with an owner, is without fault. -/
theorem trie_fault {l : List Node} (hg : ∀ n ∈ l, good (nw n)) (ho : once l) (h1 : single l) : fault (trie l) = 0 ∧ (owned (trie l)).Perm l := by
  have hp := owned_grown 33 l hg ho h1 deep
  refine ⟨fault_ok (errs_zero.2 fun n hn => (grown_good 33 l hg n hn).2) ⟨once_perm hp.symm ho, ?_⟩, hp⟩
  exact grown_perm 33 hp (once_perm hp.symm ho) (owned_good (grown_good 33 l hg))
theorem trie_nil : trie [] = [] := by simp [trie, grown]
theorem fault_nil : fault [] = 0 := by
  have h := (trie_fault (l := []) (by simp) List.Pairwise.nil (fun n hn => by cases hn)).1
  rwa [trie_nil] at h
theorem fit_nil : fit [] := fun _ h => by cases h
theorem put_once {x : Nw} {o : ByteArray} {l : List Node} (hs : sorted (owned l)) : once (others x l ++ [newN x o]) := by
  refine List.pairwise_append.2 ⟨sorted_once (List.Pairwise.filter _ hs), List.pairwise_singleton _ _, fun n hn m hm => ?_⟩
  obtain rfl : m = newN x o := by simpa using hm
  have h2 : ¬ nw n = x := by simpa using (List.mem_filter.1 hn).2
  exact h2
theorem put_single {x : Nw} {o : ByteArray} {l : List Node} (ho : 0 < o.size) : single (others x l ++ [newN x o]) := by
  intro n hn
  rcases List.mem_append.1 hn with hn | hn
  · exact owned_single l n (List.mem_filter.1 hn).1
  · obtain rfl : n = newN x o := by simpa using hn
    exact ⟨ho, rfl⟩
/-- Put into a trie, of a network and an owner: a trie. -/
theorem put_fits {x : Nw} {o : ByteArray} {l : List Node} (hf : fit l) (hl : fault l = 0) (hx : good x) (ho : 0 < o.size) :
    pe x o l = 0 ∧ putL x o l = trie (others x l ++ [newN x o]) ∧ fault (putL x o l) = 0 ∧ (owned (putL x o l)).Perm (others x l ++ [newN x o]) ∧ fit (putL x o l) := by
  obtain ⟨_, hg, hso, _, _⟩ := fault_facts hf hl
  obtain ⟨og, _, _, _, _⟩ := others_facts (x := x) hg hso
  have hbe : be x l = 0 := by unfold be; rw [if_pos hl]; exact hx.2
  have hpe : pe x o l = 0 := by unfold pe; rw [if_pos hbe, if_neg (by omega)]
  have hpu : putL x o l = trie (others x l ++ [newN x o]) := if_pos hpe
  have hgn := new_good (o := o) hx og
  obtain ⟨h1, h2⟩ := trie_fault hgn (put_once hso) (put_single ho)
  rw [hpu]
  refine ⟨hpe, rfl, h1, h2, fun n hn => ?_⟩
  have g := grown_good 33 _ hgn n hn
  obtain ⟨b0, b1, _⟩ := Nt.err_zero g.2
  change 0 ≤ n.b at b0
  change n.b ≤ 32 at b1
  exact ⟨g.1, by omega, by omega⟩
end Tr
end Go.Proofs.YtjdflnnpamjjcaaGreatDoor

namespace Go.Proofs.YtjdflnnpamjjcaaGreatDoor.Cf

/-- A network with its owner, alone. -/
def nodeOf (k : ByteArray) (n : Nat × Int) : Tr.Node := ⟨n.1, n.2, k, 1⟩
def allNodes (ps : List P) : List Tr.Node := ps.flatMap fun p => p.ns.map (nodeOf p.k)
theorem all_next (ps : List P) (i : Nat) (h : i < ps.length) : allNodes (ps.take (i + 1)) = allNodes (ps.take i) ++ ps[i].ns.map (nodeOf ps[i].k) := by
  unfold allNodes
  rw [List.take_succ_eq_append_getElem h, List.flatMap_append]
  simp
theorem peers_ok (key : ByteArray) : ∀ (l : List P) (last : ByteArray) (met : List (Nat × Int)), peersErr key last met l = 0 → ∀ p ∈ l, right p = 0
  | [], _, _, _ => by simp
  | p :: r, last, met, h => by
    unfold peersErr at h
    by_cases hr : right p = 0
    · rw [if_neg (fun hn => hn hr)] at h
      split at h
      · cases h
      · split at h
        · cases h
        · intro x hx
          rcases List.mem_cons.1 hx with rfl | hx
          · exact hr
          · exact peers_ok key r _ _ h x hx
    · rw [if_pos hr] at h
      exact absurd h hr
theorem conf_ok {x : C} (h : err x = 0) : x.ps.length ≤ 6 ∧ ∀ p ∈ x.ps, right p = 0 := by
  unfold err at h
  split at h
  · rename_i g; exact absurd h g.2
  · split at h
    · cases h
    · split at h
      · cases h
      · exact ⟨by omega, peers_ok _ _ _ _ h⟩
theorem all_small {l : List P} (h : ∀ p ∈ l, p.ns.length ≤ 8) : (allNodes l).length ≤ 8 * l.length := by
  unfold allNodes
  induction l with
  | nil => simp
  | cons p r ih =>
    rw [List.flatMap_cons, List.length_append, List.length_map, List.length_cons]
    have h1 := h p (by simp)
    have h2 := ih (fun x hx => h x (by simp [hx]))
    omega
/-- The trie of a configuration that is right. -/
def treeOut (x : C) : List Tr.Node := if err x = 0 then Tr.grown 33 (allNodes x.ps) else []
end Go.Proofs.YtjdflnnpamjjcaaGreatDoor.Cf
