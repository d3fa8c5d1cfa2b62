/- What Put gives is a trie again: its error is none, its networks are those that were there and the new one. -/
import Derived.Test.YtldfamdjdkaloaaTriePut1
namespace Go.Proofs.Ytldfamdjdkaloaa
open Go.RowKit

namespace Tr
/-- The trie of networks that stand once, each alone and with an owner, is without fault. -/
theorem trie_fault {l : List Node} (hg : ∀ n ∈ l, good (nw n)) (ho : once l) (h1 : single l) : fault (trie l) = 0 ∧ (owned (trie l)).Perm l := by
  have hp := owned_grown 33 l hg ho h1 deep
  refine ⟨fault_ok (errs_zero.2 fun n hn => (grown_good 33 l hg n hn).2) ⟨once_perm hp.symm ho, ?_⟩, hp⟩
  exact grown_perm 33 hp (once_perm hp.symm ho) (owned_good (grown_good 33 l hg))
theorem put_once {x : Nw} {o : ByteArray} {l : List Node} (hs : sorted (owned l)) : once (others x l ++ [newN x o]) := by
  refine List.pairwise_append.2 ⟨sorted_once (List.Pairwise.filter _ hs), List.pairwise_singleton _ _, fun n hn m hm => ?_⟩
  obtain rfl : m = newN x o := by simpa using hm
  have h2 : ¬ nw n = x := by simpa using (List.mem_filter.1 hn).2
  exact h2
theorem put_single {x : Nw} {o : ByteArray} {l : List Node} (ho : 0 < o.size) : single (others x l ++ [newN x o]) := by
  intro n hn
  rcases List.mem_append.1 hn with hn | hn
  · exact owned_single l n (List.mem_filter.1 hn).1
  · obtain rfl : n = newN x o := by simpa using hn
    exact ⟨ho, rfl⟩
/-- Put into a trie, of a network and an owner: a trie. -/
theorem put_fits {x : Nw} {o : ByteArray} {l : List Node} (hf : fit l) (hl : fault l = 0) (hx : good x) (ho : 0 < o.size) :
    pe x o l = 0 ∧ putL x o l = trie (others x l ++ [newN x o]) ∧ fault (putL x o l) = 0 ∧ (owned (putL x o l)).Perm (others x l ++ [newN x o]) ∧ fit (putL x o l) := by
  obtain ⟨_, hg, hso, _, _⟩ := fault_facts hf hl
  obtain ⟨og, _, _, _, _⟩ := others_facts (x := x) hg hso
  have hbe : be x l = 0 := by unfold be; rw [if_pos hl]; exact hx.2
  have hpe : pe x o l = 0 := by unfold pe; rw [if_pos hbe, if_neg (by omega)]
  have hpu : putL x o l = trie (others x l ++ [newN x o]) := if_pos hpe
  have hgn := new_good (o := o) hx og
  obtain ⟨h1, h2⟩ := trie_fault hgn (put_once hso) (put_single ho)
  rw [hpu]
  refine ⟨hpe, rfl, h1, h2, fun n hn => ?_⟩
  have g := grown_good 33 _ hgn n hn
  obtain ⟨b0, b1, _⟩ := Nt.err_zero g.2
  change 0 ≤ n.b at b0
  change n.b ≤ 32 at b1
  exact ⟨g.1, by omega, by omega⟩
end Tr
end Go.Proofs.Ytldfamdjdkaloaa
