/- The walk of the law TrieDrops. -/
import Derived.Test.YtelanamcpadgdaaTrieCode9
import Derived.Test.YtelanamcpadgdaaTrieLaw2
namespace Go.Proofs.Ytelanamcpadgdaa
open Go.RowKit

theorem dropO_len {o : ByteArray} {l : List Tr.Node} (hf : Tr.fit l) : (Tr.dropO o l).length ≤ 3518437208883 := by
  unfold Tr.dropO
  split
  · next hz =>
    obtain ⟨_, hg, _, hol, _⟩ := Tr.fault_facts hf hz
    have h1 := Tr.grown_two 33 ((Tr.owned l).filter fun x => !decide (x.o = o)) (fun x hx => hg x (List.mem_filter.1 hx).1)
    have h2 : ((Tr.owned l).filter fun x => !decide (x.o = o)).length ≤ (Tr.owned l).length := List.length_filter_le _ _
    refine Nat.le_trans h1 ?_
    omega
  · simp
set_option maxRecDepth 20000 in
set_option maxHeartbeats 1600000 in
theorem trieDrops_walk (a : Option Addr) (n c : Nat) (l : List Tr.Node) (o : ByteArray) (w : World) (h : NodesAt w w.heap.size a n l) (_hc : n ≤ c) (hf : Tr.fit l) (hn : n ≤ 3518437208780) (_ho : o.size ≤ reachBytes) :
    Calls Try.prog 6 #[.slice a n c, .string o] w fun e w' => e = .returned (.bool true) ∧ Below w.heap.size w w' := by
  have H1 := Lib.hid (trie_DropOwner a n c l o w h hf hn)
  have H2 := Lib.hid (fun (W : World) (hb : Below w.heap.size w W) => ref_DropOwner a n c l o W ((h.below hb).up hb.size) hf hn)
  have hal := dropO_len (o := o) hf
  clear h hf
  generalize Tr.fault l = F at *
  generalize Tr.dropO o l = A at *
  go_enter Try.func6, Try.ntmps6
  go_wp2_with fail
  refine H1.out.mono ?_
  rintro e w3 ⟨⟨v3, rfl, o3⟩, B3⟩
  go_wp2_with fail
  refine (H2.out w3 B3).mono ?_
  rintro e w5 ⟨⟨v5, rfl, o5⟩, b5⟩
  have B5 := B3.trans (b5.mono B3.size)
  have o3' := o3.below b5
  obtain ⟨a3, c3, rfl, _, at3⟩ := o3'.at
  obtain ⟨a5, c5, rfl, _, at5⟩ := o5.at
  have HE := Lib.hid (law_sameNodes a3 a5 _ _ c3 c5 A A w5 at3 at5 (by omega))
  clear b5 B3 o3 o5 o3' at3 at5 H1 H2
  go_wp2_with fail
  refine HE.out.mono ?_
  rintro e w6 ⟨r6, rfl, hr6, b6⟩
  obtain rfl : r6 = true := by first | exact hr6.2 rfl | exact hr6.2 trivial | simpa using hr6
  have B6 := B5.trans (b6.mono B5.size)
  clear hr6 b6 B5 HE
  go_wp2
  go_ret
  exact ⟨by simp, B6⟩
end Go.Proofs.Ytelanamcpadgdaa
