/- The walk of the law TriePuts. -/
import Derived.Test.YtelanamcpadgdaaTriePut2
namespace Go.Proofs.Ytelanamcpadgdaa
open Go.RowKit

theorem putL_len {x : Tr.Nw} {o : ByteArray} {l : List Tr.Node} (hf : Tr.fit l) (hx : x.1 < 4294967296) : (Tr.putL x o l).length ≤ 3518437208883 := by
  unfold Tr.putL
  split
  · next hz =>
    have hbe : Tr.be x l = 0 := by
      unfold Tr.pe at hz
      by_cases h0 : Tr.be x l = 0
      · exact h0
      · rw [if_neg h0] at hz; exact hz
    obtain ⟨hfz, hez⟩ := Tr.be_zero hbe
    obtain ⟨_, hg, hso, hol, _⟩ := Tr.fault_facts hf hfz
    obtain ⟨og, _, _, ol, _⟩ := Tr.others_facts (x := x) hg hso
    have h1 := Tr.grown_two 33 (Tr.others x l ++ [Tr.newN x o]) (Tr.new_good ⟨hx, hez⟩ og)
    refine Nat.le_trans h1 ?_
    rw [List.length_append, List.length_singleton]
    omega
  · simp
set_option maxRecDepth 20000 in
set_option maxHeartbeats 1600000 in
theorem triePuts_walk (a : Option Addr) (n c : Nat) (l : List Tr.Node) (na : Nat) (nb : Int) (o : ByteArray) (w : World) (h : NodesAt w w.heap.size a n l) (_hc : n ≤ c) (hf : Tr.fit l) (hn : n ≤ 3518437208780) (ha : na < 4294967296) (b0 : -9223372036854775808 ≤ nb) (b1 : nb ≤ 9223372036854775807) (_ho : o.size ≤ reachBytes) :
    Calls Try.prog 4 #[.slice a n c, netV na nb, .string o] w fun e w' => e = .returned (.bool true) ∧ Below w.heap.size w w' := by
  unfold netV
  obtain ⟨w1, hw1⟩ : ∃ w1, w1 = w.alloc (.cells #[.int .u32 (na : Int), .int .i64 nb] 28) := ⟨_, rfl⟩
  have hA : Below w.heap.size w w1 := by rw [hw1]; exact (Below.refl _ _).alloc (Nat.le_refl _) _
  have hz1 : w.heap.size < w1.heap.size := by rw [hw1]; simp
  have hN1 : NetIn w1 w.heap.size na nb := by rw [hw1]; exact heap_alloc_last w _
  have hat1 := (h.below hA).up (show w.heap.size ≤ w1.heap.size by omega)
  have H1 := Lib.hid (trie_Put a n c l na nb o w1 hat1 hf hn ha b0 b1)
  have H2 := Lib.hid (fun (W : World) (hb : Below w1.heap.size w1 W) => ref_TriePut a n c l na nb o W ((hat1.below hb).up hb.size) hf hn ha)
  have hal := putL_len (x := (na, nb)) (o := o) hf ha
  have HN := Lib.hid hN1
  obtain ⟨t0, t1⟩ := two_cells hN1.own
  clear h hf hat1 hN1 _ho
  generalize Tr.pe (na, nb) o l = E at *
  generalize Tr.putL (na, nb) o l = A at *
  go_enter Try.func4, Try.ntmps4
  go_wp2_with fail
  rw [← hw1]
  clear hw1
  refine H1.out.mono ?_
  rintro e w3 ⟨⟨v3, rfl, o3⟩, B3⟩
  obtain ⟨u0, u1⟩ := two_cells (HN.out.below B3).own
  clear t0 t1
  go_wp2_with fail
  refine (H2.out w3 B3).mono ?_
  rintro e w5 ⟨⟨v5, rfl, o5⟩, b5⟩
  have B5 := hA.trans ((B3.trans (b5.mono B3.size)).mono (by omega))
  have o3' := o3.below b5
  obtain ⟨a3, c3, rfl, _, at3⟩ := o3'.at
  obtain ⟨a5, c5, rfl, _, at5⟩ := o5.at
  have HE := Lib.hid (law_sameNodes a3 a5 _ _ c3 c5 A A w5 at3 at5 (by omega))
  have hsz5 := B5.size
  clear b5 B3 o3 o5 o3' at3 at5 H1 H2 u0 u1
  go_wp2_with fail
  refine HE.out.mono ?_
  rintro e w6 ⟨r6, rfl, hr6, b6⟩
  obtain rfl : r6 = true := by first | exact hr6.2 rfl | exact hr6.2 trivial | simpa using hr6
  have B6 := B5.trans (b6.mono hsz5)
  clear hr6 b6 B5 HE
  go_wp2
  go_ret
  exact ⟨by simp, B6⟩
end Go.Proofs.Ytelanamcpadgdaa
