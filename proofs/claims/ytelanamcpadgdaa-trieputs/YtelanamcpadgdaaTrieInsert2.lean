/- slices.Insert of one node into a row of nodes, not at the end. -/
import Derived.Test.YtelanamcpadgdaaTrieInsert
namespace Go.Proofs.Ytelanamcpadgdaa
open Go.RowKit

theorem nodesC_drop_get {S : List Tr.Node} {k j : Nat} {u : Value} (hk : k ≤ S.length) (h : (Tr.nodesC (S.drop k))[j]? = some u) : (Tr.nodesC S)[k * 4 + j]? = some u := by
  have e : Tr.nodesC S = Tr.nodesC (S.take k) ++ Tr.nodesC (S.drop k) := by rw [← Tr.nodesC_append, List.take_append_drop]
  rw [e, List.getElem?_append_right (by rw [Tr.nodesC_length, List.length_take]; omega), Tr.nodesC_length, List.length_take, show k * 4 + j - min k S.length * 4 = j by rw [Nat.min_eq_left hk]; omega]
  exact h
/-- What two copies make of a row with room: the new node in its place. -/
theorem two_splices (S : List Tr.Node) (k : Nat) (hk : k ≤ S.length) (nd : Tr.Node) (X : List Value) (hX : 4 ≤ X.length) :
    ((((Tr.nodesC S ++ X).take ((k + 1) * 4) ++ Tr.nodesC (S.drop k) ++ (Tr.nodesC S ++ X).drop ((k + 1) * 4 + (Tr.nodesC (S.drop k)).length)).take (k * 4) ++ Tr.nodeC nd ++ ((Tr.nodesC S ++ X).take ((k + 1) * 4) ++ Tr.nodesC (S.drop k) ++ (Tr.nodesC S ++ X).drop ((k + 1) * 4 + (Tr.nodesC (S.drop k)).length)).drop (k * 4 + (Tr.nodeC nd).length))) = Tr.nodesC (S.take k ++ nd :: S.drop k) ++ X.drop 4 := by
  have hA : (Tr.nodesC (S.take k)).length = k * 4 := by rw [Tr.nodesC_length, List.length_take, Nat.min_eq_left hk]
  have hD : (Tr.nodesC (S.drop k)).length = (S.length - k) * 4 := by rw [Tr.nodesC_length, List.length_drop]
  have e : Tr.nodesC S = Tr.nodesC (S.take k) ++ Tr.nodesC (S.drop k) := by rw [← Tr.nodesC_append, List.take_append_drop]
  have hl : (Tr.nodesC S ++ X).length = S.length * 4 + X.length := by rw [List.length_append, Tr.nodesC_length]
  have ht : ((Tr.nodesC S ++ X).take ((k + 1) * 4)).length = (k + 1) * 4 := by rw [List.length_take, hl]; omega
  have t1 : ((Tr.nodesC S ++ X).take ((k + 1) * 4) ++ Tr.nodesC (S.drop k) ++ (Tr.nodesC S ++ X).drop ((k + 1) * 4 + (Tr.nodesC (S.drop k)).length)).take (k * 4) = Tr.nodesC (S.take k) := by
    rw [List.append_assoc, List.take_append_of_le_length (by rw [ht]; omega), List.take_take, Nat.min_eq_left (by omega), e, List.append_assoc, List.take_append_of_le_length (by rw [hA]; exact Nat.le_refl _), ← hA, List.take_length]
  have t2 : ((Tr.nodesC S ++ X).take ((k + 1) * 4) ++ Tr.nodesC (S.drop k) ++ (Tr.nodesC S ++ X).drop ((k + 1) * 4 + (Tr.nodesC (S.drop k)).length)).drop (k * 4 + (Tr.nodeC nd).length) = Tr.nodesC (S.drop k) ++ X.drop 4 := by
    rw [show k * 4 + (Tr.nodeC nd).length = ((Tr.nodesC S ++ X).take ((k + 1) * 4)).length by rw [ht]; show k * 4 + 4 = _; omega, List.append_assoc, List.drop_left']
    · congr 1
      rw [hD, show (k + 1) * 4 + (S.length - k) * 4 = (Tr.nodesC S).length + 4 by rw [Tr.nodesC_length]; omega, ← List.drop_drop, List.drop_left']
      rfl
    · rfl
  rw [t1, t2, Tr.nodesC_append, nodesC_cons]
  simp only [List.append_assoc]

set_option maxRecDepth 20000 in
set_option maxHeartbeats 3200000 in
/-- There is room. -/
theorem nodes_Insert_room (g c : Nat) (S : List Tr.Node) (k gv : Nat) (nd : Tr.Node) (w : World) (B : Nat) (X : List Value) (hg : w.heap[g]? = some (.cells (Tr.nodesC S ++ X).toArray 56 (0, 0))) (hX : X.length = (c - S.length) * 4) (hBg : B ≤ g) (hB : B ≤ w.heap.size) (hm : c ≤ maxLen) (hk : k < S.length) (hroom : S.length + 1 ≤ c) (hn : S.length + 1 ≤ 3518437208883) (hnd : NodeIn w gv nd) (hap : gv ≠ g) :
    Calls Try.prog 45 #[.slice (some ⟨g, 0, none⟩) S.length c, .int .i64 (k : Int), .slice (some ⟨gv, 0, none⟩) 1 1] w fun e w' => ∃ v', e = .returned v' ∧ OwnN w' B v' (S.take k ++ nd :: S.drop k) ∧ Below B w w' := by
  have hvv : w.heap[gv]? = some (.cells (Tr.nodeC nd).toArray 56 (0, 0)) := hnd
  have hov := fun la ca lb cb o => run_overlaps_nodes w g gv la ca lb cb o _ _ hvv hg hap (by rw [List.size_toArray, List.length_append, Tr.nodesC_length]; omega)
  -- the copies
  have hD : (Tr.nodesC (S.drop k)).length = (S.length - k) * 4 := by rw [Tr.nodesC_length, List.length_drop]
  have hL : (Tr.nodesC S ++ X).length = S.length * 4 + X.length := by rw [List.length_append, Tr.nodesC_length]
  obtain ⟨wd, hwd⟩ : ∃ wd, wd = w.drew := ⟨_, rfl⟩
  have hgd : wd.heap[g]? = some (.cells (Tr.nodesC S ++ X).toArray 56 (0, 0)) := by rw [hwd]; exact hg
  have hvd : wd.heap[gv]? = some (.cells (Tr.nodeC nd).toArray 56 (0, 0)) := by rw [hwd]; exact hvv
  obtain ⟨W1, hc1, hh1, hgr1⟩ := run_copy_nodes wd g ((k + 1) * 4) (S.length - k) (c - (k + 1)) ⟨g, k * 4, none⟩ (S.length + 1 - k) (c - k) (Tr.nodesC S ++ X) (Tr.nodesC (S.drop k)) hgd (by rw [hD]; congr 1; simp only [Nat.min_def]; split <;> omega)
    (fun j v hj => by
      rw [Addr.add_lit, block_cell hgd, List.getElem?_append_left (by have := (List.getElem?_eq_some_iff.1 hj).1; rw [hD] at this; rw [Tr.nodesC_length]; omega)]
      exact nodesC_drop_get (by omega) hj) (by rw [hD, hL, hX]; omega) (Tr.nodesC_one _)
  have hv1 : W1.heap[gv]? = some (.cells (Tr.nodeC nd).toArray 56 (0, 0)) := by
    have hlt : gv < wd.heap.size := by have := hnd.lt; rw [hwd]; exact this
    exact (hgr1.block gv hlt (fun e => hap (by injection e))).trans hvd
  obtain ⟨W2, hc2, hh2, hgr2⟩ := run_copy_nodes W1 g (k * 4) (S.length + 1 - k) (c - k) ⟨gv, 0, none⟩ 1 1 _ (Tr.nodeC nd) hh1 (by show 4 = Nat.min 1 (S.length + 1 - k) * 4; simp only [Nat.min_def]; split <;> omega)
    (fun j v hj => by rw [Addr.add_lit, block_cell hv1, Nat.zero_add]; exact hj) (by
      rw [List.length_append, List.length_append, List.length_take, List.length_drop, hD, hL]
      show k * 4 + 4 ≤ _
      omega) (by
      intro v hv
      simp only [Tr.nodeC, List.mem_cons, List.not_mem_nil, or_false] at hv
      rcases hv with rfl | rfl | rfl | rfl <;> rfl)
  rw [two_splices S k (by omega) nd X (by rw [hX]; omega)] at hh2
  have hlen : (S.take k ++ nd :: S.drop k).length = S.length + 1 := by rw [List.length_append, List.length_cons, List.length_take, List.length_drop]; omega
  have hOwn := own_of_block (B := B) (c := c) (l := S.take k ++ nd :: S.drop k) hh2 (by rw [List.length_drop, hX, hlen]; omega) (by omega) hm hBg
  rw [hlen] at hOwn
  have HOwn := Lib.hid hOwn
  have hgr := hgr1.trans hgr2
  have HBel : Hid (Below B w W2) := Lib.hid ((show Below B w wd by rw [hwd]; exact (Below.refl _ _).drew).trans (below_of_grown hgr (by rw [hwd]; exact hB) (fun q hq => by injection hq with hq; omega)))
  have hmin1 : Nat.min (S.length + 1 - k) (S.length - k) = S.length - k := by simp only [Nat.min_def]; split <;> omega
  have hmin2 : Nat.min 1 (S.length + 1 - k) = 1 := by simp only [Nat.min_def]; split <;> omega
  rw [hmin1] at hc1
  rw [hmin2] at hc2
  clear hg hX hnd hgd hvd hvv hh1 hv1 hh2 hgr1 hgr2 hgr hD hL hOwn hlen hmin1 hmin2
  unfold maxLen at hm
  generalize S.length = n at *
  have hz2 : ((k : Int) == (n : Int)) = false := beq_eq_false_iff_ne.2 (by omega)
  have hz3 : decide ((c : Int) < (n : Int) + 1) = false := decide_eq_false (by omega)
  have hw1 : IntKind.i64.wrap ((n : Int) + 1) = (n : Int) + 1 := IntWalk.i64_in _ (by omega)
  have hw2 : IntKind.i64.wrap ((k : Int) + 1) = (k : Int) + 1 := IntWalk.i64_in _ (by omega)
  have hck : ¬ c - k = 0 := by omega
  have hck1 : ¬ c - (k + 1) = 0 := by omega
  have i1 : (k : Int) ≤ (n : Int) := by omega
  have i2 : (n : Int) + 1 ≤ (c : Int) := by omega
  have i3 : (k : Int) + 1 ≤ (n : Int) + 1 := by omega
  have i4 : ((k : Int) + 1).toNat = k + 1 := by omega
  have i5 : ((n : Int) + 1).toNat = n + 1 := by omega
  have i6 : (n + 1) - (k + 1) = n - k := by omega
  have i7 : (0 : Int) ≤ (k : Int) + 1 := by omega
  have i8 : (k : Int) ≤ (n : Int) + 1 := by omega
  have i9 : (0 : Int) ≤ (k : Int) := by omega
  go_enter Try.func45, Try.ntmps45
  go_wp2_with fail
  go_still_tail 8, (by kernel_rfl)
  change wpList _ _ _ _ _ w.drew
  rw [← hwd]
  clear hwd
  go_wp2
  go_ret
  exact ⟨_, rfl, HOwn.out, HBel.out⟩
end Go.Proofs.Ytelanamcpadgdaa
