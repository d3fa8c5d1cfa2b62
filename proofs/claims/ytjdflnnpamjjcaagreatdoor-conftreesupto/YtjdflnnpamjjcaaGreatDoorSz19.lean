/- The contract of the landed code's Tree (P13.5). -/
import Derived.Test.YtjdflnnpamjjcaaGreatDoorSz18
import Derived.Lib.AppendZeros
import Derived.Test.YtjdflnnpamjjcaaGreatDoorSz17
import Derived.Test.YtjdflnnpamjjcaaGreatDoorSz05
namespace Go.Proofs.YtjdflnnpamjjcaaGreatDoor
open Go.RowKit

theorem nodesC_drop_get {S : List Tr.Node} {k j : Nat} {u : Value} (hk : k ≤ S.length) (h : (Tr.nodesC (S.drop k))[j]? = some u) : (Tr.nodesC S)[k * 4 + j]? = some u := by
  have e : Tr.nodesC S = Tr.nodesC (S.take k) ++ Tr.nodesC (S.drop k) := by rw [← Tr.nodesC_append, List.take_append_drop]
  rw [e, List.getElem?_append_right (by rw [Tr.nodesC_length, List.length_take]; omega), Tr.nodesC_length, List.length_take, show k * 4 + j - min k S.length * 4 = j by rw [Nat.min_eq_left hk]; omega]
  exact h
/-- What two copies make of a row with room: the new node in its place. -/
theorem two_splices (S : List Tr.Node) (k : Nat) (hk : k ≤ S.length) (nd : Tr.Node) (X : List Value) (hX : 4 ≤ X.length) :
    ((((Tr.nodesC S ++ X).take ((k + 1) * 4) ++ Tr.nodesC (S.drop k) ++ (Tr.nodesC S ++ X).drop ((k + 1) * 4 + (Tr.nodesC (S.drop k)).length)).take (k * 4) ++ Tr.nodeC nd ++ ((Tr.nodesC S ++ X).take ((k + 1) * 4) ++ Tr.nodesC (S.drop k) ++ (Tr.nodesC S ++ X).drop ((k + 1) * 4 + (Tr.nodesC (S.drop k)).length)).drop (k * 4 + (Tr.nodeC nd).length))) = Tr.nodesC (S.take k ++ nd :: S.drop k) ++ X.drop 4 := by
  have hA : (Tr.nodesC (S.take k)).length = k * 4 := by rw [Tr.nodesC_length, List.length_take, Nat.min_eq_left hk]
  have hD : (Tr.nodesC (S.drop k)).length = (S.length - k) * 4 := by rw [Tr.nodesC_length, List.length_drop]
  have e : Tr.nodesC S = Tr.nodesC (S.take k) ++ Tr.nodesC (S.drop k) := by rw [← Tr.nodesC_append, List.take_append_drop]
  have hl : (Tr.nodesC S ++ X).length = S.length * 4 + X.length := by rw [List.length_append, Tr.nodesC_length]
  have ht : ((Tr.nodesC S ++ X).take ((k + 1) * 4)).length = (k + 1) * 4 := by rw [List.length_take, hl]; omega
  have t1 : ((Tr.nodesC S ++ X).take ((k + 1) * 4) ++ Tr.nodesC (S.drop k) ++ (Tr.nodesC S ++ X).drop ((k + 1) * 4 + (Tr.nodesC (S.drop k)).length)).take (k * 4) = Tr.nodesC (S.take k) := by
    rw [List.append_assoc, List.take_append_of_le_length (by rw [ht]; omega), List.take_take, Nat.min_eq_left (by omega), e, List.append_assoc, List.take_append_of_le_length (by rw [hA]; exact Nat.le_refl _), ← hA, List.take_length]
  have t2 : ((Tr.nodesC S ++ X).take ((k + 1) * 4) ++ Tr.nodesC (S.drop k) ++ (Tr.nodesC S ++ X).drop ((k + 1) * 4 + (Tr.nodesC (S.drop k)).length)).drop (k * 4 + (Tr.nodeC nd).length) = Tr.nodesC (S.drop k) ++ X.drop 4 := by
    rw [show k * 4 + (Tr.nodeC nd).length = ((Tr.nodesC S ++ X).take ((k + 1) * 4)).length by rw [ht]; show k * 4 + 4 = _; omega, List.append_assoc, List.drop_left']
    · congr 1
      rw [hD, show (k + 1) * 4 + (S.length - k) * 4 = (Tr.nodesC S).length + 4 by rw [Tr.nodesC_length]; omega, ← List.drop_drop, List.drop_left']
      rfl
    · rfl
  rw [t1, t2, Tr.nodesC_append, nodesC_cons]
  simp only [List.append_assoc]

set_option maxRecDepth 20000 in
set_option maxHeartbeats 3200000 in
/-- There is room. -/
theorem nodes_Insert_room (g c : Nat) (S : List Tr.Node) (k gv : Nat) (nd : Tr.Node) (w : World) (B : Nat) (X : List Value) (hg : w.heap[g]? = some (.cells (Tr.nodesC S ++ X).toArray 53 (0, 0))) (hX : X.length = (c - S.length) * 4) (hBg : B ≤ g) (hB : B ≤ w.heap.size) (hm : c ≤ maxLen) (hk : k < S.length) (hroom : S.length + 1 ≤ c) (hn : S.length + 1 ≤ 3518437208883) (hnd : NodeIn w gv nd) (hap : gv ≠ g) :
    Calls Tryz.prog 38 #[.slice (some ⟨g, 0, none⟩) S.length c, .int .i64 (k : Int), .slice (some ⟨gv, 0, none⟩) 1 1] w fun e w' => ∃ v', e = .returned v' ∧ OwnN w' B v' (S.take k ++ nd :: S.drop k) ∧ Below B w w' := by
  have hvv : w.heap[gv]? = some (.cells (Tr.nodeC nd).toArray 53 (0, 0)) := hnd
  have hov := fun la ca lb cb o => run_overlaps_nodes w g gv la ca lb cb o _ _ hvv hg hap (by rw [List.size_toArray, List.length_append, Tr.nodesC_length]; omega)
  -- the copies
  have hD : (Tr.nodesC (S.drop k)).length = (S.length - k) * 4 := by rw [Tr.nodesC_length, List.length_drop]
  have hL : (Tr.nodesC S ++ X).length = S.length * 4 + X.length := by rw [List.length_append, Tr.nodesC_length]
  obtain ⟨wd, hwd⟩ : ∃ wd, wd = w.drew := ⟨_, rfl⟩
  have hgd : wd.heap[g]? = some (.cells (Tr.nodesC S ++ X).toArray 53 (0, 0)) := by rw [hwd]; exact hg
  have hvd : wd.heap[gv]? = some (.cells (Tr.nodeC nd).toArray 53 (0, 0)) := by rw [hwd]; exact hvv
  obtain ⟨W1, hc1, hh1, hgr1⟩ := run_copy_nodes wd g ((k + 1) * 4) (S.length - k) (c - (k + 1)) ⟨g, k * 4, none⟩ (S.length + 1 - k) (c - k) (Tr.nodesC S ++ X) (Tr.nodesC (S.drop k)) hgd (by rw [hD]; congr 1; simp only [Nat.min_def]; split <;> omega)
    (fun j v hj => by
      rw [Addr.add_lit, block_cell hgd, List.getElem?_append_left (by have := (List.getElem?_eq_some_iff.1 hj).1; rw [hD] at this; rw [Tr.nodesC_length]; omega)]
      exact nodesC_drop_get (by omega) hj) (by rw [hD, hL, hX]; omega) (Tr.nodesC_one _)
  have hv1 : W1.heap[gv]? = some (.cells (Tr.nodeC nd).toArray 53 (0, 0)) := by
    have hlt : gv < wd.heap.size := by have := hnd.lt; rw [hwd]; exact this
    exact (hgr1.block gv hlt (fun e => hap (by injection e))).trans hvd
  obtain ⟨W2, hc2, hh2, hgr2⟩ := run_copy_nodes W1 g (k * 4) (S.length + 1 - k) (c - k) ⟨gv, 0, none⟩ 1 1 _ (Tr.nodeC nd) hh1 (by show 4 = Nat.min 1 (S.length + 1 - k) * 4; simp only [Nat.min_def]; split <;> omega)
    (fun j v hj => by rw [Addr.add_lit, block_cell hv1, Nat.zero_add]; exact hj) (by
      rw [List.length_append, List.length_append, List.length_take, List.length_drop, hD, hL]
      show k * 4 + 4 ≤ _
      omega) (by
      intro v hv
      simp only [Tr.nodeC, List.mem_cons, List.not_mem_nil, or_false] at hv
      rcases hv with rfl | rfl | rfl | rfl <;> rfl)
  rw [two_splices S k (by omega) nd X (by rw [hX]; omega)] at hh2
  have hlen : (S.take k ++ nd :: S.drop k).length = S.length + 1 := by rw [List.length_append, List.length_cons, List.length_take, List.length_drop]; omega
  have hOwn := own_of_block (B := B) (c := c) (l := S.take k ++ nd :: S.drop k) hh2 (by rw [List.length_drop, hX, hlen]; omega) (by omega) hm hBg
  rw [hlen] at hOwn
  have HOwn := Lib.hid hOwn
  have hgr := hgr1.trans hgr2
  have HBel : Hid (Below B w W2) := Lib.hid ((show Below B w wd by rw [hwd]; exact (Below.refl _ _).drew).trans (below_of_grown hgr (by rw [hwd]; exact hB) (fun q hq => by injection hq with hq; omega)))
  have hmin1 : Nat.min (S.length + 1 - k) (S.length - k) = S.length - k := by simp only [Nat.min_def]; split <;> omega
  have hmin2 : Nat.min 1 (S.length + 1 - k) = 1 := by simp only [Nat.min_def]; split <;> omega
  rw [hmin1] at hc1
  rw [hmin2] at hc2
  clear hg hX hnd hgd hvd hvv hh1 hv1 hh2 hgr1 hgr2 hgr hD hL hOwn hlen hmin1 hmin2
  unfold maxLen at hm
  generalize S.length = n at *
  have hz2 : ((k : Int) == (n : Int)) = false := beq_eq_false_iff_ne.2 (by omega)
  have hz3 : decide ((c : Int) < (n : Int) + 1) = false := decide_eq_false (by omega)
  have hw1 : IntKind.i64.wrap ((n : Int) + 1) = (n : Int) + 1 := IntWalk.i64_in _ (by omega)
  have hw2 : IntKind.i64.wrap ((k : Int) + 1) = (k : Int) + 1 := IntWalk.i64_in _ (by omega)
  have hck : ¬ c - k = 0 := by omega
  have hck1 : ¬ c - (k + 1) = 0 := by omega
  have i1 : (k : Int) ≤ (n : Int) := by omega
  have i2 : (n : Int) + 1 ≤ (c : Int) := by omega
  have i3 : (k : Int) + 1 ≤ (n : Int) + 1 := by omega
  have i4 : ((k : Int) + 1).toNat = k + 1 := by omega
  have i5 : ((n : Int) + 1).toNat = n + 1 := by omega
  have i6 : (n + 1) - (k + 1) = n - k := by omega
  have i7 : (0 : Int) ≤ (k : Int) + 1 := by omega
  have i8 : (k : Int) ≤ (n : Int) + 1 := by omega
  have i9 : (0 : Int) ≤ (k : Int) := by omega
  go_enter Tryz.func38, Tryz.ntmps38
  go_wp2_with fail
  go_still_tail 8, (by kernel_rfl)
  change wpList _ _ _ _ _ w.drew
  rw [← hwd]
  clear hwd
  go_wp2
  go_ret
  exact ⟨_, rfl, HOwn.out, HBel.out⟩
end Go.Proofs.YtjdflnnpamjjcaaGreatDoor

namespace Go.Proofs.YtjdflnnpamjjcaaGreatDoor
open Go.RowKit

theorem two_splices_new (S : List Tr.Node) (k : Nat) (hk : k ≤ S.length) (nd : Tr.Node) (Z1 Z2 : List Value) (hZ1 : Z1.length = (S.length + 1 - k) * 4) :
    (((Tr.nodesC (S.take k) ++ Z1 ++ Z2).take (k * 4) ++ Tr.nodeC nd ++ (Tr.nodesC (S.take k) ++ Z1 ++ Z2).drop (k * 4 + (Tr.nodeC nd).length)).take ((k + 1) * 4) ++ Tr.nodesC (S.drop k) ++ ((Tr.nodesC (S.take k) ++ Z1 ++ Z2).take (k * 4) ++ Tr.nodeC nd ++ (Tr.nodesC (S.take k) ++ Z1 ++ Z2).drop (k * 4 + (Tr.nodeC nd).length)).drop ((k + 1) * 4 + (Tr.nodesC (S.drop k)).length)) = Tr.nodesC (S.take k ++ nd :: S.drop k) ++ Z2 := by
  have hA : (Tr.nodesC (S.take k)).length = k * 4 := by rw [Tr.nodesC_length, List.length_take, Nat.min_eq_left hk]
  have hD : (Tr.nodesC (S.drop k)).length = (S.length - k) * 4 := by rw [Tr.nodesC_length, List.length_drop]
  have hN : (Tr.nodeC nd).length = 4 := rfl
  have t1 : (Tr.nodesC (S.take k) ++ Z1 ++ Z2).take (k * 4) = Tr.nodesC (S.take k) := by rw [List.append_assoc, ← hA, List.take_left']; rfl
  have t2 : (Tr.nodesC (S.take k) ++ Z1 ++ Z2).drop (k * 4 + (Tr.nodeC nd).length) = Z1.drop 4 ++ Z2 := by
    rw [hN, ← List.drop_drop, List.append_assoc, ← hA, List.drop_left', List.drop_append_of_le_length (by rw [hZ1]; omega)]
    rfl
  have hAN : (Tr.nodesC (S.take k) ++ Tr.nodeC nd).length = (k + 1) * 4 := by rw [List.length_append, hA, hN]; omega
  rw [t1, t2]
  have t3 : (Tr.nodesC (S.take k) ++ Tr.nodeC nd ++ (Z1.drop 4 ++ Z2)).take ((k + 1) * 4) = Tr.nodesC (S.take k) ++ Tr.nodeC nd := by rw [← hAN, List.take_left']; rfl
  have t4 : (Tr.nodesC (S.take k) ++ Tr.nodeC nd ++ (Z1.drop 4 ++ Z2)).drop ((k + 1) * 4 + (Tr.nodesC (S.drop k)).length) = Z2 := by
    rw [← List.drop_drop, ← hAN, List.drop_left' rfl, List.drop_left' (by rw [List.length_drop, hZ1, hD]; omega)]
  rw [t3, t4, Tr.nodesC_append, nodesC_cons]
  simp only [List.append_assoc]

set_option maxRecDepth 20000 in
set_option maxHeartbeats 3200000 in
theorem nodes_Insert_grow (g c : Nat) (S : List Tr.Node) (k gv : Nat) (nd : Tr.Node) (w : World) (B : Nat) (X : List Value) (hg : w.heap[g]? = some (.cells (Tr.nodesC S ++ X).toArray 53 (0, 0))) (hB : B ≤ w.heap.size) (hk : k < S.length) (hSc : S.length ≤ c) (hroom : c < S.length + 1) (hn : S.length + 1 ≤ 3518437208883) (hnd : NodeIn w gv nd) :
    Calls Tryz.prog 38 #[.slice (some ⟨g, 0, none⟩) S.length c, .int .i64 (k : Int), .slice (some ⟨gv, 0, none⟩) 1 1] w fun e w' => ∃ v', e = .returned v' ∧ OwnN w' B v' (S.take k ++ nd :: S.drop k) ∧ Below B w w' := by
  have hvv : w.heap[gv]? = some (.cells (Tr.nodeC nd).toArray 53 (0, 0)) := hnd
  have hglt : g < w.heap.size := by
    by_cases hc : g < w.heap.size
    · exact hc
    · rw [Array.getElem?_eq_none (by omega)] at hg; cases hg
  have hD : (Tr.nodesC (S.drop k)).length = (S.length - k) * 4 := by rw [Tr.nodesC_length, List.length_drop]
  have hA : (Tr.nodesC (S.take k)).length = k * 4 := by rw [Tr.nodesC_length, List.length_take, Nat.min_eq_left (by omega)]
  obtain ⟨i0, hi0, hz0, hzs, hzb⟩ := info_node
  have hcell : ∀ j v, (Tr.nodesC (S.take k))[j]? = some v → w.cell? ⟨g, j, none⟩ = some v := fun j v hj => by
    have hjl := (List.getElem?_eq_some_iff.1 hj).1
    have e : Tr.nodesC S = Tr.nodesC (S.take k) ++ Tr.nodesC (S.drop k) := by rw [← Tr.nodesC_append, List.take_append_drop]
    rw [block_cell hg, e, List.append_assoc, List.getElem?_append_left hjl]
    exact hj
  have hold : (Builtin.firstCells i0.size k (.slice (some ⟨g, 0, none⟩) k c)).run Tryz.prog w.drew = .ok (Tr.nodesC (S.take k)).toArray w.drew := by
    rw [hzs]
    exact run_firstCells_some w.drew 4 k ⟨g, 0, none⟩ k c (Tr.nodesC (S.take k)) hA (fun j v hj => by
      rw [Addr.add_lit, Nat.zero_add]
      exact hcell j v hj)
  have hkk : (S.length : Int) + 1 - (k : Int) = ((S.length + 1 - k : Nat) : Int) := by omega
  have hik : k + (S.length + 1 - k) = S.length + 1 := by omega
  obtain ⟨G, hG⟩ : ∃ G, G = grownCap w (S.length + 1) c 53 := ⟨_, rfl⟩
  obtain ⟨Z1, hZ1⟩ : ∃ Z1, Z1 = (Builtin.zeroCells (Value.agg #[.int .u32 0, .int .i64 0, .string ByteArray.empty, .int .i64 0]).cells (S.length + 1 - k)).toList := ⟨_, rfl⟩
  obtain ⟨Z2, hZ2⟩ : ∃ Z2, Z2 = (Builtin.zeroCells (Value.agg #[.int .u32 0, .int .i64 0, .string ByteArray.empty, .int .i64 0]).cells (G - (S.length + 1))).toList := ⟨_, rfl⟩
  have hZ1l : Z1.length = (S.length + 1 - k) * 4 := by rw [hZ1]; simp [Builtin.zeroCells, Value.cells]
  have hZ2l : Z2.length = (G - (S.length + 1)) * 4 := by rw [hZ2]; simp [Builtin.zeroCells, Value.cells]
  obtain ⟨W1, hW1⟩ : ∃ W1, W1 = w.drew.alloc (.cells (Tr.nodesC (S.take k) ++ Z1 ++ Z2).toArray 53) := ⟨_, rfl⟩
  have hrz : ∀ ty, (Builtin.append_ #[33, 3] ty #[.slice (some ⟨g, 0, none⟩) k c, .int .i64 ((S.length : Int) + 1 - (k : Int))]).run Tryz.prog w = .ok (.slice (some ⟨w.heap.size, 0, none⟩) (S.length + 1) G) W1 := fun ty => by
    have h := Lib.run_append_grow_zeros w 33 3 ty 53 i0 _ .i64 .i64 Tryz.underlying33 Tryz.underlying3 hi0 hz0 (some ⟨g, 0, none⟩) k c (Tr.nodesC (S.take k)) hold (S.length + 1 - k) (by omega) (by omega) (by omega) (by omega) (by rw [hzb]; omega) (by rw [hzb, hik]; exact growslice_fits hroom (by omega))
    rw [hik] at h
    rw [hkk, hG, hW1, h]
    congr 3
    rw [hZ1, hZ2, hG]
    simp
  have hGn : S.length + 1 ≤ G := by rw [hG]; exact grownCap_ge w _ _ _
  have hGm : G ≤ maxLen := by rw [hG]; exact grownCap_le_maxLen w (S.length + 1) c 53 (by unfold maxLen; omega)
  have hg2 : W1.heap[w.heap.size]? = some (.cells (Tr.nodesC (S.take k) ++ Z1 ++ Z2).toArray 53 (0, 0)) := by rw [hW1]; exact heap_alloc_last w.drew _
  have hold1 : ∀ q, q < w.heap.size → W1.heap[q]? = w.heap[q]? := fun q hq => by rw [hW1]; exact Below.heap_alloc w.drew _ _ hq
  have hvl : gv < w.heap.size := hnd.lt
  have hv1 : W1.heap[gv]? = some (.cells (Tr.nodeC nd).toArray 53 (0, 0)) := (hold1 gv hvl).trans hvv
  have hL : (Tr.nodesC (S.take k) ++ Z1 ++ Z2).length = G * 4 := by rw [List.length_append, List.length_append, hA, hZ1l, hZ2l]; omega
  obtain ⟨W2, hc1, hh2, hgr2⟩ := run_copy_nodes W1 w.heap.size (k * 4) (S.length + 1 - k) (G - k) ⟨gv, 0, none⟩ 1 1 _ (Tr.nodeC nd) hg2 (by show 4 = Nat.min 1 (S.length + 1 - k) * 4; simp only [Nat.min_def]; split <;> omega)
    (fun j v hj => by rw [Addr.add_lit, block_cell hv1, Nat.zero_add]; exact hj) (by rw [hL]; show k * 4 + 4 ≤ _; omega) (by
      intro v hv
      simp only [Tr.nodeC, List.mem_cons, List.not_mem_nil, or_false] at hv
      rcases hv with rfl | rfl | rfl | rfl <;> rfl)
  have hW1s : W1.heap.size = w.heap.size + 1 := by rw [hW1]; simp
  obtain ⟨wd, hwd⟩ : ∃ wd, wd = W2.drew := ⟨_, rfl⟩
  have hhd : wd.heap = W2.heap := by rw [hwd]; rfl
  have hgd : wd.heap[g]? = some (.cells (Tr.nodesC S ++ X).toArray 53 (0, 0)) := by
    rw [hhd]
    exact ((hgr2.block g (by omega) (fun e => by injection e with e; omega)).trans (hold1 g hglt)).trans hg
  have hh2d := hh2
  rw [← hhd] at hh2d
  obtain ⟨W3, hc2, hh3, hgr3⟩ := run_copy_nodes wd w.heap.size ((k + 1) * 4) (S.length - k) (G - (k + 1)) ⟨g, k * 4, none⟩ (S.length - k) (c - k) _ (Tr.nodesC (S.drop k)) hh2d (by rw [hD]; congr 1; simp only [Nat.min_def]; split <;> omega)
    (fun j v hj => by
      rw [Addr.add_lit, block_cell hgd, List.getElem?_append_left (by have := (List.getElem?_eq_some_iff.1 hj).1; rw [hD] at this; rw [Tr.nodesC_length]; omega)]
      exact nodesC_drop_get (by omega) hj) (by
      rw [List.length_append, List.length_append, List.length_take, List.length_drop, hD, hL]
      show (k + 1) * 4 + (S.length - k) * 4 ≤ min (k * 4) (G * 4) + 4 + (G * 4 - (k * 4 + 4))
      omega) (Tr.nodesC_one _)
  rw [two_splices_new S k (by omega) nd Z1 Z2 hZ1l] at hh3
  have hlen : (S.take k ++ nd :: S.drop k).length = S.length + 1 := by rw [List.length_append, List.length_cons, List.length_take, List.length_drop]; omega
  have hOwn := own_of_block (B := B) (c := G) (l := S.take k ++ nd :: S.drop k) hh3 (by rw [hZ2l, hlen]) (by omega) hGm hB
  rw [hlen] at hOwn
  have HOwn := Lib.hid hOwn
  have HBel : Hid (Below B w W3) := Lib.hid (by
    have b1 : Below B w W1 := by rw [hW1]; exact ((Below.refl _ _).drew).alloc hB _
    have b2 := b1.trans (below_of_grown hgr2 (by omega) (fun q hq => by injection hq with hq; omega))
    have b3 : Below B w wd := by rw [hwd]; exact b2.drew
    exact b3.trans (below_of_grown hgr3 (by have := b3.size; omega) (fun q hq => by injection hq with hq; omega)))
  have hmin1 : Nat.min 1 (S.length + 1 - k) = 1 := by simp only [Nat.min_def]; split <;> omega
  have hmin2 : Nat.min (S.length - k) (S.length - k) = S.length - k := Nat.min_self _
  rw [hmin1] at hc1
  rw [hmin2] at hc2
  unfold maxLen at hGm
  clear hg hnd hvv hD hA hi0 hz0 hzs hzb hcell hold hkk hik hG hZ1 hZ2 hZ1l hZ2l hW1 hg2 hold1 hv1 hL hh2 hgr2 hgd hh2d hhd hh3 hgr3 hlen hOwn hmin1 hmin2 hW1s
  generalize S.length = n at *
  have hz2 : ((k : Int) == (n : Int)) = false := beq_eq_false_iff_ne.2 (by omega)
  have hz3 : decide ((c : Int) < (n : Int) + 1) = true := decide_eq_true (by omega)
  have hz4 : (c : Int) < (n : Int) + 1 := by omega
  have hw1 : IntKind.i64.wrap ((n : Int) + 1) = (n : Int) + 1 := IntWalk.i64_in _ (by omega)
  have hw2 : IntKind.i64.wrap ((k : Int) + 1) = (k : Int) + 1 := IntWalk.i64_in _ (by omega)
  have hw3 : IntKind.i64.wrap ((n : Int) + 1 - (k : Int)) = (n : Int) + 1 - (k : Int) := IntWalk.i64_in _ (by omega)
  have hck : ¬ c - k = 0 := by omega
  have hGk : ¬ G - k = 0 := by omega
  have hGk1 : ¬ G - (k + 1) = 0 := by omega
  have i1 : (k : Int) ≤ (n : Int) := by omega
  have i2 : (n : Int) ≤ (c : Int) := by omega
  have i2' : (k : Int) ≤ (c : Int) := by omega
  have i3 : (k : Int) + 1 ≤ (n : Int) + 1 := by omega
  have i4 : ((k : Int) + 1).toNat = k + 1 := by omega
  have i6 : (n + 1) - (k + 1) = n - k := by omega
  have i7 : (0 : Int) ≤ (k : Int) + 1 := by omega
  have i8 : (k : Int) ≤ (n : Int) + 1 := by omega
  have i9 : (0 : Int) ≤ (k : Int) := by omega
  go_enter Tryz.func38, Tryz.ntmps38
  go_wp2_with (at_builtin; refine Lib.wpList_append_run _ rfl _ _ _ _ rfl _ _ rfl rfl _ _ (hrz _) ?_)
  go_wp2_with fail
  go_still_tail 8, (by kernel_rfl)
  change wpList _ _ _ _ _ W2.drew
  rw [← hwd]
  clear hwd
  go_wp2
  go_ret
  exact ⟨_, rfl, HOwn.out, HBel.out⟩

/-- slices.Insert of one node into a row of nodes of the call's own. -/
theorem nodes_Insert (v : Value) (S : List Tr.Node) (k gv : Nat) (nd : Tr.Node) (w : World) (B : Nat) (hO : OwnN w B v S) (hB : B ≤ w.heap.size) (hk : k ≤ S.length) (hn : S.length + 1 ≤ 3518437208883) (hnd : NodeIn w gv nd) (hap : v.ownBlock ≠ some gv) :
    Calls Tryz.prog 38 #[v, .int .i64 (k : Int), .slice (some ⟨gv, 0, none⟩) 1 1] w fun e w' => ∃ v', e = .returned v' ∧ OwnN w' B v' (S.take k ++ nd :: S.drop k) ∧ Below B w w' := by
  rcases Nat.eq_or_lt_of_le hk with rfl | hlt
  · rw [List.take_length, List.drop_length]
    exact nodes_Insert_end v S gv nd w B hO hB hn hnd
  · obtain ⟨g, c, X, rfl, hSc, hm, hBg, _, hg, hX⟩ := hO.block (by intro e; rw [e] at hlt; simp at hlt)
    by_cases hroom : S.length + 1 ≤ c
    · exact nodes_Insert_room g c S k gv nd w B X hg hX hBg hB hm hlt hroom hn hnd (fun e => hap (by rw [e]; rfl))
    · exact nodes_Insert_grow g c S k gv nd w B X hg hB hlt hSc (by omega) hn hnd
end Go.Proofs.YtjdflnnpamjjcaaGreatDoor

namespace Go.Proofs.YtjdflnnpamjjcaaGreatDoor
open Go.RowKit

/-- The row ahead of the last store: the node at k bears the network, and what is around it. -/
structure PutSo (x : Tr.Nw) (o : ByteArray) (l : List Tr.Node) (k : Nat) (A C : List Tr.Node) (nd : Tr.Node) : Prop where
  len : A.length = k
  node : { nd with o := o } = Tr.newN x o
  rest : A ++ C = Tr.others x l
  sorted : Tr.sorted (A ++ Tr.newN x o :: C)
theorem put_sorted {A C : List Tr.Node} {x : Tr.Nw} {o : ByteArray} (h : Tr.sorted (A ++ C)) (h1 : ∀ n ∈ A, Tr.lt (Tr.nw n) x) (h2 : ∀ n ∈ C, Tr.lt x (Tr.nw n)) : Tr.sorted (A ++ Tr.newN x o :: C) := by
  obtain ⟨a, b, c⟩ := List.pairwise_append.1 h
  refine List.pairwise_append.2 ⟨a, List.Pairwise.cons (fun n hn => h2 n hn) b, fun n hn m hm => ?_⟩
  rcases List.mem_cons.1 hm with rfl | hm
  · exact h1 n hn
  · exact c n hn m hm
theorem put_found {x : Tr.Nw} {o : ByteArray} {l : List Tr.Node} {k : Nat} (hs : Tr.sorted (Tr.owned l)) (hp : Place (Tr.owned l) x k) (hk : k < (Tr.owned l).length) (he : Tr.nw (Tr.owned l)[k] = x) :
    PutSo x o l k ((Tr.owned l).take k) ((Tr.owned l).drop (k + 1)) (Tr.owned l)[k] := by
  have h1 := Tr.owned_single l _ (List.getElem_mem hk)
  have hS : Tr.owned l = (Tr.owned l).take k ++ (Tr.owned l)[k] :: (Tr.owned l).drop (k + 1) := by rw [List.getElem_cons_drop, List.take_append_drop]
  have hA : ∀ n ∈ (Tr.owned l).take k, Tr.lt (Tr.nw n) x := fun n hn => by
    obtain ⟨i, hi, rfl⟩ := List.mem_iff_getElem.1 hn
    rw [List.length_take] at hi
    rw [List.getElem_take]
    exact hp.low i (by omega) (by omega)
  have hC : ∀ n ∈ (Tr.owned l).drop (k + 1), Tr.lt x (Tr.nw n) := fun n hn => by
    obtain ⟨i, hi, rfl⟩ := List.mem_iff_getElem.1 hn
    rw [List.length_drop] at hi
    rw [List.getElem_drop, ← he]
    exact Tr.sorted_get hs (by omega) (by omega)
  refine ⟨by rw [List.length_take]; omega, ?_, ?_, ?_⟩
  · subst he
    unfold Tr.newN Tr.nw
    rw [h1.2]
  · unfold Tr.others
    conv => rhs; rw [hS]
    rw [List.filter_append, List.filter_cons_of_neg (by simp [he]), List.filter_eq_self.2, List.filter_eq_self.2]
    · intro n hn
      have := hC n hn
      simp only [Bool.not_eq_true', decide_eq_false_iff_not]
      intro e
      rw [e] at this
      exact Tr.lt_irrefl _ this
    · intro n hn
      have := hA n hn
      simp only [Bool.not_eq_true', decide_eq_false_iff_not]
      intro e
      rw [e] at this
      exact Tr.lt_irrefl _ this
  · refine put_sorted ?_ hA hC
    refine List.Pairwise.sublist ?_ hs
    conv => rhs; rw [hS]
    exact List.Sublist.append_left (List.sublist_cons_self _ _) _
theorem put_new {x : Tr.Nw} {o : ByteArray} {l : List Tr.Node} {k : Nat} (hs : Tr.sorted (Tr.owned l)) (hp : Place (Tr.owned l) x k) (hno : ¬ ∃ h : k < (Tr.owned l).length, Tr.nw (Tr.owned l)[k] = x) :
    PutSo x o l k ((Tr.owned l).take k) ((Tr.owned l).drop k) ⟨x.1, x.2, ⟨#[]⟩, 1⟩ := by
  have hne := place_none hp hs hno
  refine ⟨by rw [List.length_take]; have := hp.le; omega, rfl, ?_, ?_⟩
  · rw [List.take_append_drop]
    unfold Tr.others
    rw [List.filter_eq_self.2]
    intro n hn
    simp only [Bool.not_eq_true', decide_eq_false_iff_not]
    exact hne n hn
  · refine put_sorted (by rw [List.take_append_drop]; exact hs) (fun n hn => ?_) (fun n hn => ?_)
    · obtain ⟨i, hi, rfl⟩ := List.mem_iff_getElem.1 hn
      rw [List.length_take] at hi
      rw [List.getElem_take]
      exact hp.low i (by omega) (by omega)
    · have hn' := List.mem_of_mem_drop hn
      obtain ⟨i, hi, rfl⟩ := List.mem_iff_getElem.1 hn
      rw [List.length_drop] at hi
      rw [List.getElem_drop] at hn' ⊢
      exact Tr.lt_or (hp.high (k + i) (by omega) (by omega)) (hne _ hn')

set_option maxRecDepth 20000 in
set_option maxHeartbeats 3200000 in
theorem trie_Put (a : Option Addr) (n c : Nat) (l : List Tr.Node) (na : Nat) (nb : Int) (o : ByteArray) (w : World) (h : NodesAt w w.heap.size a n l) (hf : Tr.fit l) (hn : n ≤ 3518437208780) (ha : na < 4294967296) (b0 : -9223372036854775808 ≤ nb) (b1 : nb ≤ 9223372036854775807) :
    Calls Tryz.prog 22 #[.slice a n c, .agg #[.int .u32 (na : Int), .int .i64 nb], .string o] w fun e w' => (∃ v, e = .returned (.tuple #[v, .int .i64 (Tr.pe (na, nb) o l : Int)]) ∧ OwnN w' w.heap.size v (Tr.putL (na, nb) o l)) ∧ Below w.heap.size w w' := by
  obtain ⟨w1, hw1⟩ : ∃ w1, w1 = w.alloc (.cells #[.int .u32 (na : Int), .int .i64 nb] 47) := ⟨_, rfl⟩
  have hA : Below w.heap.size w w1 := by rw [hw1]; exact (Below.refl _ _).alloc (Nat.le_refl _) _
  have hz1 : w.heap.size < w1.heap.size := by rw [hw1]; simp
  have hN1 : NetIn w1 w.heap.size na nb := by rw [hw1]; exact heap_alloc_last w _
  have hat1 := (h.below hA).up (show w.heap.size ≤ w1.heap.size by omega)
  have H1 := Lib.hid (trie_checkBoth a n c l na nb w1 hat1 hf hn ha b0 b1)
  have HN1 := Lib.hid hN1
  obtain ⟨t0, t1⟩ := two_cells hN1.own
  by_cases hz : Tr.be (na, nb) l = 0
  · obtain ⟨hfz, hez⟩ := Tr.be_zero hz
    change Nt.err na nb = 0 at hez
    rw [hz] at H1
    by_cases ho : o.size = 0
    · have Hr : Hid (Tr.pe (na, nb) o l = 3 ∧ Tr.putL (na, nb) o l = []) := Lib.hid (by
        have e1 : Tr.pe (na, nb) o l = 3 := by unfold Tr.pe; rw [if_pos hz, if_pos ho]
        exact ⟨e1, by unfold Tr.putL; rw [e1]; rfl⟩)
      rw [Hr.out.1, Hr.out.2]
      obtain rfl := empty_of_size ho
      clear h hf hfz hez hat1 hN1 hz ho Hr
      go_enter Tryz.func22, Tryz.ntmps22
      go_wp2_with fail
      rw [← hw1]
      clear hw1
      refine H1.out.mono ?_
      rintro e w2 ⟨rfl, b2⟩
      have B2 := hA.trans (b2.mono (by omega))
      clear t0 t1 b2 H1
      go_wp2
      go_ret2
      exact ⟨⟨_, rfl, OwnN.nil _ _⟩, B2⟩
    · have Hr : Hid (Tr.pe (na, nb) o l = 0 ∧ Tr.putL (na, nb) o l = Tr.trie (Tr.others (na, nb) l ++ [Tr.newN (na, nb) o])) := Lib.hid (by
        have e1 : Tr.pe (na, nb) o l = 0 := by unfold Tr.pe; rw [if_pos hz, if_neg ho]
        exact ⟨e1, by unfold Tr.putL; rw [if_pos e1]⟩)
      rw [Hr.out.1, Hr.out.2]
      obtain ⟨_, hg, hso, hol, _⟩ := Tr.fault_facts hf hfz
      obtain ⟨og, _, _, _, _⟩ := Tr.others_facts (x := (na, nb)) hg hso
      have hgx : Tr.good (na, nb) := ⟨ha, hez⟩
      have H2 := Lib.hid (fun (W : World) (hb : Below w1.heap.size w1 W) => trie_owned a n c l W ((hat1.below hb).up hb.size) hn)
      have Hse := Lib.hid (fun (W : World) (a3 : Option Addr) (c3 : Nat) (hat : NodesAt W W.heap.size a3 (Tr.owned l).length (Tr.owned l)) => trie_search a3 (Tr.owned l).length c3 (Tr.owned l) na nb W hat (by omega) hg hso hgx)
      have HPf := Lib.hid (fun k (hp : Place (Tr.owned l) (na, nb) k) (hk : k < (Tr.owned l).length) he => put_found (o := o) hso hp hk he)
      have HPn := Lib.hid (fun k (hp : Place (Tr.owned l) (na, nb) k) hno => put_new (o := o) hso hp hno)
      have HFin := Lib.hid (fun k A C nd (hP : PutSo (na, nb) o l k A C nd) => (show Tr.trie (A ++ Tr.newN (na, nb) o :: C) = Tr.trie (Tr.others (na, nb) l ++ [Tr.newN (na, nb) o]) ∧ (∀ y ∈ A ++ Tr.newN (na, nb) o :: C, Tr.good (Tr.nw y)) by
        have hgA : ∀ y ∈ A ++ Tr.newN (na, nb) o :: C, Tr.good (Tr.nw y) := fun y hy => by
          rcases List.mem_append.1 hy with hy | hy
          · exact og y (by rw [← hP.rest]; exact List.mem_append_left _ hy)
          · rcases List.mem_cons.1 hy with rfl | hy
            · exact hgx
            · exact og y (by rw [← hP.rest]; exact List.mem_append_right _ hy)
        exact ⟨by rw [← hP.rest]; exact Tr.put_perm hP.sorted hgA, hgA⟩))
      have hse := isEmpty_of_pos (show 0 < o.size by omega)
      clear h hf hfz hez hat1 hN1 hz ho Hr hg og hso hgx
      generalize Tr.trie (Tr.others (na, nb) l ++ [Tr.newN (na, nb) o]) = FIN at *
      go_enter Tryz.func22, Tryz.ntmps22
      go_wp2_with fail
      rw [← hw1]
      clear hw1
      refine H1.out.mono ?_
      rintro e w2 ⟨rfl, b2⟩
      have hsz2 := b2.size
      clear t0 t1 H1
      go_wp2_with fail
      refine (H2.out w2 b2).mono ?_
      rintro e w3 ⟨v3, rfl, o3, b3⟩
      have b3' := b2.trans (b3.mono hsz2)
      have hsz3 := b3'.size
      have hsz23 := b3.size
      obtain ⟨a3, c3, rfl, _, at3⟩ := o3.at
      obtain ⟨t0, t1⟩ := two_cells (HN1.out.below b3').own
      have HS := Lib.hid (Hse.out w3 a3 c3 at3)
      clear at3 H2 Hse
      go_wp2_with fail
      refine HS.out.mono ?_
      rintro e w4 ⟨⟨k, r, rfl, hp, hr⟩, b4⟩
      have b4' := b3'.trans (b4.mono hsz3)
      have hsz4 := b4'.size
      have hsz34 := b4.size
      have HO4 := Lib.hid (o3.below b4)
      have hlt3 := o3.lt
      have B24 : Below w2.heap.size w2 w4 := b3.trans (b4.mono hsz23)
      have HB24 := Lib.hid B24
      have hple := hp.le
      clear o3 t0 t1 HS B24
      cases r with
      | true =>
        obtain ⟨hk, he⟩ := hr.1 rfl
        have hP := HPf.out k hp hk he
        obtain ⟨q1, q2⟩ := HFin.out _ _ _ _ hP
        have hS : Tr.owned l = (Tr.owned l).take k ++ (Tr.owned l)[k] :: (Tr.owned l).drop (k + 1) := by rw [List.getElem_cons_drop, List.take_append_drop]
        obtain ⟨g, c9, hv9, hc9, hBg, hglt, hrow⟩ := HO4.out.row (by intro e; rw [e] at hk; simp at hk)
        injection hv9 with hv1 _ hv3
        subst hv1 hv3
        have hrow' := hrow
        rw [hS] at hrow'
        obtain ⟨m2, _, f2, _⟩ := row_node hrow'
        obtain ⟨p1, p2⟩ := OwnN.put2 hrow' o
        have hAl := hP.len
        rw [hAl] at m2 f2 p1 p2
        rw [hP.node] at p1
        have hO6 : OwnN (w4.setCell ⟨g, k * 4 + 2, none⟩ (.string o)) w2.heap.size (.slice (some ⟨g, 0, none⟩) ((Tr.owned l).take k ++ Tr.newN (na, nb) o :: (Tr.owned l).drop (k + 1)).length c3) ((Tr.owned l).take k ++ Tr.newN (na, nb) o :: (Tr.owned l).drop (k + 1)) := ⟨_, c3, rfl, p1⟩
        have hlen : ((Tr.owned l).take k ++ Tr.newN (na, nb) o :: (Tr.owned l).drop (k + 1)).length = (Tr.owned l).length := by rw [List.length_append, List.length_cons, List.length_take, List.length_drop]; omega
        have hB6 := HB24.out.trans (below_of_grown p2 (by omega) (fun q hq => by injection hq with hq; omega))
        have hcap := hO6.cap
        have HG := Lib.hid (trie_build (some ⟨g, 0, none⟩) _ c3 _ _ hO6.at'.2 hcap q2 hP.sorted (by rw [hlen]; omega))
        rw [hlen] at HG
        change Hid (Calls Tryz.prog 39 _ _ fun e w' => ∃ v', e = .returned v' ∧ OwnN w' _ v' (Tr.trie _) ∧ Below _ _ w') at HG
        rw [q1] at HG
        have Hb6 := Lib.hid hB6
        have hi1 : (k : Int) < ((Tr.owned l).length : Int) := by omega
        clear hS hrow hrow' p1 p2 hO6 hP q1 q2 hp hr he hAl hlen hcap hB6
        clear HPf HPn HFin
        go_wp2_with fail
        refine HG.out.mono ?_
        rintro e w7 ⟨v7, rfl, o7, b7⟩
        have hb7s : w.heap.size ≤ (w4.setCell ⟨g, k * 4 + 2, none⟩ (.string o)).heap.size := by simp; omega
        have B7 := hA.trans ((b2.trans ((Hb6.out.trans (b7.mono (by simp; omega))).mono hsz2)).mono (by omega))
        have HO7 := Lib.hid (o7.base hb7s)
        clear o7 b7 HG
        go_wp2
        go_ret2
        exact ⟨⟨_, rfl, HO7.out⟩, B7⟩
      | false =>
        have hP := HPn.out k hp (fun h => by have := hr.2 h; cases this)
        obtain ⟨q1, q2⟩ := HFin.out _ _ _ _ hP
        obtain ⟨t0, t1⟩ := two_cells (HN1.out.below b4').own
        have hnd : NodeIn (w4.alloc (.cells #[.int .u32 (na : Int), .int .i64 nb, .string ⟨#[]⟩, .int .i64 1] 53)) w4.heap.size ⟨na, nb, ⟨#[]⟩, 1⟩ := heap_alloc_last w4 _
        have HI := Lib.hid (nodes_Insert _ (Tr.owned l) k w4.heap.size ⟨na, nb, ⟨#[]⟩, 1⟩ _ w2.heap.size (HO4.out.alloc _) (by simp; omega) hple (by omega) hnd (fun e => by have := (HO4.out.lt _ e).2; omega))
        have HA4 := Lib.hid ((Below.refl w2.heap.size w4).alloc (show w2.heap.size ≤ w4.heap.size by omega) (.cells #[.int .u32 (na : Int), .int .i64 nb, .string ⟨#[]⟩, .int .i64 1] 53))
        have hAl := hP.len
        have HP := Lib.hid hP
        have Hq1 := Lib.hid q1
        have Hq2 := Lib.hid q2
        clear hp hr hnd hP q1 q2
        clear HPf HPn HFin
        go_wp2_with fail
        refine HI.out.mono ?_
        rintro e w5 ⟨v5, rfl, o5, b5⟩
        obtain ⟨g, c9, rfl, hc9, hBg, hglt, hrow⟩ := o5.row (by simp)
        obtain ⟨m2, _, f2, _⟩ := row_node hrow
        obtain ⟨p1, p2⟩ := OwnN.put2 hrow o
        rw [hAl] at m2 f2 p1 p2
        have hnode := HP.out.node
        change (⟨na, nb, o, 1⟩ : Tr.Node) = _ at hnode
        rw [hnode] at p1
        have hB5 : Below w2.heap.size w2 w5 := HB24.out.trans (HA4.out.trans b5)
        have hsz5 := hB5.size
        have hO6 : OwnN (w5.setCell ⟨g, k * 4 + 2, none⟩ (.string o)) w2.heap.size (.slice (some ⟨g, 0, none⟩) ((Tr.owned l).take k ++ Tr.newN (na, nb) o :: (Tr.owned l).drop k).length c9) ((Tr.owned l).take k ++ Tr.newN (na, nb) o :: (Tr.owned l).drop k) := ⟨_, c9, rfl, p1⟩
        have hlen : ((Tr.owned l).take k ++ Tr.newN (na, nb) o :: (Tr.owned l).drop k).length = ((Tr.owned l).take k ++ (⟨na, nb, ⟨#[]⟩, 1⟩ : Tr.Node) :: (Tr.owned l).drop k).length := by simp
        have hlen2 : ((Tr.owned l).take k ++ (⟨na, nb, ⟨#[]⟩, 1⟩ : Tr.Node) :: (Tr.owned l).drop k).length ≤ 141733920769 ∧ k < ((Tr.owned l).take k ++ (⟨na, nb, ⟨#[]⟩, 1⟩ : Tr.Node) :: (Tr.owned l).drop k).length := by
          have h9 : (Tr.owned l).length ≤ 141733920768 := by first | assumption | omega
          rw [List.length_append, List.length_cons, List.length_take, List.length_drop]
          rw [List.length_take] at hAl
          omega
        have hB6 := hB5.trans (below_of_grown p2 hsz5 (fun q hq => by injection hq with hq; omega))
        have hcap := hO6.cap
        have HG := Lib.hid (trie_build (some ⟨g, 0, none⟩) _ c9 _ _ hO6.at'.2 hcap Hq2.out HP.out.sorted (by rw [hlen]; omega))
        rw [hlen] at HG
        rw [Hq1.out] at HG
        have Hb6 := Lib.hid hB6
        generalize ((Tr.owned l).take k ++ (⟨na, nb, ⟨#[]⟩, 1⟩ : Tr.Node) :: (Tr.owned l).drop k).length = N5 at *
        have hi1 : (k : Int) < (N5 : Int) := by omega
        clear hrow p1 p2 hO6 hlen hcap hB6 hnode o5 b5 HI t0 t1
        go_wp2_with fail
        refine HG.out.mono ?_
        rintro e w7 ⟨v7, rfl, o7, b7⟩
        have hb7s : w.heap.size ≤ (w5.setCell ⟨g, k * 4 + 2, none⟩ (.string o)).heap.size := by simp; omega
        have B7 := hA.trans ((b2.trans ((Hb6.out.trans (b7.mono (by simp; omega))).mono hsz2)).mono (by omega))
        have HO7 := Lib.hid (o7.base hb7s)
        clear o7 b7 HG
        go_wp2
        go_ret2
        exact ⟨⟨_, rfl, HO7.out⟩, B7⟩
  · have Hr : Hid (Tr.pe (na, nb) o l = Tr.be (na, nb) l ∧ Tr.putL (na, nb) o l = []) := Lib.hid (by
      have e1 : Tr.pe (na, nb) o l = Tr.be (na, nb) l := by unfold Tr.pe; rw [if_neg hz]
      exact ⟨e1, by unfold Tr.putL; rw [e1, if_neg hz]⟩)
    rw [Hr.out.1, Hr.out.2]
    have hz' : ((Tr.be (na, nb) l : Int) != 0) = true := by simp; omega
    clear h hf hz hat1 hN1 Hr
    generalize Tr.be (na, nb) l = E at *
    go_enter Tryz.func22, Tryz.ntmps22
    go_wp2_with fail
    rw [← hw1]
    clear hw1
    refine H1.out.mono ?_
    rintro e w2 ⟨rfl, b2⟩
    have B2 := hA.trans (b2.mono (by omega))
    clear t0 t1 b2 H1
    go_wp2
    go_ret2
    exact ⟨⟨_, rfl, OwnN.nil _ _⟩, B2⟩
end Go.Proofs.YtjdflnnpamjjcaaGreatDoor

namespace Go.Proofs.YtjdflnnpamjjcaaGreatDoor
open Go.RowKit

set_option maxRecDepth 20000 in
set_option maxHeartbeats 16000000 in
theorem conf_Tree (x : Cf.C) (a : Option Addr) (c : Nat) (w : World) (h : PeersAt w w.heap.size a x.ps.length x.ps) (hcap : x.ps.length ≤ c) (hk : x.k.size ≤ 1048576) (hs : ∀ p ∈ x.ps, PeerSmall p) (hb : ∀ p ∈ x.ps, PeerBounds p) (hT : CodeTabs w) :
    Calls Tryz.prog 11 #[confV x a c] w fun e w' => (∃ v, e = .returned (.tuple #[v, .int .i64 (Cf.err x : Int)]) ∧ OwnN w' w.heap.size v (Cf.treeOut x)) ∧ Below w.heap.size w w' := by
  have HF := Lib.hid (fun W (hW : Below w.heap.size w W) => conf_Check x a c W ((h.below hW).more hW.size) hcap hk hs hb (hT.below hW))
  have HO := Lib.hid (fun he => Cf.conf_ok (x := x) he)
  have HTP := Lib.hid (fun (he : Cf.err x = 0) M R y hM => Cf.tree_put (x := x) he (fun p hp n hn => ((hb p hp).1 n hn).1) (M := M) (R := R) (y := y) hM)
  have HT1 : Hid (Cf.err x ≠ 0 → Cf.treeOut x = []) := Lib.hid (fun he => by unfold Cf.treeOut; rw [if_neg he])
  have HT0 : Hid (Cf.err x = 0 → Cf.treeOut x = Tr.trie (Cf.allNodes x.ps)) := Lib.hid (fun he => by unfold Cf.treeOut; rw [if_pos he])
  have Hbd := Lib.hid hb
  obtain ⟨T, hTT⟩ : ∃ T, T = Cf.treeOut x := ⟨_, rfl⟩
  obtain ⟨r, hr⟩ : ∃ r, r = Cf.err x := ⟨_, rfl⟩
  rw [← hTT]
  rw [← hTT] at HT1 HT0
  rw [← hr] at HF HO HT1 HT0 HTP ⊢
  clear hTT hr
  obtain ⟨ck, cp, l⟩ := x
  simp only at h hk hs hb HO HT0 Hbd HTP
  have H := Lib.hid h
  obtain ⟨n, hn⟩ : ∃ n, n = l.length := ⟨_, rfl⟩
  unfold confV at HF ⊢
  simp only at HF ⊢
  rw [← hn] at H HF HO ⊢
  have Hn := Lib.hid hn
  clear h hk hs hb hT hn hcap
  obtain ⟨w1, hw1⟩ : ∃ w1, w1 = w.alloc (.cells #[.string ck, .int .i64 cp, .slice a n c] 24) := ⟨_, rfl⟩
  have HA := Lib.hid (show Below w.heap.size w w1 by rw [hw1]; exact (Below.refl _ _).alloc (Nat.le_refl _) _)
  have HG := Lib.hid (show Blk w1 w.heap.size 24 [.string ck, .int .i64 cp, .slice a n c] by rw [hw1]; exact Blk.new _ _ _)
  have g0 := HG.out.cell 0 rfl
  have g1 := HG.out.cell 1 rfl
  have g2 := HG.out.cell 2 rfl
  go_enter Tryz.func11, Tryz.ntmps11
  go_wp2_with fail
  rw [← hw1]
  clear hw1
  refine (HF.out w1 HA.out).mono ?_
  rintro e w2 ⟨rfl, hb2⟩
  have HG2 := Lib.hid (HG.out.kept hb2)
  have HA2 := Lib.hid (HA.out.trans (hb2.mono HA.out.size))
  clear hb2 HG HA HF g0 g1 g2
  by_cases h1 : r = 0
  rotate_left
  · have hn1 : ((r : Int) != 0) = true := by simpa using h1
    have Hr := Lib.hid (HT1.out h1)
    clear h1
    go_wp2
    go_ret2
    exact ⟨⟨_, rfl, by rw [Hr.out]; exact OwnN.nil _ _⟩, HA2.out⟩
  subst h1
  obtain ⟨o1, o2⟩ := HO.out (by trivial)
  have hn6 : n ≤ 6 := o1
  have Ho2 := Lib.hid o2
  have Hr0 := Lib.hid (HT0.out (by trivial))
  have HTP0 := Lib.hid (fun M R y hM => HTP.out (by trivial) M R y hM)
  have g2 := HG2.out.cell 2 rfl
  clear HT1 HT0 HO o1 o2 HTP
  go_wp2
  go_loopw [5, 18] (fun v i wr => ∃ k : Nat, k ≤ n ∧ i = .int .i64 (k : Int) ∧ Hid (OwnN wr w.heap.size v (Tr.trie (Cf.allNodes (l.take k)))) ∧ Hid (Below w.heap.size w wr)) (fun _ i _ => n - (intOf i).toNat)
  case atStart => exact ⟨0, Nat.zero_le _, rfl, Lib.hid (show OwnN _ _ _ (Tr.trie []) by rw [Tr.trie_nil]; exact OwnN.nil _ _), HA2⟩
  case round =>
    obtain ⟨k, hk, rfl, HOw, HBo⟩ := hrel
    obtain ⟨wo, hwo⟩ : ∃ wo, wo = wr := ⟨_, rfl⟩
    subst hwo
    have hsz := HBo.out.size
    by_cases hlt : k < n
    · have hll : k < l.length := by have := Hn.out; omega
      obtain ⟨b, off, rfl, hbl, hc⟩ := (H.out.below HBo.out).2 (by omega)
      obtain ⟨c0, c1, c2, c3, xa, cc, c4, hnets⟩ := hc k hll
      have Hpb := Lib.hid ((Hbd.out _ (List.getElem_mem hll)).1)
      have Hro := Lib.hid (Cf.right_ok (Ho2.out _ (List.getElem_mem hll)))
      have F6 := Lib.hid (Cf.all_next l k hll)
      have HST := Lib.hid (fun j hj => by obtain ⟨R, hR⟩ := Cf.all_part hll (j := j) hj; exact HTP0.out _ R _ hR)
      have hlen : (Cf.allNodes (l.take k)).length ≤ 48 := by
        have := Cf.all_small (l := l.take k) (fun p hp => (Cf.right_ok (Ho2.out p (List.mem_of_mem_take hp))).1)
        rw [List.length_take] at this
        omega
      clear hc
      generalize l[k] = p at *
      have HN := Lib.hid hnets
      clear hnets
      generalize Cf.allNodes (l.take k) = M at *
      obtain ⟨pk, ps, pe, pv, ns⟩ := p
      simp only at c0 c1 c2 c3 c4 F6 Hro Hpb HN HST
      obtain ⟨m, hm⟩ : ∃ m, m = ns.length := ⟨_, rfl⟩
      have Hmn := Lib.hid hm
      rw [← hm] at c4 HN
      have hm8 : m ≤ 8 := by rw [hm]; exact Hro.out.1
      clear hm
      obtain ⟨w5, hw5⟩ : ∃ w5, w5 = wo.alloc (.cells #[.string pk, .string ps, .string pe, .int .i64 pv, .slice xa m cc] 41) := ⟨_, rfl⟩
      have HS5 := Lib.hid (show Blk w5 wo.heap.size 41 [.string pk, .string ps, .string pe, .int .i64 pv, .slice xa m cc] by rw [hw5]; exact Blk.new _ _ _)
      have HB5 := Lib.hid (show Below w.heap.size w w5 by rw [hw5]; exact HBo.out.alloc hsz _)
      have HO5 := Lib.hid (show OwnN w5 w.heap.size _ (Tr.trie M) by rw [hw5]; exact HOw.out.alloc _)
      obtain ⟨⟨s0, s1, s2, s3, s4⟩, -⟩ := HS5.out.facts5
      go_upto_region 8 with fail
      rw [← hw5]
      clear hw5 c0 c1 c2 c3 c4
      go_wp2
      go_loopw [5, 25] (fun v' i wr => ∃ j : Nat, j ≤ m ∧ i = .int .i64 (j : Int) ∧ Hid (OwnN wr w.heap.size v' (Tr.trie (M ++ (ns.take j).map (Cf.nodeOf pk)))) ∧ Hid (Blk wr wo.heap.size 41 [.string pk, .string ps, .string pe, .int .i64 pv, .slice xa m cc]) ∧ Hid (Below w.heap.size w wr)) (fun _ i _ => m - (intOf i).toNat)
      case atStart => exact ⟨0, Nat.zero_le _, rfl, Lib.hid (by simpa using HO5.out), HS5, HB5⟩
      case round =>
        obtain ⟨j, hj, rfl, HOj, HSj, HBi⟩ := hrel
        obtain ⟨wi, hwi⟩ : ∃ wi, wi = wr := ⟨_, rfl⟩
        subst hwi
        have hsi := HBi.out.size
        have hpl := HSj.out.lt
        by_cases hlt2 : j < m
        · have hjl : j < ns.length := by have := Hmn.out; omega
          obtain ⟨b2, off2, rfl, hb2l, hc2⟩ := HN.out.2 (by omega)
          obtain ⟨d0, d1⟩ := hc2 j hjl
          have hce : ∀ ad : Addr, ad.block < w.heap.size → wi.cell? ad = wo.cell? ad := fun ad h => (HBi.out.cell h).trans (HBo.out.cell h).symm
          have c0 := (hce ⟨b2, off2 + j * 2, none⟩ hb2l).trans d0
          have c1 := (hce ⟨b2, off2 + j * 2 + 1, none⟩ hb2l).trans d1
          have Htk : Hid (M ++ (ns.take (j + 1)).map (Cf.nodeOf pk) = (M ++ (ns.take j).map (Cf.nodeOf pk)) ++ [Cf.nodeOf pk (ns[j]'hjl)]) := Lib.hid (by rw [List.take_succ_eq_append_getElem hjl, List.map_append, List.map_singleton, List.append_assoc])
          obtain ⟨t1, t2, t3, t4⟩ := HST.out j hjl
          have hLl : (M ++ (ns.take j).map (Cf.nodeOf pk)).length ≤ 100 := by
            rw [List.length_append, List.length_map, List.length_take]
            omega
          have hxb := Hpb.out _ (List.getElem_mem hjl)
          have Ht34 := Lib.hid (And.intro t3 t4)
          clear d0 d1 hce hc2 t3 t4
          generalize ns[j]'hjl = x at *
          generalize M ++ (ns.take j).map (Cf.nodeOf pk) = L at *
          obtain ⟨xn, xb⟩ := x
          simp only at c0 c1
          have htl : (Tr.trie L).length ≤ 200 := by omega
          obtain ⟨va, vc, hva, -, hat⟩ := HOj.out.at
          subst hva
          obtain ⟨w7, hw7⟩ : ∃ w7, w7 = wi.alloc (.cells #[.int .u32 (xn : Int), .int .i64 xb] 47) := ⟨_, rfl⟩
          have hA7 : Below wi.heap.size wi w7 := by rw [hw7]; exact (Below.refl _ _).alloc (Nat.le_refl _) _
          have hM7 := show Blk w7 wi.heap.size 47 [.int .u32 (xn : Int), .int .i64 xb] by rw [hw7]; exact Blk.new _ _ _
          have HS7 := Lib.hid (HSj.out.kept hA7)
          have HB7 := Lib.hid (HBi.out.trans (hA7.mono hsi))
          have m0 := hM7.cell 0 rfl
          have m1 := hM7.cell 1 rfl
          have p0 := HS7.out.cell 0 rfl
          have HP := Lib.hid (trie_Put va (Tr.trie L).length vc (Tr.trie L) xn xb pk w7 ((hat.below hA7).up hA7.size) t1 (by omega) hxb.1 hxb.2.1 hxb.2.2)
          have hp1 : Tr.pe (xn, xb) pk (Tr.trie L) = 0 := Ht34.out.1
          have hp2 : Tr.putL (xn, xb) pk (Tr.trie L) = Tr.trie (L ++ [Cf.nodeOf pk (xn, xb)]) := Ht34.out.2
          rw [hp1, hp2, ← Htk.out] at HP
          clear hA7 hM7 t1 t2 hat hp1 hp2 Ht34 HOj
          generalize (Tr.trie L).length = tl at *
          go_upto_region 11 with fail
          rw [← hw7]
          clear hw7 c0 c1
          go_wp2_with fail
          refine HP.out.mono ?_
          rintro e w8 ⟨⟨v8, rfl, hO8⟩, hb8⟩
          have HO8 := Lib.hid (hO8.base HB7.out.size)
          have HS8 := Lib.hid (HS7.out.kept hb8)
          have HB8 := Lib.hid (HB7.out.trans (hb8.mono HB7.out.size))
          clear hO8 hb8 HP m0 m1 p0
          go_wp2
          go_roundw
          case rel => exact ⟨j + 1, by omega, by go_num, HO8, HS8, HB8⟩
          case measure => simp [intOf]; omega
        · obtain rfl : j = m := by omega
          have htk : ns.take j = ns := List.take_of_length_le (by have := Hmn.out; omega)
          rw [htk, ← F6.out] at HOj
          clear htk
          go_wp2
          go_roundw
          case rel => exact ⟨k + 1, by omega, by go_num, HOj, HBi⟩
          case measure => simp [intOf]; omega
    · obtain rfl : k = n := by omega
      have htk : l.take k = l := List.take_of_length_le (by have := Hn.out; omega)
      rw [htk, ← Hr0.out] at HOw
      clear htk
      go_wp2
      go_ret2
      exact ⟨⟨_, rfl, HOw.out⟩, HBo.out⟩
end Go.Proofs.YtjdflnnpamjjcaaGreatDoor
