/- slices.Insert of one node into a row of nodes that is full. -/
import Derived.Test.YtelanamcpadgdaaTrieInsert2
import Derived.Lib.AppendZeros
namespace Go.Proofs.Ytelanamcpadgdaa
open Go.RowKit

theorem two_splices_new (S : List Tr.Node) (k : Nat) (hk : k ≤ S.length) (nd : Tr.Node) (Z1 Z2 : List Value) (hZ1 : Z1.length = (S.length + 1 - k) * 4) :
    (((Tr.nodesC (S.take k) ++ Z1 ++ Z2).take (k * 4) ++ Tr.nodeC nd ++ (Tr.nodesC (S.take k) ++ Z1 ++ Z2).drop (k * 4 + (Tr.nodeC nd).length)).take ((k + 1) * 4) ++ Tr.nodesC (S.drop k) ++ ((Tr.nodesC (S.take k) ++ Z1 ++ Z2).take (k * 4) ++ Tr.nodeC nd ++ (Tr.nodesC (S.take k) ++ Z1 ++ Z2).drop (k * 4 + (Tr.nodeC nd).length)).drop ((k + 1) * 4 + (Tr.nodesC (S.drop k)).length)) = Tr.nodesC (S.take k ++ nd :: S.drop k) ++ Z2 := by
  have hA : (Tr.nodesC (S.take k)).length = k * 4 := by rw [Tr.nodesC_length, List.length_take, Nat.min_eq_left hk]
  have hD : (Tr.nodesC (S.drop k)).length = (S.length - k) * 4 := by rw [Tr.nodesC_length, List.length_drop]
  have hN : (Tr.nodeC nd).length = 4 := rfl
  have t1 : (Tr.nodesC (S.take k) ++ Z1 ++ Z2).take (k * 4) = Tr.nodesC (S.take k) := by rw [List.append_assoc, ← hA, List.take_left']; rfl
  have t2 : (Tr.nodesC (S.take k) ++ Z1 ++ Z2).drop (k * 4 + (Tr.nodeC nd).length) = Z1.drop 4 ++ Z2 := by
    rw [hN, ← List.drop_drop, List.append_assoc, ← hA, List.drop_left', List.drop_append_of_le_length (by rw [hZ1]; omega)]
    rfl
  have hAN : (Tr.nodesC (S.take k) ++ Tr.nodeC nd).length = (k + 1) * 4 := by rw [List.length_append, hA, hN]; omega
  rw [t1, t2]
  have t3 : (Tr.nodesC (S.take k) ++ Tr.nodeC nd ++ (Z1.drop 4 ++ Z2)).take ((k + 1) * 4) = Tr.nodesC (S.take k) ++ Tr.nodeC nd := by rw [← hAN, List.take_left']; rfl
  have t4 : (Tr.nodesC (S.take k) ++ Tr.nodeC nd ++ (Z1.drop 4 ++ Z2)).drop ((k + 1) * 4 + (Tr.nodesC (S.drop k)).length) = Z2 := by
    rw [← List.drop_drop, ← hAN, List.drop_left' rfl, List.drop_left' (by rw [List.length_drop, hZ1, hD]; omega)]
  rw [t3, t4, Tr.nodesC_append, nodesC_cons]
  simp only [List.append_assoc]

set_option maxRecDepth 20000 in
set_option maxHeartbeats 3200000 in
theorem nodes_Insert_grow (g c : Nat) (S : List Tr.Node) (k gv : Nat) (nd : Tr.Node) (w : World) (B : Nat) (X : List Value) (hg : w.heap[g]? = some (.cells (Tr.nodesC S ++ X).toArray 56 (0, 0))) (hB : B ≤ w.heap.size) (hk : k < S.length) (hSc : S.length ≤ c) (hroom : c < S.length + 1) (hn : S.length + 1 ≤ 3518437208883) (hnd : NodeIn w gv nd) :
    Calls Try.prog 45 #[.slice (some ⟨g, 0, none⟩) S.length c, .int .i64 (k : Int), .slice (some ⟨gv, 0, none⟩) 1 1] w fun e w' => ∃ v', e = .returned v' ∧ OwnN w' B v' (S.take k ++ nd :: S.drop k) ∧ Below B w w' := by
  have hvv : w.heap[gv]? = some (.cells (Tr.nodeC nd).toArray 56 (0, 0)) := hnd
  have hglt : g < w.heap.size := by
    by_cases hc : g < w.heap.size
    · exact hc
    · rw [Array.getElem?_eq_none (by omega)] at hg; cases hg
  have hD : (Tr.nodesC (S.drop k)).length = (S.length - k) * 4 := by rw [Tr.nodesC_length, List.length_drop]
  have hA : (Tr.nodesC (S.take k)).length = k * 4 := by rw [Tr.nodesC_length, List.length_take, Nat.min_eq_left (by omega)]
  obtain ⟨i0, hi0, hz0, hzs, hzb⟩ := info_node
  have hcell : ∀ j v, (Tr.nodesC (S.take k))[j]? = some v → w.cell? ⟨g, j, none⟩ = some v := fun j v hj => by
    have hjl := (List.getElem?_eq_some_iff.1 hj).1
    have e : Tr.nodesC S = Tr.nodesC (S.take k) ++ Tr.nodesC (S.drop k) := by rw [← Tr.nodesC_append, List.take_append_drop]
    rw [block_cell hg, e, List.append_assoc, List.getElem?_append_left hjl]
    exact hj
  have hold : (Builtin.firstCells i0.size k (.slice (some ⟨g, 0, none⟩) k c)).run Try.prog w.drew = .ok (Tr.nodesC (S.take k)).toArray w.drew := by
    rw [hzs]
    exact run_firstCells_some w.drew 4 k ⟨g, 0, none⟩ k c (Tr.nodesC (S.take k)) hA (fun j v hj => by
      rw [Addr.add_lit, Nat.zero_add]
      exact hcell j v hj)
  have hkk : (S.length : Int) + 1 - (k : Int) = ((S.length + 1 - k : Nat) : Int) := by omega
  have hik : k + (S.length + 1 - k) = S.length + 1 := by omega
  obtain ⟨G, hG⟩ : ∃ G, G = grownCap w (S.length + 1) c 56 := ⟨_, rfl⟩
  obtain ⟨Z1, hZ1⟩ : ∃ Z1, Z1 = (Builtin.zeroCells (Value.agg #[.int .u32 0, .int .i64 0, .string ByteArray.empty, .int .i64 0]).cells (S.length + 1 - k)).toList := ⟨_, rfl⟩
  obtain ⟨Z2, hZ2⟩ : ∃ Z2, Z2 = (Builtin.zeroCells (Value.agg #[.int .u32 0, .int .i64 0, .string ByteArray.empty, .int .i64 0]).cells (G - (S.length + 1))).toList := ⟨_, rfl⟩
  have hZ1l : Z1.length = (S.length + 1 - k) * 4 := by rw [hZ1]; simp [Builtin.zeroCells, Value.cells]
  have hZ2l : Z2.length = (G - (S.length + 1)) * 4 := by rw [hZ2]; simp [Builtin.zeroCells, Value.cells]
  obtain ⟨W1, hW1⟩ : ∃ W1, W1 = w.drew.alloc (.cells (Tr.nodesC (S.take k) ++ Z1 ++ Z2).toArray 56) := ⟨_, rfl⟩
  have hrz : ∀ ty, (Builtin.append_ #[22, 3] ty #[.slice (some ⟨g, 0, none⟩) k c, .int .i64 ((S.length : Int) + 1 - (k : Int))]).run Try.prog w = .ok (.slice (some ⟨w.heap.size, 0, none⟩) (S.length + 1) G) W1 := fun ty => by
    have h := Lib.run_append_grow_zeros w 22 3 ty 56 i0 _ .i64 .i64 Try.underlying22 Try.underlying3 hi0 hz0 (some ⟨g, 0, none⟩) k c (Tr.nodesC (S.take k)) hold (S.length + 1 - k) (by omega) (by omega) (by omega) (by omega) (by rw [hzb]; omega) (by rw [hzb, hik]; exact growslice_fits hroom (by omega))
    rw [hik] at h
    rw [hkk, hG, hW1, h]
    congr 3
    rw [hZ1, hZ2, hG]
    simp
  have hGn : S.length + 1 ≤ G := by rw [hG]; exact grownCap_ge w _ _ _
  have hGm : G ≤ maxLen := by rw [hG]; exact grownCap_le_maxLen w (S.length + 1) c 56 (by unfold maxLen; omega)
  have hg2 : W1.heap[w.heap.size]? = some (.cells (Tr.nodesC (S.take k) ++ Z1 ++ Z2).toArray 56 (0, 0)) := by rw [hW1]; exact heap_alloc_last w.drew _
  have hold1 : ∀ q, q < w.heap.size → W1.heap[q]? = w.heap[q]? := fun q hq => by rw [hW1]; exact Below.heap_alloc w.drew _ _ hq
  have hvl : gv < w.heap.size := hnd.lt
  have hv1 : W1.heap[gv]? = some (.cells (Tr.nodeC nd).toArray 56 (0, 0)) := (hold1 gv hvl).trans hvv
  have hL : (Tr.nodesC (S.take k) ++ Z1 ++ Z2).length = G * 4 := by rw [List.length_append, List.length_append, hA, hZ1l, hZ2l]; omega
  obtain ⟨W2, hc1, hh2, hgr2⟩ := run_copy_nodes W1 w.heap.size (k * 4) (S.length + 1 - k) (G - k) ⟨gv, 0, none⟩ 1 1 _ (Tr.nodeC nd) hg2 (by show 4 = Nat.min 1 (S.length + 1 - k) * 4; simp only [Nat.min_def]; split <;> omega)
    (fun j v hj => by rw [Addr.add_lit, block_cell hv1, Nat.zero_add]; exact hj) (by rw [hL]; show k * 4 + 4 ≤ _; omega) (by
      intro v hv
      simp only [Tr.nodeC, List.mem_cons, List.not_mem_nil, or_false] at hv
      rcases hv with rfl | rfl | rfl | rfl <;> rfl)
  have hW1s : W1.heap.size = w.heap.size + 1 := by rw [hW1]; simp
  obtain ⟨wd, hwd⟩ : ∃ wd, wd = W2.drew := ⟨_, rfl⟩
  have hhd : wd.heap = W2.heap := by rw [hwd]; rfl
  have hgd : wd.heap[g]? = some (.cells (Tr.nodesC S ++ X).toArray 56 (0, 0)) := by
    rw [hhd]
    exact ((hgr2.block g (by omega) (fun e => by injection e with e; omega)).trans (hold1 g hglt)).trans hg
  have hh2d := hh2
  rw [← hhd] at hh2d
  obtain ⟨W3, hc2, hh3, hgr3⟩ := run_copy_nodes wd w.heap.size ((k + 1) * 4) (S.length - k) (G - (k + 1)) ⟨g, k * 4, none⟩ (S.length - k) (c - k) _ (Tr.nodesC (S.drop k)) hh2d (by rw [hD]; congr 1; simp only [Nat.min_def]; split <;> omega)
    (fun j v hj => by
      rw [Addr.add_lit, block_cell hgd, List.getElem?_append_left (by have := (List.getElem?_eq_some_iff.1 hj).1; rw [hD] at this; rw [Tr.nodesC_length]; omega)]
      exact nodesC_drop_get (by omega) hj) (by
      rw [List.length_append, List.length_append, List.length_take, List.length_drop, hD, hL]
      show (k + 1) * 4 + (S.length - k) * 4 ≤ min (k * 4) (G * 4) + 4 + (G * 4 - (k * 4 + 4))
      omega) (Tr.nodesC_one _)
  rw [two_splices_new S k (by omega) nd Z1 Z2 hZ1l] at hh3
  have hlen : (S.take k ++ nd :: S.drop k).length = S.length + 1 := by rw [List.length_append, List.length_cons, List.length_take, List.length_drop]; omega
  have hOwn := own_of_block (B := B) (c := G) (l := S.take k ++ nd :: S.drop k) hh3 (by rw [hZ2l, hlen]) (by omega) hGm hB
  rw [hlen] at hOwn
  have HOwn := Lib.hid hOwn
  have HBel : Hid (Below B w W3) := Lib.hid (by
    have b1 : Below B w W1 := by rw [hW1]; exact ((Below.refl _ _).drew).alloc hB _
    have b2 := b1.trans (below_of_grown hgr2 (by omega) (fun q hq => by injection hq with hq; omega))
    have b3 : Below B w wd := by rw [hwd]; exact b2.drew
    exact b3.trans (below_of_grown hgr3 (by have := b3.size; omega) (fun q hq => by injection hq with hq; omega)))
  have hmin1 : Nat.min 1 (S.length + 1 - k) = 1 := by simp only [Nat.min_def]; split <;> omega
  have hmin2 : Nat.min (S.length - k) (S.length - k) = S.length - k := Nat.min_self _
  rw [hmin1] at hc1
  rw [hmin2] at hc2
  unfold maxLen at hGm
  clear hg hnd hvv hD hA hi0 hz0 hzs hzb hcell hold hkk hik hG hZ1 hZ2 hZ1l hZ2l hW1 hg2 hold1 hv1 hL hh2 hgr2 hgd hh2d hhd hh3 hgr3 hlen hOwn hmin1 hmin2 hW1s
  generalize S.length = n at *
  have hz2 : ((k : Int) == (n : Int)) = false := beq_eq_false_iff_ne.2 (by omega)
  have hz3 : decide ((c : Int) < (n : Int) + 1) = true := decide_eq_true (by omega)
  have hz4 : (c : Int) < (n : Int) + 1 := by omega
  have hw1 : IntKind.i64.wrap ((n : Int) + 1) = (n : Int) + 1 := IntWalk.i64_in _ (by omega)
  have hw2 : IntKind.i64.wrap ((k : Int) + 1) = (k : Int) + 1 := IntWalk.i64_in _ (by omega)
  have hw3 : IntKind.i64.wrap ((n : Int) + 1 - (k : Int)) = (n : Int) + 1 - (k : Int) := IntWalk.i64_in _ (by omega)
  have hck : ¬ c - k = 0 := by omega
  have hGk : ¬ G - k = 0 := by omega
  have hGk1 : ¬ G - (k + 1) = 0 := by omega
  have i1 : (k : Int) ≤ (n : Int) := by omega
  have i2 : (n : Int) ≤ (c : Int) := by omega
  have i2' : (k : Int) ≤ (c : Int) := by omega
  have i3 : (k : Int) + 1 ≤ (n : Int) + 1 := by omega
  have i4 : ((k : Int) + 1).toNat = k + 1 := by omega
  have i6 : (n + 1) - (k + 1) = n - k := by omega
  have i7 : (0 : Int) ≤ (k : Int) + 1 := by omega
  have i8 : (k : Int) ≤ (n : Int) + 1 := by omega
  have i9 : (0 : Int) ≤ (k : Int) := by omega
  go_enter Try.func45, Try.ntmps45
  go_wp2_with (at_builtin; refine Lib.wpList_append_run _ rfl _ _ _ _ rfl _ _ rfl rfl _ _ (hrz _) ?_)
  go_wp2_with fail
  go_still_tail 8, (by kernel_rfl)
  change wpList _ _ _ _ _ W2.drew
  rw [← hwd]
  clear hwd
  go_wp2
  go_ret
  exact ⟨_, rfl, HOwn.out, HBel.out⟩

/-- slices.Insert of one node into a row of nodes of the call's own. -/
theorem nodes_Insert (v : Value) (S : List Tr.Node) (k gv : Nat) (nd : Tr.Node) (w : World) (B : Nat) (hO : OwnN w B v S) (hB : B ≤ w.heap.size) (hk : k ≤ S.length) (hn : S.length + 1 ≤ 3518437208883) (hnd : NodeIn w gv nd) (hap : v.ownBlock ≠ some gv) :
    Calls Try.prog 45 #[v, .int .i64 (k : Int), .slice (some ⟨gv, 0, none⟩) 1 1] w fun e w' => ∃ v', e = .returned v' ∧ OwnN w' B v' (S.take k ++ nd :: S.drop k) ∧ Below B w w' := by
  rcases Nat.eq_or_lt_of_le hk with rfl | hlt
  · rw [List.take_length, List.drop_length]
    exact nodes_Insert_end v S gv nd w B hO hB hn hnd
  · obtain ⟨g, c, X, rfl, hSc, hm, hBg, _, hg, hX⟩ := hO.block (by intro e; rw [e] at hlt; simp at hlt)
    by_cases hroom : S.length + 1 ≤ c
    · exact nodes_Insert_room g c S k gv nd w B X hg hX hBg hB hm hlt hroom hn hnd (fun e => hap (by rw [e]; rfl))
    · exact nodes_Insert_grow g c S k gv nd w B X hg hB hlt hSc (by omega) hn hnd
end Go.Proofs.Ytelanamcpadgdaa
