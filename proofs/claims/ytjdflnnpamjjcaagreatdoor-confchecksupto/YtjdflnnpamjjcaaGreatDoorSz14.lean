/- The contract of the program's net.Join. -/
import Derived.Test.YtjdflnnpamjjcaaGreatDoorSz13
import Derived.Test.YtjdflnnpamjjcaaGreatDoorSz12
import Derived.Test.YtjdflnnpamjjcaaGreatDoorSz01
import Derived.Shelf.Small.Bits
import Derived.Test.YtjdflnnpamjjcaaGreatDoorProg
import Derived.Test.YtjdflnnpamjjcaaGreatDoorNetFacts
import Derived.Lib.BitFns
import Derived.StillTailTactics
namespace Go.Proofs.YtjdflnnpamjjcaaGreatDoor
open Go.RowKit

namespace Tr
theorem halves_lt {l : List Node} (hg : ∀ n ∈ l, good (nw n)) (hl : l ≠ []) : (leftOf (topN l) l).length < l.length ∧ (rightOf (topN l) l).length < l.length := by
  have tl := left_top hg
  have tr := right_top hg
  constructor
  · refine Nat.lt_of_le_of_ne (List.length_filter_le _ _) fun e => ?_
    have h : leftOf (topN l) l = l := List.filter_eq_self.2 (List.length_filter_eq_length_iff.1 e)
    have := tl (by rw [h]; exact hl)
    rw [h] at this
    omega
  · refine Nat.lt_of_le_of_ne (List.length_filter_le _ _) fun e => ?_
    have h : rightOf (topN l) l = l := List.filter_eq_self.2 (List.length_filter_eq_length_iff.1 e)
    have := tr (by rw [h]; exact hl)
    rw [h] at this
    omega
end Tr
/-- grow's row, its boxed variable, the top's block; and what of the old world stands. -/
structure GrowSo (w W : World) (B : Nat) (v vk : Value) (lst : List Tr.Node) (g5 : Nat) (sv : Value) (t : Tr.Nw) : Prop where
  own : OwnN W B vk lst
  row : vk.ownBlock = v.ownBlock ∨ ∃ g, vk.ownBlock = some g ∧ w.heap.size ≤ g
  apart3 : vk.ownBlock ≠ some w.heap.size
  apart5 : vk.ownBlock ≠ some g5
  box : W.heap[w.heap.size]? = some (.cells #[sv] 33 (0, 0))
  top : NetIn W g5 t.1 t.2
  grown : w.grownBy W v.ownBlock
  lt5 : g5 < W.heap.size
  lt3 : w.heap.size < W.heap.size
  ne5 : w.heap.size ≠ g5
theorem GrowSo.below {w W W' : World} {B g5 : Nat} {v vk sv : Value} {lst : List Tr.Node} {t : Tr.Nw} (h : GrowSo w W B v vk lst g5 sv t) (hb : Below W.heap.size W W') : GrowSo w W' B v vk lst g5 sv t :=
  ⟨h.own.below hb, h.row, h.apart3, h.apart5, (hb.block _ h.lt3).trans h.box, h.top.below hb,
    ⟨hb.os.trans h.grown.os, hb.tape.trans h.grown.tape, hb.output.trans h.grown.output, Nat.le_trans h.grown.size hb.size, fun k hk hr => (hb.block k (Nat.lt_of_lt_of_le hk h.grown.size)).trans (h.grown.block k hk hr)⟩,
    Nat.lt_of_lt_of_le h.lt5 hb.size, Nat.lt_of_lt_of_le h.lt3 hb.size, h.ne5⟩
theorem GrowSo.step {w W W' : World} {B g5 : Nat} {v vk vk' sv : Value} {lst lst' : List Tr.Node} {t : Tr.Nw} (h : GrowSo w W B v vk lst g5 sv t) (ho : OwnN W' B vk' lst') (hg : W.grownBy W' vk.ownBlock) (hr : vk'.ownBlock = vk.ownBlock ∨ ∃ g, vk'.ownBlock = some g ∧ W.heap.size ≤ g) : GrowSo w W' B v vk' lst' g5 sv t := by
  have hsz := h.grown.size
  refine ⟨ho, ?_, ?_, ?_, (hg.block _ h.lt3 (Ne.symm h.apart3)).trans h.box, (hg.block _ h.lt5 (Ne.symm h.apart5)).trans h.top, ⟨hg.os.trans h.grown.os, hg.tape.trans h.grown.tape, hg.output.trans h.grown.output, Nat.le_trans hsz hg.size, fun k hk hr' => ?_⟩, Nat.lt_of_lt_of_le h.lt5 hg.size, Nat.lt_of_lt_of_le h.lt3 hg.size, h.ne5⟩
  · rcases hr with hr | ⟨g, hr, hge⟩
    · rw [hr]; exact h.row
    · exact .inr ⟨g, hr, by omega⟩
  · rcases hr with hr | ⟨g, hr, hge⟩
    · rw [hr]; exact h.apart3
    · rw [hr]; intro e; injection e with e; have := h.lt3; omega
  · rcases hr with hr | ⟨g, hr, hge⟩
    · rw [hr]; exact h.apart5
    · rw [hr]; intro e; injection e with e; have := h.lt5; omega
  · refine (hg.block k (Nat.lt_of_lt_of_le hk hsz) fun e => ?_).trans (h.grown.block k hk hr')
    rcases h.row with hv | ⟨g, hv, hge⟩
    · exact hr' (e.trans hv)
    · rw [hv] at e; injection e with e; omega
theorem GrowSo.boxed {w W : World} {B g5 : Nat} {v vk sv : Value} {lst : List Tr.Node} {t : Tr.Nw} (h : GrowSo w W B v vk lst g5 sv t) (sv' : Value) : GrowSo w (W.setCell ⟨w.heap.size, 0, none⟩ sv') B v vk lst g5 sv' t := by
  refine ⟨h.own.newer fun b hb e => h.apart3 (e ▸ hb), h.row, h.apart3, h.apart5, ?_, ?_, ⟨h.grown.os, h.grown.tape, h.grown.output, by simpa using h.grown.size, fun k hk hr => ?_⟩, by simpa using h.lt5, by simpa using h.lt3, h.ne5⟩
  · rw [heap_setCell_same _ _ _ _ _ _ h.box]; rfl
  · exact (heap_setCell_other W ⟨w.heap.size, 0, none⟩ g5 sv' (Ne.symm h.ne5)).trans h.top
  · exact (heap_setCell_other W ⟨w.heap.size, 0, none⟩ k sv' (by show k ≠ w.heap.size; omega)).trans (h.grown.block k hk hr)
theorem GrowSo.cell {w W : World} {B g5 : Nat} {v vk sv : Value} {lst : List Tr.Node} {t : Tr.Nw} (h : GrowSo w W B v vk lst g5 sv t) : W.cell? ⟨w.heap.size, 0, none⟩ = some sv ∧ W.frozen? ⟨w.heap.size, 0, none⟩ = false := by
  refine ⟨(cell_of_row _ _ 0 _ _ _ h.box).trans rfl, ?_⟩
  have := h.box
  simp [World.frozen?, this]
theorem GrowSo.nodes {w W : World} {B g5 n : Nat} {v vk sv : Value} {lst l : List Tr.Node} {t : Tr.Nw} {a : Option Addr} (h : GrowSo w W B v vk lst g5 sv t) (hB : B ≤ w.heap.size) (hv : ∀ g, v.ownBlock = some g → B ≤ g) (hn : NodesAt w B a n l) : NodesAt W B a n l := hn.below (below_of_grown h.grown hB hv)
/-- What grow has left to do behind the top. -/
structure RestSo (w : World) (B b o2 n2 c2 : Nat) (q : List Tr.Node) (nd : Tr.Node) (t : Tr.Nw) (l : List Tr.Node) : Prop where
  nodes : NodesAt w B (some ⟨b, o2, none⟩) n2 q
  cap : n2 ≤ c2
  within : Tr.Within t q
  sorted : Tr.sorted q
  nd : nd = ⟨t.1, t.2, Tr.ownerOf t l, 0⟩
  left : Tr.leftOf t l = Tr.leftOf t q
  right : Tr.rightOf t l = Tr.rightOf t q
  le : n2 ≤ l.length
  mem : ∀ n ∈ q, n ∈ l
/-- The cells of a row's node, and that it can be written. -/
theorem row_node {w : World} {B g c : Nat} {acc more : List Tr.Node} {nd : Tr.Node} (h : w.ownsRow B 53 4 (.slice (some ⟨g, 0, none⟩) (acc ++ nd :: more).length c) (acc ++ nd :: more).length (Tr.nodesC (acc ++ nd :: more))) :
    w.cell? ⟨g, acc.length * 4 + 2, none⟩ = some (.string nd.o) ∧ w.cell? ⟨g, acc.length * 4 + 3, none⟩ = some (.int .i64 nd.s) ∧ w.frozen? ⟨g, acc.length * 4 + 2, none⟩ = false ∧ w.frozen? ⟨g, acc.length * 4 + 3, none⟩ = false := by
  have e : ∀ j, j < 4 → (Tr.nodesC (acc ++ nd :: more))[acc.length * 4 + j]? = (Tr.nodeC nd)[j]? := by
    intro j hj
    rw [Tr.nodesC_get _ acc.length j (by simp) hj]
    simp
  have k : ∀ j u, (Tr.nodesC (acc ++ nd :: more))[j]? = some u → w.cell? ⟨g, j, none⟩ = some u := by
    intro j u hj
    have hl : j < (Tr.nodesC (acc ++ nd :: more)).length := (List.getElem?_eq_some_iff.1 hj).1
    rw [h.cellAt j (by rw [← h.1]; exact hl), hj]
  exact ⟨k _ _ (e 2 (by decide)), k _ _ (e 3 (by decide)), h.frozenAt _, h.frozenAt _⟩
/-- The last store of grow: the size of its node. -/
theorem grow_last {w W : World} {B g5 : Nat} {v v8 sv : Value} {acc GL GR : List Tr.Node} {nd : Tr.Node} {t : Tr.Nw} (h : GrowSo w W B v v8 (acc ++ [nd] ++ GL ++ GR) g5 sv t) :
    ∃ g8 c8, v8 = .slice (some ⟨g8, 0, none⟩) (acc ++ nd :: (GL ++ GR)).length c8 ∧ (acc ++ nd :: (GL ++ GR)).length ≤ c8 ∧ W.cell? ⟨g8, acc.length * 4 + 3, none⟩ = some (.int .i64 nd.s) ∧ W.frozen? ⟨g8, acc.length * 4 + 3, none⟩ = false ∧
      (∀ s, OwnN (W.setCell ⟨g8, acc.length * 4 + 3, none⟩ (.int .i64 s)) B (.slice (some ⟨g8, 0, none⟩) (acc ++ nd :: (GL ++ GR)).length c8) (acc ++ { nd with s := s } :: (GL ++ GR))) ∧
      (∀ s, w.grownBy (W.setCell ⟨g8, acc.length * 4 + 3, none⟩ (.int .i64 s)) v.ownBlock) ∧ (v8.ownBlock = v.ownBlock ∨ ∃ g, v8.ownBlock = some g ∧ w.heap.size ≤ g) := by
  have e : acc ++ [nd] ++ GL ++ GR = acc ++ nd :: (GL ++ GR) := by simp
  rw [e] at h
  obtain ⟨g, c, rfl, hc, hB, hlt, hrow⟩ := h.own.row (by simp)
  obtain ⟨_, m1, _, m3⟩ := row_node hrow
  refine ⟨g, c, rfl, hc, m1, m3, fun s => ?_, fun s => ?_, h.row⟩
  · obtain ⟨p1, _⟩ := OwnN.put3 hrow s
    exact ⟨_, c, by simp, p1⟩
  · obtain ⟨p1, p2⟩ := OwnN.put3 hrow s
    exact (h.step (lst' := acc ++ { nd with s := s } :: (GL ++ GR)) (vk' := .slice (some ⟨g, 0, none⟩) (acc ++ nd :: (GL ++ GR)).length c) ⟨_, c, by simp, p1⟩ p2 (.inl rfl)).grown
end Go.Proofs.YtjdflnnpamjjcaaGreatDoor

namespace Go.Proofs.YtjdflnnpamjjcaaGreatDoor
open Go.RowKit

set_option maxHeartbeats 800000 in
theorem net_Of (a : Nat) (b : Int) (w : World) (ha : a < 4294967296) (_b0 : -9223372036854775808 ≤ b) (_b1 : b ≤ 9223372036854775807) :
    Calls Tryz.prog 105 #[.int .u32 (a : Int), .int .i64 b] w fun e w' => e = .returned (.tuple #[netV (Nt.ofAddr a b) (Nt.ofBits b), .int .i64 (Nt.ofErr b : Int)]) ∧ Below w.heap.size w w' := by
  have R4 := own_two (w := w.alloc (.cells #[.int .u32 0, .int .i64 0] 47)) (base := w.heap.size) (heap_alloc_last w _) (Nat.le_refl _)
  have hA : Below w.heap.size w (w.alloc (.cells #[.int .u32 0, .int .i64 0] 47)) := (Below.refl _ _).alloc (Nat.le_refl _) _
  have HR := Lib.hid (fun W => net_inRange b W)
  unfold netV
  by_cases h : b < 0 ∨ 32 < b
  · have H1 := Lib.hid (show Nt.ofAddr a b = 0 by unfold Nt.ofAddr; rw [if_pos h])
    have H2 := Lib.hid (show Nt.ofBits b = 0 by unfold Nt.ofBits; rw [if_pos h])
    have H3 := Lib.hid (show Nt.ofErr b = 4 by unfold Nt.ofErr; rw [if_pos h])
    rw [decide_eq_false (show ¬ (0 ≤ b ∧ b ≤ 32) by omega)] at HR
    go_enter Tryz.func105, Tryz.ntmps105
    go_wp2_with fail
    refine (HR.out _).mono ?_
    rintro e w1 ⟨rfl, hw1⟩
    subst hw1
    go_wp2
    exact bodyPost_ret (net_ret Tryz.results105 rfl rfl R4) rfl ⟨ret_net_err (by rw [H1.out, H2.out]; rfl) (by rw [H3.out]; rfl), hA⟩
  · obtain ⟨n, rfl⟩ : ∃ n : Nat, b = (n : Int) := ⟨b.toNat, by omega⟩
    have hn : n ≤ 32 := by omega
    have H1 := Lib.hid (show Nt.ofAddr a n = Nt.cut a n by unfold Nt.ofAddr; rw [if_neg h, Int.toNat_natCast])
    have H2 := Lib.hid (show Nt.ofBits n = n by unfold Nt.ofBits; rw [if_neg h])
    have H3 := Lib.hid (show Nt.ofErr n = 0 by unfold Nt.ofErr; rw [if_neg h])
    rw [decide_eq_true (show (0 ≤ (n : Int) ∧ (n : Int) ≤ 32) by omega)] at HR
    clear h
    have HM := Lib.hid (fun W => net_mask n W hn)
    have hb := bits_and_mask a n ha hn
    have R5 := own_two (w := w.alloc (.cells #[.int .u32 (Nt.cut a n : Int), .int .i64 (n : Int)] 47)) (base := w.heap.size) (heap_alloc_last w _) (Nat.le_refl _)
    have hB : Below w.heap.size w (w.alloc (.cells #[.int .u32 (Nt.cut a n : Int), .int .i64 (n : Int)] 47)) := (Below.refl _ _).alloc (Nat.le_refl _) _
    generalize Nt.mask n = m at *
    generalize Nt.cut a n = A at *
    go_enter Tryz.func105, Tryz.ntmps105
    go_wp2_with fail
    refine (HR.out _).mono ?_
    rintro e w1 ⟨rfl, hw1⟩
    subst hw1
    go_wp2_with fail
    refine (HM.out _).mono ?_
    rintro e w1 ⟨rfl, hw1⟩
    subst hw1
    go_wp2
    exact bodyPost_ret (net_ret Tryz.results105 rfl rfl R5) rfl ⟨ret_net_err (by rw [H1.out, H2.out]) (by rw [H3.out]; rfl), hB⟩
end Go.Proofs.YtjdflnnpamjjcaaGreatDoor

namespace Go.Proofs
open Go.Shelf
def Tryz.lays133_ren : Go.Shelf.Ren := ⟨fun | 133 => 104 | 128 => 117 | n => n, fun | 51 => 45 | 3 => 3 | 4 => 4 | 46 => 96 | 5 => 5 | 9 => 9 | n => n, fun | n => n⟩
theorem Tryz.lays133 : Go.Proofs.Lays.n133 Tryz.prog Tryz.lays133_ren := {
  mixed := by kernel_rfl
  f128 := Tryz.func117.trans (congrArg some (by kernel_rfl))
  f133 := Tryz.func104.trans (congrArg some (by kernel_rfl))
  t3 := Tryz.underlying3
  a3 := Tryz.isAgg3
  z3 := Tryz.sizeOf3
  v3 := Tryz.zeroValue3
  t4 := Tryz.underlying4
  a4 := Tryz.isAgg4
  z4 := Tryz.sizeOf4
  v4 := Tryz.zeroValue4
  t5 := Tryz.underlying5
  a5 := Tryz.isAgg5
  z5 := Tryz.sizeOf5
  v5 := Tryz.zeroValue5
  t9 := Tryz.underlying9
  a9 := Tryz.isAgg9
  z9 := Tryz.sizeOf9
  v9 := Tryz.zeroValue9
  t46 := Tryz.underlying96
  a46 := Tryz.isAgg96
  z46 := Tryz.sizeOf96
  v46 := Tryz.zeroValue96
  t51 := Tryz.underlying45
  a51 := Tryz.isAgg45
  z51 := Tryz.sizeOf45
  v51 := Tryz.zeroValue45 }
theorem Tryz.bits_LeadingZeros32 (x : Int) (w : World) (h0 : 0 ≤ x) (h1 : x ≤ 4294967295) :
    Calls Tryz.prog 104 #[.int .u32 x] w fun e w' => e = .returned (.int .i64 (32 - (Lib.bitLen x.toNat : Int))) ∧ w' = w := Any.bits_LeadingZeros32 Tryz.lays133 x w h0 h1
end Go.Proofs

namespace Go.Proofs.YtjdflnnpamjjcaaGreatDoor
open Go.RowKit

theorem bitLen_lt {x k : Nat} (hx : x < 4294967296) (h : Lib.bitLen x ≤ k) : x < 2 ^ k := by
  apply Decidable.byContradiction
  intro hn
  have h2 : 2 ^ k ≤ x := by omega
  have hs := Lib.bitLen_shift k x h2 (by omega)
  have hp := Nat.two_pow_pos k
  have hq : x / 2 ^ k ≠ 0 := by
    have := Nat.div_pos h2 hp
    omega
  have hl : x / 2 ^ k < 2 ^ 64 := Nat.lt_of_le_of_lt (Nat.div_le_self _ _) (by omega)
  have := Lib.bitLen_half _ hq hl
  omega
theorem cut_iff (n m j : Nat) (hn : n < 4294967296) (hm : m < 4294967296) (hj : j ≤ 32) : Nt.cut n j = Nt.cut m j ↔ j + Lib.bitLen (n ^^^ m) ≤ 32 := by
  have hx : n ^^^ m < 4294967296 := Nat.xor_lt_two_pow (n := 32) hn hm
  have e : (n ^^^ m) / 2 ^ (32 - j) = n / 2 ^ (32 - j) ^^^ m / 2 ^ (32 - j) := by
    rw [← Nat.shiftRight_eq_div_pow, ← Nat.shiftRight_eq_div_pow, ← Nat.shiftRight_eq_div_pow, Nat.shiftRight_xor_distrib]
  have hp := Nat.two_pow_pos (32 - j)
  constructor
  · intro h
    unfold Nt.cut at h
    have h1 : n / 2 ^ (32 - j) = m / 2 ^ (32 - j) := Nat.eq_of_mul_eq_mul_right hp h
    rw [h1, Nat.xor_self] at e
    have h2 : n ^^^ m < 2 ^ (32 - j) := by
      have := Nat.div_add_mod (n ^^^ m) (2 ^ (32 - j))
      rw [e, Nat.mul_zero, Nat.zero_add] at this
      rw [← this]; exact Nat.mod_lt _ hp
    have := Lib.bitLen_le _ (32 - j) (by omega) h2
    omega
  · intro h
    have h2 := bitLen_lt (x := n ^^^ m) (k := 32 - j) hx (by omega)
    rw [Nat.div_eq_of_lt h2] at e
    unfold Nt.cut
    have : n / 2 ^ (32 - j) = m / 2 ^ (32 - j) := by
      have h3 := congrArg (fun z => z ^^^ (m / 2 ^ (32 - j))) e
      simp only [Nat.xor_assoc, Nat.xor_self, Nat.xor_zero, Nat.zero_xor] at h3
      exact h3.symm
    rw [this]
theorem common_bits (n m k : Nat) (hn : n < 4294967296) (hm : m < 4294967296) (hk : k ≤ 32) : Nt.common n m k = min k (32 - Lib.bitLen (n ^^^ m)) := by
  have hx : n ^^^ m < 4294967296 := Nat.xor_lt_two_pow (n := 32) hn hm
  have hl := Lib.bitLen_le _ 32 (by decide) (show n ^^^ m < 2 ^ 32 from hx)
  have h1 := Nt.common_le n m k
  have h2 := (cut_iff n m _ hn hm (by omega)).1 (Nt.common_eq n m hn hm k)
  have h3 := Nt.common_max n m k (min k (32 - Lib.bitLen (n ^^^ m))) (Nat.min_le_left _ _) ((cut_iff n m _ hn hm (by omega)).2 (by omega))
  omega

theorem nt_of_join (a b c d : Nat) (hb : b ≤ 32) : Nt.ofAddr a ((Nt.common a c (min b d) : Nat) : Int) = Nt.cut a (Nt.common a c (min b d)) ∧ Nt.ofBits ((Nt.common a c (min b d) : Nat) : Int) = ((Nt.common a c (min b d) : Nat) : Int) ∧ Nt.ofErr ((Nt.common a c (min b d) : Nat) : Int) = 0 := by
  have := Nt.common_le a c (min b d)
  unfold Nt.ofAddr Nt.ofBits Nt.ofErr
  rw [if_neg (by omega), if_neg (by omega), if_neg (by omega), Int.toNat_natCast]
  exact ⟨rfl, rfl, rfl⟩

set_option maxRecDepth 20000 in
set_option maxHeartbeats 1600000 in
theorem net_Join_bad1 (a : Nat) (b : Int) (c : Nat) (d : Int) (w : World) (ha : a < 4294967296) (b0 : -9223372036854775808 ≤ b) (b1 : b ≤ 9223372036854775807) (he : Nt.err a b ≠ 0) :
    Calls Tryz.prog 81 #[netV a b, netV c d] w fun e w' => e = .returned (.tuple #[netV 0 0, .int .i64 (Nt.err a b : Int)]) ∧ Below w.heap.size w w' := by
  have h3 := three_nets w (.int .u32 (a : Int)) (.int .i64 b) (.int .u32 (c : Int)) (.int .i64 d)
  obtain ⟨w1, hw1⟩ : ∃ w1, w1 = ((w.alloc (.cells #[.int .u32 (a : Int), .int .i64 b] 47)).alloc (.cells #[.int .u32 (c : Int), .int .i64 d] 47)).alloc (.cells #[.int .u32 0, .int .i64 0] 47) := ⟨_, rfl⟩
  rw [← hw1] at h3
  obtain ⟨hA, hz1, hg2, hg3, hg4⟩ := h3
  have HC := Lib.hid (fun W => net_Check a b W ha b0 b1)
  have hz : ((Nt.err a b : Int) == 0) = false := by simp; omega
  unfold netV at HC ⊢
  clear he
  obtain ⟨c0, c1⟩ := net_cells hg2 (Below.refl _ _)
  generalize Nt.err a b = r at *
  go_enter Tryz.func81, Tryz.ntmps81
  go_wp2_with fail
  rw [← hw1]
  refine (HC.out _).mono ?_
  rintro e w2 ⟨rfl, hb2⟩
  have R4 := own_below2 (own_two (base := w.heap.size) hg4 (by omega)) hb2
  obtain ⟨g0, g1⟩ := two_cells R4
  have f0 := R4.frozenAt 0
  have f1 := R4.frozenAt 1
  have R5 := two_set R4 (.int .u32 0) (.int .i64 0)
  have hB2 := hA.trans (hb2.mono (by omega))
  clear hg2 hg3 hg4 c0 c1 hw1
  go_wp2
  exact bodyPost_ret (net_ret Tryz.results81 rfl rfl R5) rfl ⟨rfl, (hB2.setCell (by simp; omega) _).setCell (by simp; omega) _⟩

set_option maxRecDepth 20000 in
set_option maxHeartbeats 1600000 in
theorem net_Join_bad2 (a : Nat) (b : Int) (c : Nat) (d : Int) (w : World) (ha : a < 4294967296) (hc : c < 4294967296) (b0 : -9223372036854775808 ≤ b) (b1 : b ≤ 9223372036854775807) (d0 : -9223372036854775808 ≤ d) (d1 : d ≤ 9223372036854775807) (hz0 : Nt.err a b = 0) (he : Nt.err c d ≠ 0) :
    Calls Tryz.prog 81 #[netV a b, netV c d] w fun e w' => e = .returned (.tuple #[netV 0 0, .int .i64 (Nt.err c d : Int)]) ∧ Below w.heap.size w w' := by
  have h3 := three_nets w (.int .u32 (a : Int)) (.int .i64 b) (.int .u32 (c : Int)) (.int .i64 d)
  obtain ⟨w1, hw1⟩ : ∃ w1, w1 = ((w.alloc (.cells #[.int .u32 (a : Int), .int .i64 b] 47)).alloc (.cells #[.int .u32 (c : Int), .int .i64 d] 47)).alloc (.cells #[.int .u32 0, .int .i64 0] 47) := ⟨_, rfl⟩
  rw [← hw1] at h3
  obtain ⟨hA, hz1, hg2, hg3, hg4⟩ := h3
  have HC := Lib.hid (fun W => net_Check a b W ha b0 b1)
  have HD := Lib.hid (fun W => net_Check c d W hc d0 d1)
  have hz : ((Nt.err c d : Int) == 0) = false := by simp; omega
  rw [hz0] at HC
  unfold netV at HC HD ⊢
  clear he hz0
  obtain ⟨c0, c1⟩ := net_cells hg2 (Below.refl _ _)
  generalize Nt.err c d = r at *
  go_enter Tryz.func81, Tryz.ntmps81
  go_wp2_with fail
  rw [← hw1]
  refine (HC.out _).mono ?_
  rintro e w2 ⟨rfl, hb2⟩
  obtain ⟨e0, e1⟩ := net_cells hg3 hb2
  clear c0 c1
  go_wp2_with fail
  refine (HD.out _).mono ?_
  rintro e w3 ⟨rfl, hb3⟩
  have hb23 := hb2.trans (hb3.mono hb2.size)
  have R4 := own_below2 (own_two (base := w.heap.size) hg4 (by omega)) hb23
  obtain ⟨g0, g1⟩ := two_cells R4
  have f0 := R4.frozenAt 0
  have f1 := R4.frozenAt 1
  have R5 := two_set R4 (.int .u32 0) (.int .i64 0)
  have hB2 := hA.trans (hb23.mono (by omega))
  clear hg2 hg3 hg4 e0 e1 hw1
  go_wp2
  exact bodyPost_ret (net_ret Tryz.results81 rfl rfl R5) rfl ⟨rfl, (hB2.setCell (by simp; omega) _).setCell (by simp; omega) _⟩

set_option maxRecDepth 20000 in
set_option maxHeartbeats 3200000 in
theorem net_Join_good (a b c d : Nat) (w : World) (ha : a < 4294967296) (hc : c < 4294967296) (hb : b ≤ 32) (hd : d ≤ 32) (hz0 : Nt.err a (b : Int) = 0) (he : Nt.err c (d : Int) = 0) :
    Calls Tryz.prog 81 #[netV a b, netV c d] w fun e w' => e = .returned (.tuple #[netV (Nt.cut a (Nt.common a c (min b d))) (Nt.common a c (min b d) : Int), .int .i64 0]) ∧ Below w.heap.size w w' := by
  have h3 := three_nets w (.int .u32 (a : Int)) (.int .i64 (b : Int)) (.int .u32 (c : Int)) (.int .i64 (d : Int))
  obtain ⟨w1, hw1⟩ : ∃ w1, w1 = ((w.alloc (.cells #[.int .u32 (a : Int), .int .i64 (b : Int)] 47)).alloc (.cells #[.int .u32 (c : Int), .int .i64 (d : Int)] 47)).alloc (.cells #[.int .u32 0, .int .i64 0] 47) := ⟨_, rfl⟩
  rw [← hw1] at h3
  obtain ⟨hA, hz1, hg2, hg3, hg4⟩ := h3
  have HC := Lib.hid (fun W => net_Check a (b : Int) W ha (by omega) (by omega))
  have HD := Lib.hid (fun W => net_Check c (d : Int) W hc (by omega) (by omega))
  have hcl := Nt.common_le a c (min b d)
  have HO := Lib.hid (fun W => net_Of a ((Nt.common a c (min b d) : Nat) : Int) W ha (by omega) (by omega))
  obtain ⟨o1, o2, o3⟩ := nt_of_join a b c d hb
  rw [o1, o2, o3] at HO
  rw [hz0] at HC
  rw [he] at HD
  have hx : a ^^^ c < 4294967296 := Nat.xor_lt_two_pow (n := 32) ha hc
  have hxor : bits .xor .u32 (a : Int) (c : Int) = ((a ^^^ c : Nat) : Int) := u32_xor_nat a c ha hc
  have HL := Lib.hid (fun W => Tryz.bits_LeadingZeros32 ((a ^^^ c : Nat) : Int) W (by omega) (by omega))
  rw [Int.toNat_natCast] at HL
  have hbl := Lib.bitLen_le _ 32 (by decide) (show a ^^^ c < 2 ^ 32 from hx)
  have hcm := common_bits a c (min b d) ha hc (by omega)
  unfold netV at HC HD HO ⊢
  clear he hz0 o1 o2 o3
  generalize Nt.cut a (Nt.common a c (min b d)) = A at *
  generalize Nt.common a c (min b d) = J at *
  generalize Lib.bitLen (a ^^^ c) = l at *
  generalize a ^^^ c = x at *
  have Hcm : Hid (J = min (min b d) (32 - l)) := Lib.hid hcm
  clear hcm
  have HJ : Hid (∀ (y : Int) (W : World), y = (J : Int) → Calls Tryz.prog 105 #[.int .u32 (a : Int), .int .i64 y] W fun e w' => e = .returned (.tuple #[.agg #[.int .u32 (A : Int), .int .i64 (J : Int)], .int .i64 0]) ∧ Below W.heap.size W w') := Lib.hid fun y W hy => by rw [hy]; exact HO.out W
  rw [show (32 : Int) - (l : Int) = ((32 - l : Nat) : Int) by omega] at HL
  obtain ⟨c0, c1⟩ := net_cells hg2 (Below.refl _ _)
  go_enter Tryz.func81, Tryz.ntmps81
  go_wp2_with fail
  rw [← hw1]
  refine (HC.out _).mono ?_
  rintro e w2 ⟨rfl, hb2⟩
  obtain ⟨e0, e1⟩ := net_cells hg3 hb2
  clear c0 c1
  go_wp2_with fail
  refine (HD.out _).mono ?_
  rintro e w3 ⟨rfl, hb3⟩
  have hb23 := hb2.trans (hb3.mono hb2.size)
  obtain ⟨c0, c1⟩ := net_cells hg2 hb23
  obtain ⟨c2, c3⟩ := net_cells hg3 hb23
  clear e0 e1 hw1
  have q : ∀ ad : Addr, ({ heap := w3.heap, tape := w3.tape, drawn := w3.drawn + 1, os := w3.os, output := w3.output } : World).cell? ad = w3.cell? ad := fun _ => rfl
  go_wp2_with fail
  refine wp_region_still_tail 10 (by kernel_rfl) (by kernel_rfl) ?_
  simp only [List.take_succ_cons, List.take_zero, List.drop_succ_cons, List.drop_zero]
  iterate 9 still_step
  still_call (HL.out _)
  refine wpStill_nil ?_
  change wpList _ _ _ _ _ w3.drew
  have hb4 := hb23.drew
  generalize w3.drew = w4 at *
  clear q c0 c1 c2 c3 hb23
  obtain ⟨c0, c1⟩ := net_cells hg2 hb4
  generalize he : 32 - l = E at *
  clear he
  go_wp2_with (go_at_call 105; refine (HJ.out _ _ (by have := Hcm.out; omega)).mono ?_; rintro e w5 ⟨rfl, hb5⟩; have hb45 := hb4.trans (hb5.mono hb4.size); have R4 := own_below2 (own_two (base := w.heap.size) hg4 (by omega)) hb45; obtain ⟨g0, g1⟩ := two_cells R4; have f0 := R4.frozenAt 0; have f1 := R4.frozenAt 1)
  all_goals
    have R5 := two_set R4 (.int .u32 (A : Int)) (.int .i64 (J : Int))
    have hB2 := hA.trans (hb45.mono (by omega))
    exact bodyPost_ret (net_ret Tryz.results81 rfl rfl R5) rfl ⟨rfl, (hB2.setCell (by simp; omega) _).setCell (by simp; omega) _⟩

theorem net_Join (a : Nat) (b : Int) (c : Nat) (d : Int) (w : World) (ha : a < 4294967296) (hc : c < 4294967296) (b0 : -9223372036854775808 ≤ b) (b1 : b ≤ 9223372036854775807) (d0 : -9223372036854775808 ≤ d) (d1 : d ≤ 9223372036854775807) :
    Calls Tryz.prog 81 #[netV a b, netV c d] w fun e w' => e = .returned (.tuple #[netV (Nt.joinAddr a b c d) (Nt.joinBits a b c d : Int), .int .i64 (Nt.joinErr a b c d : Int)]) ∧ Below w.heap.size w w' := by
  unfold Nt.joinAddr Nt.joinBits
  by_cases h1 : Nt.err a b = 0
  · by_cases h2 : Nt.err c d = 0
    · have hj : Nt.joinErr a b c d = 0 := by unfold Nt.joinErr; rw [if_neg (fun h => h h1), h2]
      rw [hj, if_pos rfl, if_pos rfl]
      obtain ⟨p0, p1, _⟩ := Nt.err_zero h1
      obtain ⟨q0, q1, _⟩ := Nt.err_zero h2
      obtain ⟨n, rfl⟩ : ∃ n : Nat, b = (n : Int) := ⟨b.toNat, by omega⟩
      obtain ⟨m, rfl⟩ : ∃ m : Nat, d = (m : Int) := ⟨d.toNat, by omega⟩
      rw [Int.toNat_natCast, Int.toNat_natCast]
      exact net_Join_good a n c m w ha hc (by omega) (by omega) h1 h2
    · have hj : Nt.joinErr a b c d = Nt.err c d := by unfold Nt.joinErr; rw [if_neg (fun h => h h1)]
      rw [hj, if_neg h2, if_neg h2]
      exact net_Join_bad2 a b c d w ha hc b0 b1 d0 d1 h1 h2
  · have hj : Nt.joinErr a b c d = Nt.err a b := by unfold Nt.joinErr; rw [if_pos h1]
    rw [hj, if_neg h1, if_neg h1]
    exact net_Join_bad1 a b c d w ha b0 b1 h1
end Go.Proofs.YtjdflnnpamjjcaaGreatDoor
