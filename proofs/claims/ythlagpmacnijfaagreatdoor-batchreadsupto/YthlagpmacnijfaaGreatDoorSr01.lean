/- The contract of addr.Number. -/
import Derived.Test.YthlagpmacnijfaaGreatDoorAddrPlain2
import Derived.Test.YthlagpmacnijfaaGreatDoorNetRef5
import Derived.Test.YthlagpmacnijfaaGreatDoorStructMem
import Derived.Laws.Tables
import Derived.Test.YthlagpmacnijfaaGreatDoorBatchMem
import Derived.Test.YthlagpmacnijfaaGreatDoorLineBlk
import Derived.Test.YthlagpmacnijfaaGreatDoorBatchPlain
import Derived.WideShapes
import Derived.Laws.StructEq
import Derived.Test.YthlagpmacnijfaaGreatDoorBatchRef5
import Derived.Deep.DeepCutAuto
import Derived.Test.YthlagpmacnijfaaGreatDoorRows
import Derived.Test.YthlagpmacnijfaaGreatDoorMem
import Derived.Test.YthlagpmacnijfaaGreatDoorAddrPlain
import Derived.Lib.Strings
namespace Go.Proofs.YthlagpmacnijfaaGreatDoor.Ad

theorem parts_length (c : UInt8) : ∀ l : List UInt8, (parts c l).length = l.count c + 1 := by
  intro l
  induction l with
  | nil => rfl
  | cons x r ih =>
    by_cases hx : x = c
    · subst hx
      rw [parts, if_pos rfl, List.count_cons_self, List.length_cons, ih]
    · rw [parts, if_neg hx, List.count_cons_of_ne hx]
      match hp : parts c r, parts_ne c r with
      | p :: ps, _ => rw [hp] at ih; simpa using ih
/-- A text at its first byte c. -/
theorem at_first (c : UInt8) (l : List UInt8) : (Lib.index l [c] = -1 ∧ c ∉ l) ∨ ∃ i : Nat, Lib.index l [c] = (i : Int) ∧ c ∉ l.take i ∧ l = l.take i ++ c :: l.drop (i + 1) := by
  rw [Lib.index_one]
  have hge := Lib.indexByte_ge l c
  by_cases h : Lib.indexByte l c = -1
  · left
    refine ⟨h, fun hm => ?_⟩
    obtain ⟨i, hi, he⟩ := List.mem_iff_getElem.1 hm
    exact Lib.indexByte_none h i (by rw [List.getElem?_eq_getElem hi, he])
  · right
    obtain ⟨i, hi⟩ : ∃ i : Nat, Lib.indexByte l c = (i : Int) := ⟨(Lib.indexByte l c).toNat, by omega⟩
    obtain ⟨h1, h2⟩ := Lib.indexByte_some hi
    have hlt : i < l.length := by
      by_cases hk : i < l.length
      · exact hk
      · rw [List.getElem?_eq_none (by omega)] at h1; cases h1
    refine ⟨i, hi, fun hm => ?_, ?_⟩
    · obtain ⟨j, hj, he⟩ := List.mem_iff_getElem.1 hm
      rw [List.length_take] at hj
      rw [List.getElem_take] at he
      exact h2 j (by omega) (by rw [List.getElem?_eq_getElem (by omega), he])
    · rw [List.getElem?_eq_getElem hlt] at h1
      injection h1 with h1
      rw [← h1, ← List.drop_eq_getElem_cons hlt, List.take_append_drop]
theorem split_hit (c : UInt8) (k : Nat) (l : List UInt8) (i : Nat) (h : Lib.index l [c] = (i : Int)) : Lib.splitK [c] 0 (k + 1) l = l.take i :: Lib.splitK [c] 0 k (l.drop (i + 1)) := by
  rw [Lib.splitK, h, if_neg (by simp), Int.toNat_natCast]
  rfl
theorem split_miss (c : UInt8) (k : Nat) (l : List UInt8) (h : Lib.index l [c] = -1) : Lib.splitK [c] 0 k l = [l] := by
  cases k with
  | zero => rfl
  | succ k => rw [Lib.splitK, h]; rfl
theorem count_at (c : UInt8) (p r : List UInt8) (h : c ∉ p) : (p ++ c :: r).count c = r.count c + 1 := by
  rw [List.count_append, List.count_eq_zero.2 h, List.count_cons_self]; omega
/-- Cut at as many bytes as there are: the pieces. -/
theorem split_all (c : UInt8) : ∀ (k : Nat) (l : List UInt8), l.count c ≤ k → Lib.splitK [c] 0 k l = parts c l := by
  intro k
  induction k with
  | zero =>
    intro l h
    rw [parts_plain c l (List.count_eq_zero.1 (by omega))]
    rfl
  | succ k ih =>
    intro l h
    rcases at_first c l with ⟨hi, hm⟩ | ⟨i, hi, hm, he⟩
    · rw [split_miss c _ l hi, parts_plain c l hm]
    · rw [split_hit c k l i hi]
      have hc : (l.drop (i + 1)).count c ≤ k := by
        rw [he, count_at c _ _ hm] at h; omega
      rw [ih _ hc]
      conv => rhs; rw [he, parts_front c _ _ hm]
/-- Cut at fewer: one piece more than cuts. -/
theorem split_some (c : UInt8) : ∀ (k : Nat) (l : List UInt8), k < l.count c → (Lib.splitK [c] 0 k l).length = k + 1 := by
  intro k
  induction k with
  | zero => intro l _; rfl
  | succ k ih =>
    intro l h
    rcases at_first c l with ⟨hi, hm⟩ | ⟨i, hi, hm, he⟩
    · rw [List.count_eq_zero.2 hm] at h; omega
    · rw [split_hit c k l i hi, List.length_cons]
      have hc : k < (l.drop (i + 1)).count c := by
        rw [he, count_at c _ _ hm] at h; omega
      rw [ih _ hc]
/-- Cut at the first four at most, or at as many as the text has letters: four pieces exactly if there are four in all, and then they are these. -/
theorem split_four (c : UInt8) (l : List UInt8) (N : Nat) (hN : N = min 5 (l.length + 1)) :
    (Lib.splitK [c] 0 (N - 1) l).length = 4 ∧ Lib.splitK [c] 0 (N - 1) l = parts c l ∨ (Lib.splitK [c] 0 (N - 1) l).length ≠ 4 ∧ (parts c l).length ≠ 4 := by
  have hcl := List.count_le_length (a := c) (l := l)
  by_cases h : l.count c ≤ N - 1
  · rw [split_all c _ l h]
    by_cases h4 : (parts c l).length = 4
    · exact .inl ⟨h4, rfl⟩
    · exact .inr ⟨h4, h4⟩
  · right
    rw [split_some c _ l (by omega), parts_length]
    omega
end Go.Proofs.YthlagpmacnijfaaGreatDoor.Ad

namespace Go.Proofs.YthlagpmacnijfaaGreatDoor

theorem good_lt (l : List UInt8) : Ad.addrOut l < 4294967296 := by
  unfold Ad.addrOut
  by_cases h : Ad.good l = true
  · rw [if_pos h]; exact (Ad.text_good l h).1
  · rw [if_neg h]; decide
theorem num_le (l : List UInt8) (most : Nat) : Ad.numOut l (most : Int) ≤ most := by
  unfold Ad.numOut
  by_cases h : Ad.numErr l (most : Int) = 0
  · rw [if_pos h]
    unfold Ad.numErr at h
    by_cases hc : Ad.isNum l = true ∧ (Ad.val l : Int) ≤ (most : Int)
    · omega
    · rw [if_neg hc] at h; cases h
  · rw [if_neg h]; omega
end Go.Proofs.YthlagpmacnijfaaGreatDoor

namespace Go.Proofs.YthlagpmacnijfaaGreatDoor
open Go.RowKit

set_option maxRecDepth 20000 in
set_option maxHeartbeats 1600000 in
theorem ref_NetParsed (s : ByteArray) (w : World) (hs : s.size ≤ 1048576) (hT : PowTab w) (hE : ErrTab w) (hM : MaxTab w) :
    Calls Tryz.prog 18 #[.string s] w fun e w' => e = .returned (.tuple #[netV (Nt.parAddr s.data.toList) (Nt.parBits s.data.toList : Int), .int .i64 (Nt.parErr s.data.toList : Int)]) ∧ Below w.heap.size w w' := by
  obtain ⟨w1, hw1⟩ : ∃ w1, w1 = w.alloc (.cells #[.int .u32 0, .int .i64 0] 26) := ⟨_, rfl⟩
  have hg1 : w1.heap[w.heap.size]? = some (.cells #[.int .u32 0, .int .i64 0] 26 (0, 0)) := by rw [hw1]; exact heap_alloc_last w _
  have hA : Below w.heap.size w w1 := by rw [hw1]; exact (Below.refl _ _).alloc (Nat.le_refl _) _
  have hz1 : w1.heap.size = w.heap.size + 1 := by rw [hw1]; simp
  have HI : Hid (∀ W, Calls Tryz.prog 31 #[.string s, .string ⟨#[47]⟩] W fun e w' => e = .returned (.int .i64 (Nt.slash s.data.toList)) ∧ w' = W) := Lib.hid fun W => Tryz.strings_Index_one s 47 W
  have HR : Hid (∀ W, Below w1.heap.size w1 W → W.ownsRow w.heap.size 26 1 (.slice (some ⟨w.heap.size, 0, none⟩) 2 2) 2 [.int .u32 0, .int .i64 0]) := Lib.hid fun W hW => own_below2 (own_two hg1 (Nat.le_refl _)) hW
  have HT := Lib.hid (hT.below hA)
  have HE := Lib.hid (hE.below hA)
  have HM := Lib.hid (hM.below hA)
  clear hg1 hT hE hM
  unfold netV
  by_cases h0 : Nt.slash s.data.toList < 0
  · have Hb := Lib.hid (Nt.par_bad (l := s.data.toList) (by unfold Nt.parGood; rw [decide_eq_false (by omega)]; rfl))
    generalize Nt.slash s.data.toList = q at *
    have R4 := HR.out w1 (Below.refl _ _)
    rw [hw1] at R4
    go_enter Tryz.func18, Tryz.ntmps18
    go_wp2_with fail
    refine (HI.out _).mono ?_
    rintro e w2 ⟨rfl, hw2⟩
    subst hw2
    go_wp2
    exact bodyPost_ret (net_ret Tryz.results18 rfl rfl R4) rfl ⟨ret_net_err (by rw [Hb.out.2.1, Hb.out.2.2]; rfl) (by rw [Hb.out.1]; rfl), by rw [← hw1]; exact hA⟩
  · obtain ⟨k, hk⟩ : ∃ k : Nat, Nt.slash s.data.toList = (k : Int) := ⟨(Nt.slash s.data.toList).toNat, by omega⟩
    have hge : decide (0 ≤ Nt.slash s.data.toList) = true := decide_eq_true (by omega)
    have hkl := Nt.slash_lt _ k hk
    have hsl : s.data.toList.length = s.size := by simp
    rw [hsl] at hkl
    have Hf : Hid ((s.extract 0 k).data.toList = Nt.front s.data.toList) := Lib.hid (by unfold Nt.front; rw [hk, Int.toNat_natCast]; exact Lib.extract_from_zero s k)
    have Hb : Hid ((s.extract (k + 1) s.size).data.toList = Nt.back s.data.toList) := Lib.hid (by unfold Nt.back; rw [hk, Int.toNat_natCast]; exact Lib.extract_to_end s (k + 1))
    have hx1 : (s.extract 0 k).size ≤ 1048576 := by rw [ByteArray.size_extract]; omega
    have hx2 : (s.extract (k + 1) s.size).size ≤ 281474976710656 := by rw [ByteArray.size_extract]; omega
    have H1 : Hid (∀ W, Below w1.heap.size w1 W → Calls Tryz.prog 32 #[.string (s.extract 0 k)] W fun e W' => e = .returned (.tuple #[.int .u32 (Ad.addrOut (Nt.front s.data.toList) : Int), .int .i64 (Ad.addrErr (Nt.front s.data.toList) : Int)]) ∧ Below w1.heap.size w1 W') :=
      Lib.hid fun W hW => (ref_AddrOf (s.extract 0 k) W hx1 (HT.out.below hW) (HE.out.below hW) (HM.out.below hW)).mono fun e W' ⟨he, hb⟩ => ⟨by rw [he, Hf.out], hW.trans (hb.mono hW.size)⟩
    have H2 : Hid (∀ W, Below w1.heap.size w1 W → Calls Tryz.prog 17 #[.string (s.extract (k + 1) s.size), .int .i64 32] W fun e W' => e = .returned (.tuple #[.int .i64 (Ad.numOut (Nt.back s.data.toList) 32 : Int), .int .i64 (Ad.numErr (Nt.back s.data.toList) 32 : Int)]) ∧ Below w1.heap.size w1 W') :=
      Lib.hid fun W hW => (ref_NumberOf (s.extract (k + 1) s.size) 32 W hx2 (HT.out.below hW) (HE.out.below hW)).mono fun e W' ⟨he, hb⟩ => ⟨by rw [he, Hb.out], hW.trans (hb.mono hW.size)⟩
    have H3 : Hid (∀ W, Below w1.heap.size w1 W → Calls Tryz.prog 33 #[.agg #[.int .u32 (Ad.addrOut (Nt.front s.data.toList) : Int), .int .i64 (Ad.numOut (Nt.back s.data.toList) 32 : Int)]] W fun e W' => e = .returned (.int .i64 (Nt.err (Ad.addrOut (Nt.front s.data.toList)) (Ad.numOut (Nt.back s.data.toList) 32 : Int) : Int)) ∧ Below w1.heap.size w1 W') :=
      Lib.hid fun W hW => (ref_NetFault _ _ W (good_lt _)).mono fun e W' ⟨he, hb⟩ => ⟨he, hW.trans (hb.mono hW.size)⟩
    have hnl := num_le (Nt.back s.data.toList) 32
    have eg : Nt.parGood s.data.toList = (Ad.good (Nt.front s.data.toList) && decide (Ad.numErr (Nt.back s.data.toList) 32 = 0) && decide (Nt.err (Ad.addrOut (Nt.front s.data.toList)) (Ad.numOut (Nt.back s.data.toList) 32 : Int) = 0)) := by unfold Nt.parGood; rw [hge]; rfl
    rw [hk] at HI
    clear hge h0 hk hsl HT HE HM
    have hw0 : (k : Int) ≤ s.size := by omega
    have hw00 : ((k : Int) + 1) ≤ s.size := by omega
    by_cases g1 : Ad.good (Nt.front s.data.toList) = true
    · have he1 : Ad.addrErr (Nt.front s.data.toList) = 0 := by unfold Ad.addrErr; rw [if_pos g1]
      rw [he1] at H1
      by_cases g2 : Ad.numErr (Nt.back s.data.toList) 32 = 0
      · rw [g2] at H2
        by_cases g3 : Nt.err (Ad.addrOut (Nt.front s.data.toList)) (Ad.numOut (Nt.back s.data.toList) 32 : Int) = 0
        · rw [g3] at H3
          have Hr := Lib.hid (Nt.par_ok (l := s.data.toList) (by rw [eg, g1, g2, g3]; rfl))
          clear g1 g2 g3 eg he1
          generalize Ad.addrOut (Nt.front s.data.toList) = A at *
          generalize Ad.numOut (Nt.back s.data.toList) 32 = B at *
          go_enter Tryz.func18, Tryz.ntmps18
          go_wp2_with fail
          rw [← hw1]
          clear hw1
          refine (HI.out _).mono ?_
          rintro e w2 ⟨rfl, hw2⟩
          rw [hw2]
          clear hw2 w2
          go_wp2_with fail
          refine (H1.out _ (Below.refl _ _)).mono ?_
          rintro e w3 ⟨rfl, hb3⟩
          go_wp2_with fail
          refine (H2.out _ hb3).mono ?_
          rintro e w4 ⟨rfl, hb4⟩
          go_wp2_with fail
          refine (H3.out _ hb4).mono ?_
          rintro e w5 ⟨rfl, hb5⟩
          have R4 := HR.out _ hb5
          obtain ⟨p0, p1⟩ := two_cells R4
          have f0 := R4.frozenAt 0
          have f1 := R4.frozenAt 1
          have R5 := two_set R4 (.int .u32 (A : Int)) (.int .i64 (B : Int))
          have hB7 := hA.trans (hb5.mono (by omega))
          go_wp2
          exact bodyPost_ret (net_ret Tryz.results18 rfl rfl R5) rfl ⟨ret_net_err (by rw [Hr.out.2.1, Hr.out.2.2]) (by rw [Hr.out.1]; rfl), (hB7.setCell (Nat.le_refl _) _).setCell (Nat.le_refl _) _⟩
        · have Hr := Lib.hid (Nt.par_bad (l := s.data.toList) (by rw [eg, decide_eq_false g3, Bool.and_false]))
          have hn3 : ((Nt.err (Ad.addrOut (Nt.front s.data.toList)) (Ad.numOut (Nt.back s.data.toList) 32 : Int) : Int) != 0) = true := by simpa using g3
          clear g1 g2 g3 eg he1
          generalize Nt.err (Ad.addrOut (Nt.front s.data.toList)) (Ad.numOut (Nt.back s.data.toList) 32 : Int) = r at *
          generalize Ad.addrOut (Nt.front s.data.toList) = A at *
          generalize Ad.numOut (Nt.back s.data.toList) 32 = B at *
          go_enter Tryz.func18, Tryz.ntmps18
          go_wp2_with fail
          rw [← hw1]
          clear hw1
          refine (HI.out _).mono ?_
          rintro e w2 ⟨rfl, hw2⟩
          rw [hw2]
          clear hw2 w2
          go_wp2_with fail
          refine (H1.out _ (Below.refl _ _)).mono ?_
          rintro e w3 ⟨rfl, hb3⟩
          go_wp2_with fail
          refine (H2.out _ hb3).mono ?_
          rintro e w4 ⟨rfl, hb4⟩
          go_wp2_with fail
          refine (H3.out _ hb4).mono ?_
          rintro e w5 ⟨rfl, hb5⟩
          have R4 := HR.out _ hb5
          obtain ⟨p0, p1⟩ := two_cells R4
          have f0 := R4.frozenAt 0
          have f1 := R4.frozenAt 1
          have R5 := two_set R4 (.int .u32 0) (.int .i64 0)
          have hB7 := hA.trans (hb5.mono (by omega))
          go_wp2
          exact bodyPost_ret (net_ret Tryz.results18 rfl rfl R5) rfl ⟨ret_net_err (by rw [Hr.out.2.1, Hr.out.2.2]; rfl) (by rw [Hr.out.1]; rfl), (hB7.setCell (Nat.le_refl _) _).setCell (Nat.le_refl _) _⟩
      · have Hr := Lib.hid (Nt.par_bad (l := s.data.toList) (by rw [eg, decide_eq_false g2, Bool.and_false]; rfl))
        rw [(numOut_bad _ _ g2).1, (numOut_bad _ _ g2).2] at H2
        clear g1 g2 eg he1 H3
        generalize Ad.addrOut (Nt.front s.data.toList) = A at *
        go_enter Tryz.func18, Tryz.ntmps18
        go_wp2_with fail
        rw [← hw1]
        clear hw1
        refine (HI.out _).mono ?_
        rintro e w2 ⟨rfl, hw2⟩
        rw [hw2]
        clear hw2 w2
        go_wp2_with fail
        refine (H1.out _ (Below.refl _ _)).mono ?_
        rintro e w3 ⟨rfl, hb3⟩
        go_wp2_with fail
        refine (H2.out _ hb3).mono ?_
        rintro e w4 ⟨rfl, hb4⟩
        have R4 := HR.out _ hb4
        obtain ⟨p0, p1⟩ := two_cells R4
        have f0 := R4.frozenAt 0
        have f1 := R4.frozenAt 1
        have R5 := two_set R4 (.int .u32 0) (.int .i64 0)
        have hB7 := hA.trans (hb4.mono (by omega))
        go_wp2
        exact bodyPost_ret (net_ret Tryz.results18 rfl rfl R5) rfl ⟨ret_net_err (by rw [Hr.out.2.1, Hr.out.2.2]; rfl) (by rw [Hr.out.1]; rfl), (hB7.setCell (Nat.le_refl _) _).setCell (Nat.le_refl _) _⟩
    · have hg1 : Ad.good (Nt.front s.data.toList) = false := by simpa using g1
      have Hr := Lib.hid (Nt.par_bad (l := s.data.toList) (by rw [eg, hg1]; rfl))
      rw [(addr_bad _ hg1).1, (addr_bad _ hg1).2] at H1
      clear g1 hg1 eg H3
      generalize Ad.numOut (Nt.back s.data.toList) 32 = B at *
      generalize Ad.numErr (Nt.back s.data.toList) 32 = E at *
      go_enter Tryz.func18, Tryz.ntmps18
      go_wp2_with fail
      rw [← hw1]
      clear hw1
      refine (HI.out _).mono ?_
      rintro e w2 ⟨rfl, hw2⟩
      rw [hw2]
      clear hw2 w2
      go_wp2_with fail
      refine (H1.out _ (Below.refl _ _)).mono ?_
      rintro e w3 ⟨rfl, hb3⟩
      go_wp2_with fail
      refine (H2.out _ hb3).mono ?_
      rintro e w4 ⟨rfl, hb4⟩
      have R4 := HR.out _ hb4
      obtain ⟨p0, p1⟩ := two_cells R4
      have f0 := R4.frozenAt 0
      have f1 := R4.frozenAt 1
      have R5 := two_set R4 (.int .u32 0) (.int .i64 0)
      have hB7 := hA.trans (hb4.mono (by omega))
      go_wp2
      exact bodyPost_ret (net_ret Tryz.results18 rfl rfl R5) rfl ⟨ret_net_err (by rw [Hr.out.2.1, Hr.out.2.2]; rfl) (by rw [Hr.out.1]; rfl), (hB7.setCell (Nat.le_refl _) _).setCell (Nat.le_refl _) _⟩
end Go.Proofs.YthlagpmacnijfaaGreatDoor

namespace Go.Proofs.YthlagpmacnijfaaGreatDoor
open Go.RowKit

theorem grown_set_row (w : World) (g : Nat) (cs : Array Value) : w.grownBy (w.setRow g cs) (some g) :=
  ⟨rfl, rfl, rfl, by simp [World.setRow], fun k _ hne => setRow_other w g k cs (fun e => hne (by rw [e]))⟩

/-- A whole struct into its block. -/
theorem wpL_storeBlk {w : World} {ops : Array Oper} {rest : List Oper} {o : Oper} {a : Act} {Q : Exit → Act → World → Prop} (hgd : o.guard = none) (t : TypeId) (x y : Operand) (ho : o.op = .store t x y) (g : Nat) (xs ys : List Value)
    (hx : a.eval x = .pointer (some ⟨g, 0, none⟩)) (hy : a.eval y = .agg ys.toArray) (hg : Blk w g t xs) (hi : (Tryz.prog.info? t).map (·.size) = some xs.length) (hl : ys.length = xs.length) (h1 : ys.all (·.oneCell') = true)
    (h : ∀ w', Blk w' g t ys → w.grownBy w' (some g) → w'.heap.size = w.heap.size → wpList Tryz.prog ops Q rest (a.put o.dst undef) w') : wpList Tryz.prog ops Q (o :: rest) a w := by
  refine wpList_store_row hgd t x y ho g ys.toArray hx hy t xs.toArray hg (by simpa [hl] using hi) (by simp [hl]) (by simpa using h1) (h _ (setRow_heap w g _ _ t _ hg) (grown_set_row w g _) (by simp))
theorem Blk.beside {w w' : World} {g k : Nat} {t : TypeId} {xs : List Value} (h : Blk w k t xs) (hg : w.grownBy w' (some g)) (hne : k ≠ g) : Blk w' k t xs :=
  (hg.block k h.lt (fun e => hne (by injection e))).trans h
/-- Bytes of the call's own beside another block that is written. -/
theorem own_beside_row {w w' : World} {base n c m g : Nat} {a : Option Addr} {xs : List Value} {t : TypeId} (ho : w.ownsRow base t 1 (.slice a n c) m xs) (hg : w.grownBy w' (some g)) (hk : g < base) : w'.ownsRow base t 1 (.slice a n c) m xs :=
  ho.kept hg (by
    cases hb : (Value.slice a n c).ownBlock with
    | none => exact .inl rfl
    | some j => exact .inr (fun e => by injection e with e; have := (ho.lt j hb).1; omega))
theorem below_row {w w' w0 : World} {B g : Nat} (h : Below B w0 w) (hg : w.grownBy w' (some g)) (hB : B ≤ w.heap.size) (hk : B ≤ g) : Below B w0 w' := h.grown hg hB (fun k e => by injection e with e; omega)
end Go.Proofs.YthlagpmacnijfaaGreatDoor

namespace Go.Proofs.YthlagpmacnijfaaGreatDoor
open Go.RowKit

theorem load_set {w : World} {g : Nat} {xs : List Value} (R : Blk w g 28 xs) (h : xs.length = 5) : (loadVar 28 ⟨g, 0, none⟩).run Tryz.prog w = .ok (.agg xs.toArray) w :=
  run_loadVar_row (P := Tryz.prog) w g 28 28 xs.toArray (0, 0) _ R Tryz.underlying28 rfl (by rw [show (Tryz.prog.info? 28).map (·.size) = some 5 by kernel_rfl]; simp [h])
def zeroC : List Value := [.int .i64 0, .string ⟨#[]⟩, .int .i64 0, .int .u32 0, .int .i64 0]
theorem size_set : (Tryz.prog.info? 28).map (·.size) = some 5 := by kernel_rfl
theorem size_line : (Tryz.prog.info? 23).map (·.size) = some 2 := by kernel_rfl
/-- What a function hands back of a setting. -/
theorem ret_setting {fn : Func} {w : World} {g : Nat} {s : Bt.S} {p : Nat} {tmps : Array Value} (R : Blk w g 28 (Bt.setC s)) (h : fn.results = #[.cell p 28]) (hp : tmps.getD p undef = .pointer (some ⟨g, 0, none⟩)) :
    (results fn tmps).run Tryz.prog w = .ok (setV s) w := ret_cell1 (load_set R rfl) h hp
theorem ret_setting_errno {fn : Func} {w : World} {g : Nat} {s : Bt.S} {p u : Nat} {v : Value} {tmps : Array Value} (R : Blk w g 28 (Bt.setC s)) (h : fn.results = #[.cell p 28, .tmp u]) (hp : tmps.getD p undef = .pointer (some ⟨g, 0, none⟩))
    (hv : tmps.getD u undef = v) : (results fn tmps).run Tryz.prog w = .ok (.tuple #[setV s, v]) w := ret_cell (load_set R rfl) h hp hv
theorem ret_line_errno {fn : Func} {w : World} {g : Nat} {x : Ln.L} {p u : Nat} {v : Value} {tmps : Array Value} (R : Blk w g 23 (Ln.lineC x)) (h : fn.results = #[.cell p 23, .tmp u]) (hp : tmps.getD p undef = .pointer (some ⟨g, 0, none⟩))
    (hv : tmps.getD u undef = v) : (results fn tmps).run Tryz.prog w = .ok (.tuple #[lineV x, v]) w := ret_cell (load_line R rfl) h hp hv
end Go.Proofs.YthlagpmacnijfaaGreatDoor

namespace Go.Proofs.YthlagpmacnijfaaGreatDoor.Bt

theorem kind_none {key : ByteArray} (h : ∀ j, 1 ≤ j → j ≤ 10 → nameOf j ≠ key) : kindOf key = 0 := by
  rcases kindOf_cases key with hk | ⟨h1, h2, h3⟩
  · exact hk
  · exact absurd h3 (h _ h1 h2)
theorem kind_some {key : ByteArray} {j : Nat} (h1 : 1 ≤ j) (h2 : j ≤ 10) (h : nameOf j = key) : kindOf key = j := by rw [← h]; exact kind_of_name j h1 h2
theorem pick_at {l : Ln.L} {c : List S} (k : Nat) (hk : k < c.length) (hn : ∀ x ∈ c.take k, fits l x = false) (hf : fits l c[k] = true) : pick1 l c = (c[k], 0) := by
  have : c.find? (fits l) = some c[k] := by
    rw [List.find?_eq_some_iff_append]
    refine ⟨hf, c.take k, c.drop (k + 1), ?_, fun a ha => by simp [hn a ha]⟩
    rw [← List.drop_eq_getElem_cons hk, List.take_append_drop]
  unfold pick1
  rw [this]
theorem pick_none {l : Ln.L} {c : List S} (hn : ∀ x ∈ c, fits l x = false) : pick1 l c = (zeroS, 3) := by
  have : c.find? (fits l) = none := List.find?_eq_none.2 fun x hx => by simp [hn x hx]
  unfold pick1
  rw [this]
theorem fits_err {l : Ln.L} {x : S} (h : err x ≠ 0) : fits l x = false := by unfold fits; rw [decide_eq_false (fun e => h e.1)]
theorem fits_line {l : Ln.L} {x : S} (h : line x ≠ l) : fits l x = false := by unfold fits; rw [decide_eq_false (fun e => h e.2)]
theorem fits_ok {l : Ln.L} {x : S} (h : err x = 0) (h2 : line x = l) : fits l x = true := by unfold fits; rw [decide_eq_true ⟨h, h2⟩]
theorem numOut_lt (l : List UInt8) (m : Int) : Ad.numOut l m < 100000 := by
  unfold Ad.numOut
  split
  · rename_i h
    unfold Ad.numErr at h
    split at h
    · rename_i hc; exact Ad.num_lt l hc.1
    · cases h
  · decide
theorem good_addr (l : List UInt8) : Ad.addrOut l < 4294967296 := by
  unfold Ad.addrOut
  split
  · rename_i h; exact (Ad.text_good l h).1
  · decide
theorem par_lt (l : List UInt8) : Nt.parAddr l < 4294967296 ∧ Nt.parBits l < 100000 := by
  unfold Nt.parAddr Nt.parBits
  constructor
  · split
    · exact good_addr _
    · decide
  · split
    · exact numOut_lt _ _
    · decide
/-- What the candidates may hold. -/
theorem cands_ok (k : Nat) (v : ByteArray) (hv : v.size ≤ 1048576) : ∀ s ∈ cands k v, s.t.size ≤ 1048576 ∧ s.a < 4294967296 ∧ -9223372036854775808 ≤ s.n ∧ s.n ≤ 9223372036854775807 := by
  have h1 := numOut_lt v.data.toList 65535
  obtain ⟨h2, h3⟩ := par_lt v.data.toList
  intro s hs
  unfold cands at hs
  simp only [List.mem_cons, List.not_mem_nil, or_false] at hs
  rcases hs with rfl | rfl | rfl | rfl
  · refine ⟨?_, ?_, ?_, ?_⟩ <;> simp only <;> (first | omega | (show (0 : Nat) ≤ _; omega))
  · refine ⟨?_, ?_, ?_, ?_⟩ <;> simp only <;> omega
  · refine ⟨?_, ?_, ?_, ?_⟩ <;> simp only <;> (first | omega | (show (0 : Nat) ≤ _; omega))
  · refine ⟨?_, ?_, ?_, ?_⟩ <;> simp only <;> (first | omega | (show (0 : Nat) ≤ _; omega))
end Go.Proofs.YthlagpmacnijfaaGreatDoor.Bt

namespace Go.Proofs.YthlagpmacnijfaaGreatDoor

theorem text_eq (x y : ByteArray) : x = y ∨ (x.toList == y.toList) = false := by
  by_cases h : x = y
  · exact .inl h
  · refine .inr (beq_eq_false_iff_ne.2 fun e => h ?_)
    rw [ByteArray.toList_eq, ByteArray.toList_eq] at e
    exact WideShapes.bytes_inj e
theorem line_parts (xa ya xb yb : ByteArray) : (xa = ya ∧ xb = yb) ∨ (xa.toList == ya.toList) = false ∨ (xa = ya ∧ (xb.toList == yb.toList) = false) := by
  rcases text_eq xa ya with h | h
  · rcases text_eq xb yb with g | g
    · exact .inl ⟨h, g⟩
    · exact .inr (.inr ⟨h, g⟩)
  · exact .inr (.inl h)
end Go.Proofs.YthlagpmacnijfaaGreatDoor

namespace Go.Proofs.YthlagpmacnijfaaGreatDoor
open Go.RowKit

set_option maxRecDepth 20000 in
set_option maxHeartbeats 16000000 in
theorem ref_SettingOf (l : Ln.L) (w : World) (hs : l.v.size ≤ 1048576) (hT : AllTabs w) :
    Calls Tryz.prog 7 #[lineV l] w fun e w' => e = .returned (.tuple #[setV (Bt.ofLine l).1, .int .i64 ((Bt.ofLine l).2 : Int)]) ∧ Below w.heap.size w w' := by
  obtain ⟨w1, hw1⟩ : ∃ w1, w1 = (w.alloc (.cells #[.string l.k, .string l.v] 23)).alloc (.cells #[.int .i64 0, .string ⟨#[]⟩, .int .i64 0, .int .u32 0, .int .i64 0] 28) := ⟨_, rfl⟩
  have hA : Below w.heap.size w w1 := by rw [hw1]; exact ((Below.refl _ _).alloc (Nat.le_refl _) _).alloc (by simp) _
  have hG : Blk w1 w.heap.size 23 [.string l.k, .string l.v] := by rw [hw1]; exact (Blk.new w 23 [.string l.k, .string l.v]).kept ((Below.refl _ _).alloc (Nat.le_refl _) _)
  have hR : Blk w1 (w.heap.size + 1) 28 zeroC := by
    rw [hw1]
    have := Blk.new (w.alloc (.cells #[.string l.k, .string l.v] 23)) 28 zeroC
    rwa [show (w.alloc (.cells #[.string l.k, .string l.v] 23)).heap.size = w.heap.size + 1 by simp] at this
  have HA := Lib.hid hA
  have HG := Lib.hid hG
  have HR := Lib.hid hR
  have HW1 := Lib.hid hw1
  have HT := Lib.hid hT
  have HN := Lib.hid (fun W => ref_names W)
  clear hA hG hR hw1 hT
  obtain ⟨K, V⟩ := l
  simp only at hs HG HW1
  unfold lineV
  go_enter Tryz.func7, Tryz.ntmps7
  go_upto_region 1 with fail
  rw [← HW1.out]
  go_wp2_with fail
  refine (HN.out w1).mono ?_
  rintro e w2 ⟨rfl, hnm, hb2⟩
  have HM2 := Lib.hid hnm
  have HG2 := Lib.hid (HG.out.kept hb2)
  have HR2 := Lib.hid (HR.out.kept hb2)
  have HB2 := Lib.hid (HA.out.trans (hb2.mono HA.out.size))
  obtain ⟨M, hM⟩ : ∃ M, M = w1.heap.size := ⟨_, rfl⟩
  rw [← hM] at HM2 ⊢
  clear hb2 hnm hM HG HR HN
  go_wp2
  go_loopw [16] (fun i wr => ∃ k : Nat, k ≤ 11 ∧ i = .int .i64 (k : Int) ∧ Hid (∀ j, 1 ≤ j → j < k → Bt.nameOf j ≠ K) ∧ Hid (Below w2.heap.size w2 wr)) (fun i _ => 11 - (intOf i).toNat)
  case atStart => exact ⟨0, by decide, rfl, Lib.hid (fun j h1 h2 => by omega), Lib.hid (Below.refl _ _)⟩
  case round =>
    obtain ⟨k, hk, rfl, Ha, HBr⟩ := hrel
    obtain ⟨wo, hwo⟩ : ∃ wo, wo = wr := ⟨_, rfl⟩
    subst hwo
    have hGo := HG2.out.kept HBr.out
    have g0 := hGo.cell 0 rfl
    have g1 := hGo.cell 1 rfl
    have HBo := Lib.hid (HB2.out.trans (HBr.out.mono HB2.out.size))
    by_cases hlt : k < 11
    · have i11 : (k : Int) < 11 := by omega
      have hcell := (HM2.out.kept HBr.out).cell k (nameCells_at k (by omega))
      obtain ⟨X, hX⟩ : ∃ X, X = Bt.nameOf k := ⟨_, rfl⟩
      have HX := Lib.hid hX
      rw [← hX] at hcell
      clear hX
      by_cases h0 : k = 0
      · have q0 : ((k : Int) == 0) = true := by rw [h0]; rfl
        have Hn := Lib.hid (show ∀ j, 1 ≤ j → j < k + 1 → Bt.nameOf j ≠ K from fun j h1 h2 => by omega)
        clear h0 hGo
        go_wp2
        go_roundw
        case rel => exact ⟨k + 1, by omega, by go_num, Hn, HBr⟩
        case measure => simp [intOf]; omega
      · have q0 : ((k : Int) == 0) = false := by simpa using h0
        rcases text_eq X K with hXK | q1
        rotate_left
        · have Hn := Lib.hid (show ∀ j, 1 ≤ j → j < k + 1 → Bt.nameOf j ≠ K from fun j h1 h2 => by
            by_cases hj : j < k
            · exact Ha.out j h1 hj
            · obtain rfl : j = k := by omega
              rw [← HX.out]
              intro e
              subst e
              simp at q1)
          clear h0 hGo
          go_wp2
          go_roundw
          case rel => exact ⟨k + 1, by omega, by go_num, Hn, HBr⟩
          case measure => simp [intOf]; omega
        · subst hXK
          have h1k : 1 ≤ k := by omega
          have HK := Lib.hid (Bt.kind_some h1k (by omega) HX.out.symm)
          have HTo := Lib.hid (HT.out.below HBo.out)
          have HNu := Lib.hid (ref_NumberOf V 65535 wo (by omega) HTo.out.1 HTo.out.2.1)
          have HNe := Lib.hid (fun W (hW : Below wo.heap.size wo W) => ref_NetParsed V W hs (HTo.out.1.below hW) (HTo.out.2.1.below hW) (HTo.out.2.2.below hW))
          have HCl : Hid (Bt.cands k V = [⟨(k : Int), ⟨#[]⟩, 0, 0, 0⟩, ⟨(k : Int), V, 0, 0, 0⟩, ⟨(k : Int), ⟨#[]⟩, (Ad.numOut V.data.toList 65535 : Int), 0, 0⟩, ⟨(k : Int), ⟨#[]⟩, 0, Nt.parAddr V.data.toList, (Nt.parBits V.data.toList : Int)⟩]) := Lib.hid rfl
          have HOk := Lib.hid (Bt.cands_ok k V hs)
          generalize Ad.numOut V.data.toList 65535 = N at *
          generalize Nt.parAddr V.data.toList = A at *
          generalize (Nt.parBits V.data.toList : Int) = B at *
          generalize Ad.numErr V.data.toList 65535 = e1 at *
          generalize Nt.parErr V.data.toList = e2 at *
          unfold netV at HNe
          clear h0 Ha HX
          go_wp2_with fail
          refine HNu.out.mono ?_
          rintro e w3 ⟨rfl, hb3⟩
          have hG3 := HG2.out.kept (HBr.out.trans (hb3.mono HBr.out.size))
          have g3 := hG3.cell 1 rfl
          have HB3 := Lib.hid hb3
          clear hb3 hG3 hGo g0 g1 hcell
          go_wp2_with fail
          refine (HNe.out w3 HB3.out).mono ?_
          rintro e w4 ⟨rfl, hb4⟩
          have hG4 := HG2.out.kept (HBr.out.trans ((HB3.out.trans (hb4.mono HB3.out.size)).mono HBr.out.size))
          have g4 := hG4.cell 1 rfl
          have hgl := hG4.lt
          have HB4 := Lib.hid (HB3.out.trans (hb4.mono HB3.out.size))
          obtain ⟨w5, hw5⟩ : ∃ w5, w5 = (w4.alloc (.cells #[.int .u32 (A : Int), .int .i64 B] 26)).alloc (.cells #[.int .i64 (k : Int), .string ⟨#[]⟩, .int .i64 0, .int .u32 0, .int .i64 0, .int .i64 (k : Int), .string V, .int .i64 0, .int .u32 0, .int .i64 0, .int .i64 (k : Int), .string ⟨#[]⟩, .int .i64 (N : Int), .int .u32 0, .int .i64 0, .int .i64 (k : Int), .string ⟨#[]⟩, .int .i64 0, .int .u32 (A : Int), .int .i64 B] 28) := ⟨_, rfl⟩
          have HB5 := Lib.hid (show Below wo.heap.size wo w5 by rw [hw5]; exact (HB4.out.alloc HB4.out.size _).alloc (by have := HB4.out.size; simp; omega) _)
          have HAt : Hid (SetsAt w5 w5.heap.size (some ⟨w4.heap.size + 1, 0, none⟩) 4 (Bt.cands k V)) := Lib.hid (by
            rw [HCl.out, hw5]
            refine sets_of_row (t := 28) ?_
            have := heap_alloc_last (w4.alloc (.cells #[.int .u32 (A : Int), .int .i64 B] 26)) (.cells #[.int .i64 (k : Int), .string ⟨#[]⟩, .int .i64 0, .int .u32 0, .int .i64 0, .int .i64 (k : Int), .string V, .int .i64 0, .int .u32 0, .int .i64 0, .int .i64 (k : Int), .string ⟨#[]⟩, .int .i64 (N : Int), .int .u32 0, .int .i64 0, .int .i64 (k : Int), .string ⟨#[]⟩, .int .i64 0, .int .u32 (A : Int), .int .i64 B] 28)
            rwa [show (w4.alloc (.cells #[.int .u32 (A : Int), .int .i64 B] 26)).heap.size = w4.heap.size + 1 by simp] at this)
          have HW5 := Lib.hid hw5
          have Hlen : Hid ((Bt.cands k V).length = 4) := Lib.hid (by rw [HCl.out]; rfl)
          have HB5o := Lib.hid (HBo.out.trans (HB5.out.mono HBo.out.size))
          have HG5 := Lib.hid (HG2.out.kept (HBr.out.trans (HB5.out.mono HBr.out.size)))
          have HR5 := Lib.hid (HR2.out.kept (HBr.out.trans (HB5.out.mono HBr.out.size)))
          clear hb4 hG4 hw5 g3
          go_wp2
          rw [← HW5.out]
          go_loopw [55] (fun i wr => ∃ j : Nat, j ≤ 4 ∧ i = .int .i64 (j : Int) ∧ Hid (∀ x ∈ (Bt.cands k V).take j, Bt.fits ⟨X, V⟩ x = false) ∧ Hid (Below w5.heap.size w5 wr)) (fun i _ => 4 - (intOf i).toNat)
          case atStart => exact ⟨0, by decide, rfl, Lib.hid (fun x hx => by simp at hx), Lib.hid (Below.refl _ _)⟩
          case round =>
            obtain ⟨j, hj, rfl, Hno0, HBi⟩ := hrel
            obtain ⟨wi, hwi⟩ : ∃ wi, wi = wr := ⟨_, rfl⟩
            subst hwi
            have HBio := Lib.hid (HB5o.out.trans (HBi.out.mono HB5o.out.size))
            by_cases hlt2 : j < 4
            · have i4 : (j : Int) < 4 := by omega
              have hjl : j < (Bt.cands k V).length := by rw [Hlen.out]; exact hlt2
              obtain ⟨bb, oo, ee, _, hc⟩ := (HAt.out.below HBi.out).2 (by decide)
              cases ee
              obtain ⟨c0, c1, c2, c3, c4⟩ := hc j hjl
              rw [Nat.zero_add] at c0 c1 c2 c3 c4
              have Hcok := Lib.hid (HOk.out _ (List.getElem_mem hjl))
              have Htk : Hid ((Bt.cands k V).take (j + 1) = (Bt.cands k V).take j ++ [(Bt.cands k V)[j]]) := Lib.hid (List.take_succ_eq_append_getElem hjl)
              have Hpk := Lib.hid (fun hf => Bt.pick_at j hjl Hno0.out hf)
              clear hc
              generalize (Bt.cands k V)[j] = cc at *
              have Hst := Lib.hid (fun (hf : Bt.fits ⟨X, V⟩ cc = false) => (show ∀ x ∈ (Bt.cands k V).take (j + 1), Bt.fits ⟨X, V⟩ x = false by
                intro x hx
                rw [Htk.out] at hx
                rcases List.mem_append.1 hx with hx | hx
                · exact Hno0.out x hx
                · rw [List.mem_singleton.1 hx]; exact hf))
              have HLn := Lib.hid (fun W (hW : Below w.heap.size w W) => ref_SettingLine cc W Hcok.out.1 Hcok.out.2.1 Hcok.out.2.2.1 Hcok.out.2.2.2 (HT.out.below hW))
              obtain ⟨w6, hw6⟩ : ∃ w6, w6 = wi.alloc (.cells #[.int .i64 cc.k, .string cc.t, .int .i64 cc.n, .int .u32 (cc.a : Int), .int .i64 cc.b] 28) := ⟨_, rfl⟩
              have hA6 : Below wi.heap.size wi w6 := by rw [hw6]; exact (Below.refl _ _).alloc (Nat.le_refl _) _
              have HC6 := Lib.hid (show Blk w6 wi.heap.size 28 [.int .i64 cc.k, .string cc.t, .int .i64 cc.n, .int .u32 (cc.a : Int), .int .i64 cc.b] by rw [hw6]; exact Blk.new _ _ _)
              have HA6 := Lib.hid hA6
              have HW6 := Lib.hid hw6
              have HB6 := Lib.hid (HBio.out.trans (hA6.mono HBio.out.size))
              clear hw6 hA6
              have Hfe := Lib.hid (fun (h : Bt.err cc ≠ 0) => Bt.fits_err (l := ⟨X, V⟩) h)
              have Hfl := Lib.hid (fun (h : Bt.line cc ≠ ⟨X, V⟩) => Bt.fits_line h)
              have Hfo := Lib.hid (fun (h : Bt.err cc = 0) (h2 : Bt.line cc = ⟨X, V⟩) => Bt.fits_ok h h2)
              obtain ⟨ck, ct, cn, ca, cb⟩ := cc
              unfold setV at HLn
              generalize hLL : Bt.line ⟨ck, ct, cn, ca, cb⟩ = L at *
              clear hLL
              obtain ⟨LX, LY⟩ := L
              unfold lineV at HLn
              go_upto_region 10 with fail
              rw [← HW6.out]
              obtain ⟨s0, s1, s2, s3, s4⟩ := (HC6.out.facts5).1
              go_wp2_with fail
              refine (HLn.out w6 HB6.out).mono ?_
              rintro e w7 ⟨rfl, hb7⟩
              have hC7 := HC6.out.kept hb7
              obtain ⟨m0, m1, m2, m3, m4⟩ := (hC7.facts5).1
              have hl11 := hC7.lt
              have hB57 := HBi.out.trans ((HA6.out.trans (hb7.mono HA6.out.size)).mono HBi.out.size)
              have hG7 := HG5.out.kept hB57
              have q0 := hG7.cell 0 rfl
              have q1 := hG7.cell 1 rfl
              have hlG := hG7.lt
              have HR7 := Lib.hid (HR5.out.kept hB57)
              have hlR := HR7.out.lt
              have HB7 := Lib.hid (HB6.out.trans (hb7.mono HB6.out.size))
              have HB8 := Lib.hid (hB57.alloc hB57.size (.cells #[.string LX, .string LY] 23))
              clear hC7 hG7 hB57 hb7 s0 s1 s2 s3 s4 c0 c1 c2 c3 c4
              by_cases he : Bt.err ⟨ck, ct, cn, ca, cb⟩ = 0
              rotate_left
              · have Hno := Lib.hid (Hst.out (Hfe.out he))
                have qe : ((Bt.err ⟨ck, ct, cn, ca, cb⟩ : Int) == 0) = false := by simpa using he
                clear he Hfe Hfl Hfo
                generalize Bt.err ⟨ck, ct, cn, ca, cb⟩ = r at *
                go_wp2
                go_roundw
                case rel => exact ⟨j + 1, by omega, by go_num, Hno, HB8⟩
                case measure => simp [intOf]; omega
              · have Hyes := Lib.hid (fun h2 => Hpk.out (Hfo.out he h2))
                rw [he]
                clear he Hfe Hfo
                rcases line_parts LX X LY V with ⟨rfl, rfl⟩ | z0 | ⟨rfl, z0⟩
                · have Hres : Hid (Bt.ofLine ⟨LX, LY⟩ = (⟨ck, ct, cn, ca, cb⟩, 0)) := Lib.hid (by
                    unfold Bt.ofLine
                    rw [HK.out, if_neg (by omega)]
                    exact Hyes.out rfl)
                  have r0 := HR7.out.cell 0 rfl
                  have r1 := HR7.out.cell 1 rfl
                  have r2 := HR7.out.cell 2 rfl
                  have r3 := HR7.out.cell 3 rfl
                  have r4 := HR7.out.cell 4 rfl
                  have f0 := HR7.out.frozen (by decide) 0
                  have f1 := HR7.out.frozen (by decide) 1
                  have f2 := HR7.out.frozen (by decide) 2
                  have f3 := HR7.out.frozen (by decide) 3
                  have f4 := HR7.out.frozen (by decide) 4
                  have HE := Lib.hid (HR7.out.set5 (.int .i64 ck) (.string ct) (.int .i64 cn) (.int .u32 (ca : Int)) (.int .i64 cb))
                  have HBE := Lib.hid (below_set5 HB7.out (g := w.heap.size + 1) (Nat.le_succ _) (.int .i64 ck) (.string ct) (.int .i64 cn) (.int .u32 (ca : Int)) (.int .i64 cb))
                  clear Hyes Hfl
                  go_wp2
                  exact bodyPost_ret (ret_cell (load_set (HE.out.kept ((Below.refl _ _).alloc (Nat.le_refl _) _)) rfl) Tryz.results7 rfl rfl) rfl ⟨by rw [Hres.out]; rfl, HBE.out.alloc HBE.out.size _⟩
                · have Hno := Lib.hid (Hst.out (Hfl.out (fun e => by injection e with e1 e2; subst e1; simp at z0)))
                  clear Hyes Hfl
                  go_wp2
                  go_roundw
                  case rel => exact ⟨j + 1, by omega, by go_num, Hno, HB8⟩
                  case measure => simp [intOf]; omega
                · have Hno := Lib.hid (Hst.out (Hfl.out (fun e => by injection e with e1 e2; subst e2; simp at z0)))
                  clear Hyes Hfl
                  go_wp2
                  go_roundw
                  case rel => exact ⟨j + 1, by omega, by go_num, Hno, HB8⟩
                  case measure => simp [intOf]; omega
            · obtain rfl : j = 4 := by omega
              have hall : ∀ x ∈ Bt.cands k V, Bt.fits ⟨X, V⟩ x = false := by
                have := Hno0.out
                rwa [List.take_of_length_le (by rw [Hlen.out]; exact Nat.le_refl _)] at this
              have Hres : Hid (Bt.ofLine ⟨X, V⟩ = (Bt.zeroS, 3)) := Lib.hid (by
                unfold Bt.ofLine
                rw [HK.out, if_neg (by omega)]
                exact Bt.pick_none hall)
              have hRo := HR5.out.kept HBi.out
              have r0 := hRo.cell 0 rfl
              have r1 := hRo.cell 1 rfl
              have r2 := hRo.cell 2 rfl
              have r3 := hRo.cell 3 rfl
              have r4 := hRo.cell 4 rfl
              have f0 := hRo.frozen (by decide) 0
              have f1 := hRo.frozen (by decide) 1
              have f2 := hRo.frozen (by decide) 2
              have f3 := hRo.frozen (by decide) 3
              have f4 := hRo.frozen (by decide) 4
              have HE := Lib.hid (hRo.set5 (.int .i64 0) (.string ⟨#[]⟩) (.int .i64 0) (.int .u32 0) (.int .i64 0))
              have HBE := Lib.hid (below_set5 HBio.out (g := w.heap.size + 1) (Nat.le_succ _) (.int .i64 0) (.string ⟨#[]⟩) (.int .i64 0) (.int .u32 0) (.int .i64 0))
              clear hall hRo
              rw [show ((4 : Nat) : Int) = (4 : Int) from rfl]
              go_wp2
              exact bodyPost_ret (ret_cell (load_set HE.out rfl) Tryz.results7 rfl rfl) rfl ⟨by rw [Hres.out]; rfl, HBE.out⟩
    · obtain rfl : k = 11 := by omega
      have Hk : Hid (Bt.ofLine ⟨K, V⟩ = (Bt.zeroS, 2)) := Lib.hid (by
        unfold Bt.ofLine
        rw [if_pos (Bt.kind_none fun j h1 h2 => Ha.out j h1 (by omega))])
      have hRo := HR2.out.kept HBr.out
      have r0 := hRo.cell 0 rfl
      have r1 := hRo.cell 1 rfl
      have r2 := hRo.cell 2 rfl
      have r3 := hRo.cell 3 rfl
      have r4 := hRo.cell 4 rfl
      have f0 := hRo.frozen (by decide) 0
      have f1 := hRo.frozen (by decide) 1
      have f2 := hRo.frozen (by decide) 2
      have f3 := hRo.frozen (by decide) 3
      have f4 := hRo.frozen (by decide) 4
      have HE := Lib.hid (hRo.set5 (.int .i64 0) (.string ⟨#[]⟩) (.int .i64 0) (.int .u32 0) (.int .i64 0))
      have HBE := Lib.hid (below_set5 HBo.out (g := w.heap.size + 1) (Nat.le_succ _) (.int .i64 0) (.string ⟨#[]⟩) (.int .i64 0) (.int .u32 0) (.int .i64 0))
      clear hGo hRo
      rw [show ((11 : Nat) : Int) = (11 : Int) from rfl]
      go_wp2
      exact bodyPost_ret (ret_cell (load_set HE.out rfl) Tryz.results7 rfl rfl) rfl ⟨by rw [Hk.out]; rfl, HBE.out⟩
end Go.Proofs.YthlagpmacnijfaaGreatDoor

namespace Go.Proofs.YthlagpmacnijfaaGreatDoor
open Go.RowKit

theorem num_bad {l : List UInt8} {most : Int} (h : Ad.isNum l = false ∨ most < (Ad.val l : Int)) : Ad.numErr l most = 3 ∧ Ad.numOut l most = 0 := by
  have e : Ad.numErr l most = 3 := by
    unfold Ad.numErr
    rw [if_neg]
    rintro ⟨h1, h2⟩
    rcases h with h | h
    · rw [h] at h1; cases h1
    · omega
  refine ⟨e, ?_⟩
  unfold Ad.numOut
  rw [e]
  rfl
theorem num_good {l : List UInt8} {most : Int} (h : Ad.isNum l = true) (h2 : (Ad.val l : Int) ≤ most) : Ad.numErr l most = 0 ∧ Ad.numOut l most = Ad.val l := by
  have e : Ad.numErr l most = 0 := by unfold Ad.numErr; rw [if_pos ⟨h, h2⟩]
  refine ⟨e, ?_⟩
  unfold Ad.numOut
  rw [if_pos e]
theorem not_num_long {l : List UInt8} (h : 5 < l.length) : Ad.isNum l = false := by
  cases hn : Ad.isNum l
  · rfl
  · have := (Ad.num_parts l hn).2.1; omega
theorem not_num_zero {l : List UInt8} (h : 1 < l.length) (h0 : l.head? = some 48) : Ad.isNum l = false := by
  cases hn : Ad.isNum l
  · rfl
  · rcases (Ad.num_parts l hn).2.2.2 with h | h
    · omega
    · exact absurd h0 h
theorem not_num_digit {l : List UInt8} {k : Nat} (h : k < l.length) (hd : Ad.isD l[k] = false) : Ad.isNum l = false := by
  cases hn : Ad.isNum l
  · rfl
  · have := List.all_eq_true.1 (Ad.num_parts l hn).2.2.1 _ (List.getElem_mem h)
    rw [hd] at this; cases this
theorem is_num {l : List UInt8} (h0 : 0 < l.length) (h5 : l.length ≤ 5) (hd : l.all Ad.isD = true) (hz : l.length = 1 ∨ l.head? ≠ some 48) : Ad.isNum l = true := by
  unfold Ad.isNum
  rw [hd, decide_eq_true h5, decide_eq_true (show l ≠ [] by intro e; rw [e] at h0; simp at h0)]
  rcases hz with hz | hz
  · rw [decide_eq_true hz]; rfl
  · rw [decide_eq_true hz]; simp
/-- The digits read so far. -/
def NumSo (l : List UInt8) (w : World) (k : Nat) (v : Value) (wr : World) : Prop :=
  v = .int .i64 (Ad.val (l.take k) : Int) ∧ (l.take k).all Ad.isD = true ∧ Below w.heap.size w wr
theorem val_take {l : List UInt8} {k : Nat} (h : k < l.length) : Ad.val (l.take (k + 1)) = Ad.val (l.take k) * 10 + (l[k].toNat - 48) := by
  rw [List.take_succ_eq_append_getElem h, Ad.val_snoc]
theorem val_take_lt {l : List UInt8} {k : Nat} (h5 : l.length ≤ 5) (hd : (l.take k).all Ad.isD = true) : Ad.val (l.take k) < 100000 := by
  have := Ad.val_lt _ hd
  have h2 : 10 ^ (l.take k).length ≤ 10 ^ 5 := Nat.pow_le_pow_right (by decide) (by rw [List.length_take]; omega)
  omega

set_option maxHeartbeats 800000 in
theorem addr_Number0 (s : ByteArray) (most : Int) (w : World) (hs : s.size ≤ 281474976710656) :
    Calls Tryz.prog 25 #[.string s, .int .i64 most] w fun e w' => e = .returned (.tuple #[.int .i64 (Ad.numOut s.data.toList most : Int), .int .i64 (Ad.numErr s.data.toList most : Int)]) ∧ Below w.heap.size w w' := by
  have hsl : s.data.toList.length = s.size := by simp
  by_cases h0 : s.size = 0
  · obtain rfl : s = ⟨#[]⟩ := by
      apply WideShapes.bytes_inj
      rw [List.eq_nil_of_length_eq_zero (by omega : s.data.toList.length = 0)]
    have Hr := Lib.hid (num_bad (l := []) (most := most) (.inl rfl))
    clear hsl h0 hs
    go_enter Tryz.func25, Tryz.ntmps25
    go_wp2
    go_ret2
    exact ⟨by rw [Hr.out.1, Hr.out.2]; rfl, Below.refl _ _⟩
  have hse : s.toList.isEmpty = false := by
    rw [Lib.toList_data]
    cases h : s.data.toList with
    | nil => rw [h] at hsl; simp at hsl; omega
    | cons _ _ => rfl
  by_cases h5 : 5 < s.size
  · have Hr := Lib.hid (num_bad (most := most) (.inl (not_num_long (l := s.data.toList) (by omega))))
    have d1 : decide ((5 : Int) < (s.size : Int)) = true := decide_eq_true (by omega)
    clear hsl h0
    go_enter Tryz.func25, Tryz.ntmps25
    go_wp2
    go_ret2
    exact ⟨by rw [Hr.out.1, Hr.out.2]; rfl, Below.refl _ _⟩
  have d1 : decide ((5 : Int) < (s.size : Int)) = false := decide_eq_false (by omega)
  have hp : 0 < s.size := by omega
  have hh : s.data.toList.head? = some s[0] := by
    rw [List.head?_eq_getElem?, List.getElem?_eq_getElem (by omega)]
    rfl
  have x0 := (s[0]).toNat_lt
  by_cases hz : (s[0]).toNat = 48 ∧ 1 < s.size
  · have Hr := Lib.hid (num_bad (most := most) (.inl (not_num_zero (l := s.data.toList) (by omega) (by rw [hh]; exact congrArg some (UInt8.toNat_inj.1 hz.1)))))
    have d2 : decide ((1 : Int) < (s.size : Int)) = true := decide_eq_true (by omega)
    obtain ⟨hz1, hz2⟩ := hz
    clear hsl h0 hh
    go_enter Tryz.func25, Tryz.ntmps25
    go_wp2
    go_ret2
    exact ⟨by rw [Hr.out.1, Hr.out.2]; rfl, Below.refl _ _⟩
  have Hz := Lib.hid (show s.data.toList.length = 1 ∨ s.data.toList.head? ≠ some 48 by
    by_cases h1 : s.size = 1
    · left; omega
    · right
      rw [hh]
      intro e
      injection e with e
      exact hz ⟨by rw [e]; rfl, by omega⟩)
  have Hl := Lib.hid hsl
  clear hh hsl
  by_cases hz1 : (s[0]).toNat = 48
  all_goals
    have d2 : (s[0]).toNat = 48 → decide ((1 : Int) < (s.size : Int)) = false := fun h => decide_eq_false (by omega)
    try have d3 := d2 hz1
    clear d2
    go_enter Tryz.func25, Tryz.ntmps25
    go_wp2
    go_loopw [6, 25] (fun v i wr => ∃ k : Nat, k ≤ s.size ∧ i = .int .i64 k ∧ NumSo s.data.toList w k v wr) (fun _ i _ => s.size - (intOf i).toNat)
    case atStart => exact ⟨0, Nat.zero_le _, rfl, rfl, rfl, Below.refl _ _⟩
    case round =>
      obtain ⟨k, hk, rfl, rfl, hd, hB⟩ := hrel
      have HB := Lib.hid hB
      have Hd := Lib.hid hd
      have hvl := val_take_lt (k := k) (show s.data.toList.length ≤ 5 by rw [Hl.out]; omega) hd
      clear hB hd
      by_cases hlt : k < s.size
      · have x1 := (s[k]'hlt).toNat_lt
        have hkl : k < s.data.toList.length := by rw [Hl.out]; exact hlt
        have hg : s.data.toList[k]'hkl = s[k]'hlt := rfl
        by_cases hD : Ad.isD (s[k]'hlt) = true
        · have hc : 48 ≤ (s[k]'hlt).toNat ∧ (s[k]'hlt).toNat ≤ 57 := by unfold Ad.isD at hD; exact of_decide_eq_true hD
          obtain ⟨hc1, hc2⟩ := hc
          have Hv := Lib.hid (val_take hkl)
          rw [hg] at Hv
          have Hd' := Lib.hid (show (s.data.toList.take (k + 1)).all Ad.isD = true by
            rw [List.take_succ_eq_append_getElem hkl, List.all_append, Hd.out, hg]
            simp only [List.all_cons, List.all_nil, Bool.and_true, Bool.true_and]
            exact hD)
          clear hD hkl hg
          generalize Ad.val (s.data.toList.take k) = A at *
          go_wp2
          go_roundw
          case rel => exact ⟨k + 1, by omega, by go_num, by rw [Hv.out]; congr 1; omega, Hd'.out, HB.out⟩
          case measure => simp [intOf]; omega
        · have Hr := Lib.hid (num_bad (most := most) (.inl (not_num_digit (l := s.data.toList) hkl (by rw [hg]; cases h : Ad.isD (s[k]'hlt); rfl; exact absurd h hD))))
          have hc : (s[k]'hlt).toNat < 48 ∨ 57 < (s[k]'hlt).toNat := by
            by_cases a : (s[k]'hlt).toNat < 48
            · exact .inl a
            · right
              by_cases b : 57 < (s[k]'hlt).toNat
              · exact b
              · exact absurd (by unfold Ad.isD; exact decide_eq_true ⟨by omega, by omega⟩) hD
          clear hD hkl hg
          generalize Ad.val (s.data.toList.take k) = A at *
          by_cases hc1 : (s[k]'hlt).toNat < 48
          · go_wp2
            go_ret2
            exact ⟨by rw [Hr.out.1, Hr.out.2]; rfl, HB.out⟩
          · have hc2 : 57 < (s[k]'hlt).toNat := by omega
            go_wp2
            go_ret2
            exact ⟨by rw [Hr.out.1, Hr.out.2]; rfl, HB.out⟩
      · obtain rfl : k = s.size := by omega
        have hta : s.data.toList.take s.size = s.data.toList := List.take_of_length_le (by rw [Hl.out]; exact Nat.le_refl _)
        rw [hta] at hvl Hd
        have hn := is_num (l := s.data.toList) (by rw [Hl.out]; omega) (by rw [Hl.out]; omega) Hd.out Hz.out
        rw [hta]
        by_cases hm : (Ad.val s.data.toList : Int) ≤ most
        · have Hr := Lib.hid (num_good hn hm)
          have d4 : decide (most < (Ad.val s.data.toList : Int)) = false := decide_eq_false (by omega)
          clear hta hn Hd
          generalize Ad.val s.data.toList = A at *
          go_wp2
          go_ret2
          exact ⟨by rw [Hr.out.1, Hr.out.2]; rfl, HB.out⟩
        · have Hr := Lib.hid (num_bad (l := s.data.toList) (most := most) (.inr (by omega)))
          have d4 : decide (most < (Ad.val s.data.toList : Int)) = true := decide_eq_true (by omega)
          clear hta hn Hd
          generalize Ad.val s.data.toList = A at *
          go_wp2
          go_ret2
          exact ⟨by rw [Hr.out.1, Hr.out.2]; rfl, HB.out⟩
end Go.Proofs.YthlagpmacnijfaaGreatDoor
