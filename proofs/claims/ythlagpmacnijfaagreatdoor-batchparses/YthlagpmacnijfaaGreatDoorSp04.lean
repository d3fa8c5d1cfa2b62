/- The plain words of chapter 12: which candidate is picked; nothing of the program is named here. -/
import Derived.Test.YthlagpmacnijfaaGreatDoorSp03
import Derived.Test.YthlagpmacnijfaaGreatDoorStructMem
import Derived.Laws.Tables
import Derived.Test.YthlagpmacnijfaaGreatDoorBatchMem
import Derived.Test.YthlagpmacnijfaaGreatDoorSp01
import Derived.Test.YthlagpmacnijfaaGreatDoorBatchPlain
namespace Go.Proofs.YthlagpmacnijfaaGreatDoor
open Go.RowKit

set_option maxRecDepth 20000 in
set_option maxHeartbeats 1600000 in
theorem ref_NetParsed (s : ByteArray) (w : World) (hs : s.size ≤ 1048576) (hT : PowTab w) (hE : ErrTab w) (hM : MaxTab w) :
    Calls Tryz.prog 18 #[.string s] w fun e w' => e = .returned (.tuple #[netV (Nt.parAddr s.data.toList) (Nt.parBits s.data.toList : Int), .int .i64 (Nt.parErr s.data.toList : Int)]) ∧ Below w.heap.size w w' := by
  obtain ⟨w1, hw1⟩ : ∃ w1, w1 = w.alloc (.cells #[.int .u32 0, .int .i64 0] 26) := ⟨_, rfl⟩
  have hg1 : w1.heap[w.heap.size]? = some (.cells #[.int .u32 0, .int .i64 0] 26 (0, 0)) := by rw [hw1]; exact heap_alloc_last w _
  have hA : Below w.heap.size w w1 := by rw [hw1]; exact (Below.refl _ _).alloc (Nat.le_refl _) _
  have hz1 : w1.heap.size = w.heap.size + 1 := by rw [hw1]; simp
  have HI : Hid (∀ W, Calls Tryz.prog 31 #[.string s, .string ⟨#[47]⟩] W fun e w' => e = .returned (.int .i64 (Nt.slash s.data.toList)) ∧ w' = W) := Lib.hid fun W => Tryz.strings_Index_one s 47 W
  have HR : Hid (∀ W, Below w1.heap.size w1 W → W.ownsRow w.heap.size 26 1 (.slice (some ⟨w.heap.size, 0, none⟩) 2 2) 2 [.int .u32 0, .int .i64 0]) := Lib.hid fun W hW => own_below2 (own_two hg1 (Nat.le_refl _)) hW
  have HT := Lib.hid (hT.below hA)
  have HE := Lib.hid (hE.below hA)
  have HM := Lib.hid (hM.below hA)
  clear hg1 hT hE hM
  unfold netV
  by_cases h0 : Nt.slash s.data.toList < 0
  · have Hb := Lib.hid (Nt.par_bad (l := s.data.toList) (by unfold Nt.parGood; rw [decide_eq_false (by omega)]; rfl))
    generalize Nt.slash s.data.toList = q at *
    have R4 := HR.out w1 (Below.refl _ _)
    rw [hw1] at R4
    go_enter Tryz.func18, Tryz.ntmps18
    go_wp2_with fail
    refine (HI.out _).mono ?_
    rintro e w2 ⟨rfl, hw2⟩
    subst hw2
    go_wp2
    exact bodyPost_ret (net_ret Tryz.results18 rfl rfl R4) rfl ⟨ret_net_err (by rw [Hb.out.2.1, Hb.out.2.2]; rfl) (by rw [Hb.out.1]; rfl), by rw [← hw1]; exact hA⟩
  · obtain ⟨k, hk⟩ : ∃ k : Nat, Nt.slash s.data.toList = (k : Int) := ⟨(Nt.slash s.data.toList).toNat, by omega⟩
    have hge : decide (0 ≤ Nt.slash s.data.toList) = true := decide_eq_true (by omega)
    have hkl := Nt.slash_lt _ k hk
    have hsl : s.data.toList.length = s.size := by simp
    rw [hsl] at hkl
    have Hf : Hid ((s.extract 0 k).data.toList = Nt.front s.data.toList) := Lib.hid (by unfold Nt.front; rw [hk, Int.toNat_natCast]; exact Lib.extract_from_zero s k)
    have Hb : Hid ((s.extract (k + 1) s.size).data.toList = Nt.back s.data.toList) := Lib.hid (by unfold Nt.back; rw [hk, Int.toNat_natCast]; exact Lib.extract_to_end s (k + 1))
    have hx1 : (s.extract 0 k).size ≤ 1048576 := by rw [ByteArray.size_extract]; omega
    have hx2 : (s.extract (k + 1) s.size).size ≤ 281474976710656 := by rw [ByteArray.size_extract]; omega
    have H1 : Hid (∀ W, Below w1.heap.size w1 W → Calls Tryz.prog 32 #[.string (s.extract 0 k)] W fun e W' => e = .returned (.tuple #[.int .u32 (Ad.addrOut (Nt.front s.data.toList) : Int), .int .i64 (Ad.addrErr (Nt.front s.data.toList) : Int)]) ∧ Below w1.heap.size w1 W') :=
      Lib.hid fun W hW => (ref_AddrOf (s.extract 0 k) W hx1 (HT.out.below hW) (HE.out.below hW) (HM.out.below hW)).mono fun e W' ⟨he, hb⟩ => ⟨by rw [he, Hf.out], hW.trans (hb.mono hW.size)⟩
    have H2 : Hid (∀ W, Below w1.heap.size w1 W → Calls Tryz.prog 17 #[.string (s.extract (k + 1) s.size), .int .i64 32] W fun e W' => e = .returned (.tuple #[.int .i64 (Ad.numOut (Nt.back s.data.toList) 32 : Int), .int .i64 (Ad.numErr (Nt.back s.data.toList) 32 : Int)]) ∧ Below w1.heap.size w1 W') :=
      Lib.hid fun W hW => (ref_NumberOf (s.extract (k + 1) s.size) 32 W hx2 (HT.out.below hW) (HE.out.below hW)).mono fun e W' ⟨he, hb⟩ => ⟨by rw [he, Hb.out], hW.trans (hb.mono hW.size)⟩
    have H3 : Hid (∀ W, Below w1.heap.size w1 W → Calls Tryz.prog 33 #[.agg #[.int .u32 (Ad.addrOut (Nt.front s.data.toList) : Int), .int .i64 (Ad.numOut (Nt.back s.data.toList) 32 : Int)]] W fun e W' => e = .returned (.int .i64 (Nt.err (Ad.addrOut (Nt.front s.data.toList)) (Ad.numOut (Nt.back s.data.toList) 32 : Int) : Int)) ∧ Below w1.heap.size w1 W') :=
      Lib.hid fun W hW => (ref_NetFault _ _ W (good_lt _)).mono fun e W' ⟨he, hb⟩ => ⟨he, hW.trans (hb.mono hW.size)⟩
    have hnl := num_le (Nt.back s.data.toList) 32
    have eg : Nt.parGood s.data.toList = (Ad.good (Nt.front s.data.toList) && decide (Ad.numErr (Nt.back s.data.toList) 32 = 0) && decide (Nt.err (Ad.addrOut (Nt.front s.data.toList)) (Ad.numOut (Nt.back s.data.toList) 32 : Int) = 0)) := by unfold Nt.parGood; rw [hge]; rfl
    rw [hk] at HI
    clear hge h0 hk hsl HT HE HM
    have hw0 : (k : Int) ≤ s.size := by omega
    have hw00 : ((k : Int) + 1) ≤ s.size := by omega
    by_cases g1 : Ad.good (Nt.front s.data.toList) = true
    · have he1 : Ad.addrErr (Nt.front s.data.toList) = 0 := by unfold Ad.addrErr; rw [if_pos g1]
      rw [he1] at H1
      by_cases g2 : Ad.numErr (Nt.back s.data.toList) 32 = 0
      · rw [g2] at H2
        by_cases g3 : Nt.err (Ad.addrOut (Nt.front s.data.toList)) (Ad.numOut (Nt.back s.data.toList) 32 : Int) = 0
        · rw [g3] at H3
          have Hr := Lib.hid (Nt.par_ok (l := s.data.toList) (by rw [eg, g1, g2, g3]; rfl))
          clear g1 g2 g3 eg he1
          generalize Ad.addrOut (Nt.front s.data.toList) = A at *
          generalize Ad.numOut (Nt.back s.data.toList) 32 = B at *
          go_enter Tryz.func18, Tryz.ntmps18
          go_wp2_with fail
          rw [← hw1]
          clear hw1
          refine (HI.out _).mono ?_
          rintro e w2 ⟨rfl, hw2⟩
          rw [hw2]
          clear hw2 w2
          go_wp2_with fail
          refine (H1.out _ (Below.refl _ _)).mono ?_
          rintro e w3 ⟨rfl, hb3⟩
          go_wp2_with fail
          refine (H2.out _ hb3).mono ?_
          rintro e w4 ⟨rfl, hb4⟩
          go_wp2_with fail
          refine (H3.out _ hb4).mono ?_
          rintro e w5 ⟨rfl, hb5⟩
          have R4 := HR.out _ hb5
          obtain ⟨p0, p1⟩ := two_cells R4
          have f0 := R4.frozenAt 0
          have f1 := R4.frozenAt 1
          have R5 := two_set R4 (.int .u32 (A : Int)) (.int .i64 (B : Int))
          have hB7 := hA.trans (hb5.mono (by omega))
          go_wp2
          exact bodyPost_ret (net_ret Tryz.results18 rfl rfl R5) rfl ⟨ret_net_err (by rw [Hr.out.2.1, Hr.out.2.2]) (by rw [Hr.out.1]; rfl), (hB7.setCell (Nat.le_refl _) _).setCell (Nat.le_refl _) _⟩
        · have Hr := Lib.hid (Nt.par_bad (l := s.data.toList) (by rw [eg, decide_eq_false g3, Bool.and_false]))
          have hn3 : ((Nt.err (Ad.addrOut (Nt.front s.data.toList)) (Ad.numOut (Nt.back s.data.toList) 32 : Int) : Int) != 0) = true := by simpa using g3
          clear g1 g2 g3 eg he1
          generalize Nt.err (Ad.addrOut (Nt.front s.data.toList)) (Ad.numOut (Nt.back s.data.toList) 32 : Int) = r at *
          generalize Ad.addrOut (Nt.front s.data.toList) = A at *
          generalize Ad.numOut (Nt.back s.data.toList) 32 = B at *
          go_enter Tryz.func18, Tryz.ntmps18
          go_wp2_with fail
          rw [← hw1]
          clear hw1
          refine (HI.out _).mono ?_
          rintro e w2 ⟨rfl, hw2⟩
          rw [hw2]
          clear hw2 w2
          go_wp2_with fail
          refine (H1.out _ (Below.refl _ _)).mono ?_
          rintro e w3 ⟨rfl, hb3⟩
          go_wp2_with fail
          refine (H2.out _ hb3).mono ?_
          rintro e w4 ⟨rfl, hb4⟩
          go_wp2_with fail
          refine (H3.out _ hb4).mono ?_
          rintro e w5 ⟨rfl, hb5⟩
          have R4 := HR.out _ hb5
          obtain ⟨p0, p1⟩ := two_cells R4
          have f0 := R4.frozenAt 0
          have f1 := R4.frozenAt 1
          have R5 := two_set R4 (.int .u32 0) (.int .i64 0)
          have hB7 := hA.trans (hb5.mono (by omega))
          go_wp2
          exact bodyPost_ret (net_ret Tryz.results18 rfl rfl R5) rfl ⟨ret_net_err (by rw [Hr.out.2.1, Hr.out.2.2]; rfl) (by rw [Hr.out.1]; rfl), (hB7.setCell (Nat.le_refl _) _).setCell (Nat.le_refl _) _⟩
      · have Hr := Lib.hid (Nt.par_bad (l := s.data.toList) (by rw [eg, decide_eq_false g2, Bool.and_false]; rfl))
        rw [(numOut_bad _ _ g2).1, (numOut_bad _ _ g2).2] at H2
        clear g1 g2 eg he1 H3
        generalize Ad.addrOut (Nt.front s.data.toList) = A at *
        go_enter Tryz.func18, Tryz.ntmps18
        go_wp2_with fail
        rw [← hw1]
        clear hw1
        refine (HI.out _).mono ?_
        rintro e w2 ⟨rfl, hw2⟩
        rw [hw2]
        clear hw2 w2
        go_wp2_with fail
        refine (H1.out _ (Below.refl _ _)).mono ?_
        rintro e w3 ⟨rfl, hb3⟩
        go_wp2_with fail
        refine (H2.out _ hb3).mono ?_
        rintro e w4 ⟨rfl, hb4⟩
        have R4 := HR.out _ hb4
        obtain ⟨p0, p1⟩ := two_cells R4
        have f0 := R4.frozenAt 0
        have f1 := R4.frozenAt 1
        have R5 := two_set R4 (.int .u32 0) (.int .i64 0)
        have hB7 := hA.trans (hb4.mono (by omega))
        go_wp2
        exact bodyPost_ret (net_ret Tryz.results18 rfl rfl R5) rfl ⟨ret_net_err (by rw [Hr.out.2.1, Hr.out.2.2]; rfl) (by rw [Hr.out.1]; rfl), (hB7.setCell (Nat.le_refl _) _).setCell (Nat.le_refl _) _⟩
    · have hg1 : Ad.good (Nt.front s.data.toList) = false := by simpa using g1
      have Hr := Lib.hid (Nt.par_bad (l := s.data.toList) (by rw [eg, hg1]; rfl))
      rw [(addr_bad _ hg1).1, (addr_bad _ hg1).2] at H1
      clear g1 hg1 eg H3
      generalize Ad.numOut (Nt.back s.data.toList) 32 = B at *
      generalize Ad.numErr (Nt.back s.data.toList) 32 = E at *
      go_enter Tryz.func18, Tryz.ntmps18
      go_wp2_with fail
      rw [← hw1]
      clear hw1
      refine (HI.out _).mono ?_
      rintro e w2 ⟨rfl, hw2⟩
      rw [hw2]
      clear hw2 w2
      go_wp2_with fail
      refine (H1.out _ (Below.refl _ _)).mono ?_
      rintro e w3 ⟨rfl, hb3⟩
      go_wp2_with fail
      refine (H2.out _ hb3).mono ?_
      rintro e w4 ⟨rfl, hb4⟩
      have R4 := HR.out _ hb4
      obtain ⟨p0, p1⟩ := two_cells R4
      have f0 := R4.frozenAt 0
      have f1 := R4.frozenAt 1
      have R5 := two_set R4 (.int .u32 0) (.int .i64 0)
      have hB7 := hA.trans (hb4.mono (by omega))
      go_wp2
      exact bodyPost_ret (net_ret Tryz.results18 rfl rfl R5) rfl ⟨ret_net_err (by rw [Hr.out.2.1, Hr.out.2.2]; rfl) (by rw [Hr.out.1]; rfl), (hB7.setCell (Nat.le_refl _) _).setCell (Nat.le_refl _) _⟩
end Go.Proofs.YthlagpmacnijfaaGreatDoor

namespace Go.Proofs.YthlagpmacnijfaaGreatDoor
open Go.RowKit

theorem grown_set_row (w : World) (g : Nat) (cs : Array Value) : w.grownBy (w.setRow g cs) (some g) :=
  ⟨rfl, rfl, rfl, by simp [World.setRow], fun k _ hne => setRow_other w g k cs (fun e => hne (by rw [e]))⟩

/-- A whole struct into its block. -/
theorem wpL_storeBlk {w : World} {ops : Array Oper} {rest : List Oper} {o : Oper} {a : Act} {Q : Exit → Act → World → Prop} (hgd : o.guard = none) (t : TypeId) (x y : Operand) (ho : o.op = .store t x y) (g : Nat) (xs ys : List Value)
    (hx : a.eval x = .pointer (some ⟨g, 0, none⟩)) (hy : a.eval y = .agg ys.toArray) (hg : Blk w g t xs) (hi : (Tryz.prog.info? t).map (·.size) = some xs.length) (hl : ys.length = xs.length) (h1 : ys.all (·.oneCell') = true)
    (h : ∀ w', Blk w' g t ys → w.grownBy w' (some g) → w'.heap.size = w.heap.size → wpList Tryz.prog ops Q rest (a.put o.dst undef) w') : wpList Tryz.prog ops Q (o :: rest) a w := by
  refine wpList_store_row hgd t x y ho g ys.toArray hx hy t xs.toArray hg (by simpa [hl] using hi) (by simp [hl]) (by simpa using h1) (h _ (setRow_heap w g _ _ t _ hg) (grown_set_row w g _) (by simp))
theorem Blk.beside {w w' : World} {g k : Nat} {t : TypeId} {xs : List Value} (h : Blk w k t xs) (hg : w.grownBy w' (some g)) (hne : k ≠ g) : Blk w' k t xs :=
  (hg.block k h.lt (fun e => hne (by injection e))).trans h
/-- Bytes of the call's own beside another block that is written. -/
theorem own_beside_row {w w' : World} {base n c m g : Nat} {a : Option Addr} {xs : List Value} {t : TypeId} (ho : w.ownsRow base t 1 (.slice a n c) m xs) (hg : w.grownBy w' (some g)) (hk : g < base) : w'.ownsRow base t 1 (.slice a n c) m xs :=
  ho.kept hg (by
    cases hb : (Value.slice a n c).ownBlock with
    | none => exact .inl rfl
    | some j => exact .inr (fun e => by injection e with e; have := (ho.lt j hb).1; omega))
theorem below_row {w w' w0 : World} {B g : Nat} (h : Below B w0 w) (hg : w.grownBy w' (some g)) (hB : B ≤ w.heap.size) (hk : B ≤ g) : Below B w0 w' := h.grown hg hB (fun k e => by injection e with e; omega)
end Go.Proofs.YthlagpmacnijfaaGreatDoor

namespace Go.Proofs.YthlagpmacnijfaaGreatDoor
open Go.RowKit

theorem load_set {w : World} {g : Nat} {xs : List Value} (R : Blk w g 28 xs) (h : xs.length = 5) : (loadVar 28 ⟨g, 0, none⟩).run Tryz.prog w = .ok (.agg xs.toArray) w :=
  run_loadVar_row (P := Tryz.prog) w g 28 28 xs.toArray (0, 0) _ R Tryz.underlying28 rfl (by rw [show (Tryz.prog.info? 28).map (·.size) = some 5 by kernel_rfl]; simp [h])
def zeroC : List Value := [.int .i64 0, .string ⟨#[]⟩, .int .i64 0, .int .u32 0, .int .i64 0]
theorem size_set : (Tryz.prog.info? 28).map (·.size) = some 5 := by kernel_rfl
theorem size_line : (Tryz.prog.info? 23).map (·.size) = some 2 := by kernel_rfl
/-- What a function hands back of a setting. -/
theorem ret_setting {fn : Func} {w : World} {g : Nat} {s : Bt.S} {p : Nat} {tmps : Array Value} (R : Blk w g 28 (Bt.setC s)) (h : fn.results = #[.cell p 28]) (hp : tmps.getD p undef = .pointer (some ⟨g, 0, none⟩)) :
    (results fn tmps).run Tryz.prog w = .ok (setV s) w := ret_cell1 (load_set R rfl) h hp
theorem ret_setting_errno {fn : Func} {w : World} {g : Nat} {s : Bt.S} {p u : Nat} {v : Value} {tmps : Array Value} (R : Blk w g 28 (Bt.setC s)) (h : fn.results = #[.cell p 28, .tmp u]) (hp : tmps.getD p undef = .pointer (some ⟨g, 0, none⟩))
    (hv : tmps.getD u undef = v) : (results fn tmps).run Tryz.prog w = .ok (.tuple #[setV s, v]) w := ret_cell (load_set R rfl) h hp hv
theorem ret_line_errno {fn : Func} {w : World} {g : Nat} {x : Ln.L} {p u : Nat} {v : Value} {tmps : Array Value} (R : Blk w g 23 (Ln.lineC x)) (h : fn.results = #[.cell p 23, .tmp u]) (hp : tmps.getD p undef = .pointer (some ⟨g, 0, none⟩))
    (hv : tmps.getD u undef = v) : (results fn tmps).run Tryz.prog w = .ok (.tuple #[lineV x, v]) w := ret_cell (load_line R rfl) h hp hv
end Go.Proofs.YthlagpmacnijfaaGreatDoor

namespace Go.Proofs.YthlagpmacnijfaaGreatDoor.Bt

theorem kind_none {key : ByteArray} (h : ∀ j, 1 ≤ j → j ≤ 10 → nameOf j ≠ key) : kindOf key = 0 := by
  rcases kindOf_cases key with hk | ⟨h1, h2, h3⟩
  · exact hk
  · exact absurd h3 (h _ h1 h2)
theorem kind_some {key : ByteArray} {j : Nat} (h1 : 1 ≤ j) (h2 : j ≤ 10) (h : nameOf j = key) : kindOf key = j := by rw [← h]; exact kind_of_name j h1 h2
theorem pick_at {l : Ln.L} {c : List S} (k : Nat) (hk : k < c.length) (hn : ∀ x ∈ c.take k, fits l x = false) (hf : fits l c[k] = true) : pick1 l c = (c[k], 0) := by
  have : c.find? (fits l) = some c[k] := by
    rw [List.find?_eq_some_iff_append]
    refine ⟨hf, c.take k, c.drop (k + 1), ?_, fun a ha => by simp [hn a ha]⟩
    rw [← List.drop_eq_getElem_cons hk, List.take_append_drop]
  unfold pick1
  rw [this]
theorem pick_none {l : Ln.L} {c : List S} (hn : ∀ x ∈ c, fits l x = false) : pick1 l c = (zeroS, 3) := by
  have : c.find? (fits l) = none := List.find?_eq_none.2 fun x hx => by simp [hn x hx]
  unfold pick1
  rw [this]
theorem fits_err {l : Ln.L} {x : S} (h : err x ≠ 0) : fits l x = false := by unfold fits; rw [decide_eq_false (fun e => h e.1)]
theorem fits_line {l : Ln.L} {x : S} (h : line x ≠ l) : fits l x = false := by unfold fits; rw [decide_eq_false (fun e => h e.2)]
theorem fits_ok {l : Ln.L} {x : S} (h : err x = 0) (h2 : line x = l) : fits l x = true := by unfold fits; rw [decide_eq_true ⟨h, h2⟩]
theorem numOut_lt (l : List UInt8) (m : Int) : Ad.numOut l m < 100000 := by
  unfold Ad.numOut
  split
  · rename_i h
    unfold Ad.numErr at h
    split at h
    · rename_i hc; exact Ad.num_lt l hc.1
    · cases h
  · decide
theorem good_addr (l : List UInt8) : Ad.addrOut l < 4294967296 := by
  unfold Ad.addrOut
  split
  · rename_i h; exact (Ad.text_good l h).1
  · decide
theorem par_lt (l : List UInt8) : Nt.parAddr l < 4294967296 ∧ Nt.parBits l < 100000 := by
  unfold Nt.parAddr Nt.parBits
  constructor
  · split
    · exact good_addr _
    · decide
  · split
    · exact numOut_lt _ _
    · decide
/-- What the candidates may hold. -/
theorem cands_ok (k : Nat) (v : ByteArray) (hv : v.size ≤ 1048576) : ∀ s ∈ cands k v, s.t.size ≤ 1048576 ∧ s.a < 4294967296 ∧ -9223372036854775808 ≤ s.n ∧ s.n ≤ 9223372036854775807 := by
  have h1 := numOut_lt v.data.toList 65535
  obtain ⟨h2, h3⟩ := par_lt v.data.toList
  intro s hs
  unfold cands at hs
  simp only [List.mem_cons, List.not_mem_nil, or_false] at hs
  rcases hs with rfl | rfl | rfl | rfl
  · refine ⟨?_, ?_, ?_, ?_⟩ <;> simp only <;> (first | omega | (show (0 : Nat) ≤ _; omega))
  · refine ⟨?_, ?_, ?_, ?_⟩ <;> simp only <;> omega
  · refine ⟨?_, ?_, ?_, ?_⟩ <;> simp only <;> (first | omega | (show (0 : Nat) ≤ _; omega))
  · refine ⟨?_, ?_, ?_, ?_⟩ <;> simp only <;> (first | omega | (show (0 : Nat) ≤ _; omega))
end Go.Proofs.YthlagpmacnijfaaGreatDoor.Bt
