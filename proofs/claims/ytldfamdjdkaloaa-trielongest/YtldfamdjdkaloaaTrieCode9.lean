/- The contracts of the program's trie.without and trie.DropOwner, and of the reference's TrieDropOwner. -/
import Derived.Test.YtldfamdjdkaloaaTrieCode8
import Derived.Test.YtldfamdjdkaloaaTrieSel2
import Derived.Test.YtldfamdjdkaloaaTrieRef3
namespace Go.Proofs.Ytldfamdjdkaloaa
open Go.RowKit

set_option maxRecDepth 20000 in
set_option maxHeartbeats 1600000 in
theorem trie_without (F gc N : Nat) (sel : Tr.Node → Bool) (a : Option Addr) (n c : Nat) (l : List Tr.Node) (w : World) (h : NodesAt w w.heap.size a n l) (hn : n ≤ 3518437208780) (hg : ∀ x ∈ Tr.owned l, Tr.good (Tr.nw x)) (hso : Tr.sorted (Tr.owned l)) (hol : (Tr.owned l).length ≤ 1759218604441) (hs : SelAt F gc N sel w) (hN : N ≤ w.heap.size) :
    Calls Try.prog 48 #[.slice a n c, .func (.func F) #[] #[.pointer (some ⟨gc, 0, none⟩)]] w fun e w' => ∃ v, e = .returned v ∧ OwnN w' w.heap.size v (Tr.trie ((Tr.owned l).filter fun x => !sel x)) ∧ Below w.heap.size w w' := by
  have H2 := Lib.hid (trie_owned a n c l w h hn)
  have Hs := Lib.hid hs
  have Hg := Lib.hid hg
  have Hso := Lib.hid hso
  clear h hs hg hso
  generalize Tr.owned l = al at *
  go_enter Try.func48, Try.ntmps48
  go_wp2_with fail
  refine H2.out.mono ?_
  rintro e w2 ⟨v2, rfl, o2, b2⟩
  have hsz2 := b2.size
  have HD := Lib.hid (nodes_DeleteFunc F gc N sel v2 al w2 w.heap.size o2 hsz2 (by omega) (Hs.out.below (b2.mono hN)) hN)
  clear o2 H2
  go_wp2_with fail
  refine HD.out.mono ?_
  rintro e w3 ⟨⟨a3, m3, c3, rfl, at3, hm3⟩, b3⟩
  have hB3 := b2.trans b3
  have hsz3 := hB3.size
  have hfl : (al.filter fun x => !sel x).length ≤ al.length := List.length_filter_le _ _
  have hm : m3 = (al.filter fun x => !sel x).length := at3.1.symm
  have HG := Lib.hid (trie_build a3 m3 c3 (al.filter fun x => !sel x) w3 at3 hm3 (fun x hx => Hg.out x (List.mem_filter.1 hx).1) (List.Pairwise.filter _ Hso.out) (by omega))
  clear at3 hm HD
  go_wp2_with fail
  refine HG.out.mono ?_
  rintro e w4 ⟨v4, rfl, o4, b4⟩
  have hB4 := hB3.trans (b4.mono hsz3)
  have HO4 := Lib.hid (o4.base hsz3)
  clear o4 b4 HG
  go_wp2
  go_ret
  exact ⟨_, rfl, HO4.out, hB4⟩

noncomputable def Tr.dropO (o : ByteArray) (l : List Tr.Node) : List Tr.Node := if Tr.fault l = 0 then Tr.trie ((Tr.owned l).filter fun x => !decide (x.o = o)) else []
theorem Tr.fault_facts {l : List Tr.Node} (hf : Tr.fit l) (h : Tr.fault l = 0) : (∀ x ∈ l, Tr.good (Tr.nw x)) ∧ (∀ x ∈ Tr.owned l, Tr.good (Tr.nw x)) ∧ Tr.sorted (Tr.owned l) ∧ (Tr.owned l).length ≤ 141733920768 ∧ Tr.sorted l ∧ Tr.trie (Tr.owned l) = l := by
  obtain ⟨he0, hfit⟩ := Tr.fault_zero h
  have hg := Tr.fit_good hf he0
  have hso := Tr.fits_sorted hg hfit
  exact ⟨hg, Tr.owned_good hg, hso, Tr.once_le (Tr.owned_good hg) (Tr.sorted_once hso), Tr.fits_all_sorted hg hfit, hfit.2⟩
set_option maxRecDepth 20000 in
set_option maxHeartbeats 1600000 in
theorem trie_DropOwner (a : Option Addr) (n c : Nat) (l : List Tr.Node) (o : ByteArray) (w : World) (h : NodesAt w w.heap.size a n l) (hf : Tr.fit l) (hn : n ≤ 3518437208780) :
    Calls Try.prog 24 #[.slice a n c, .string o] w fun e w' => (∃ v, e = .returned (.tuple #[v, .int .i64 (Tr.fault l : Int)]) ∧ OwnN w' w.heap.size v (Tr.dropO o l)) ∧ Below w.heap.size w w' := by
  obtain ⟨w1, hw1⟩ : ∃ w1, w1 = w.alloc (.cells #[.string o] 9) := ⟨_, rfl⟩
  have hA : Below w.heap.size w w1 := by rw [hw1]; exact (Below.refl _ _).alloc (Nat.le_refl _) _
  have hz1 : w.heap.size < w1.heap.size := by rw [hw1]; simp
  have hc1 : w1.cell? ⟨w.heap.size, 0, none⟩ = some (.string o) := by rw [hw1]; exact (cell_of_row _ _ 0 _ _ _ (heap_alloc_last w _)).trans rfl
  have H1 := Lib.hid (trie_Check a n c l w1 ((h.below hA).up (by omega)) hf hn)
  by_cases hz : Tr.fault l = 0
  · have Hd : Hid (Tr.dropO o l = Tr.trie ((Tr.owned l).filter fun x => !decide (x.o = o))) := Lib.hid (if_pos hz)
    obtain ⟨_, hg, hso, hol, _⟩ := Tr.fault_facts hf hz
    have H2 := Lib.hid (fun (W : World) (hb : Below w1.heap.size w1 W) => trie_without 51 w.heap.size w1.heap.size (fun x => decide (x.o = o)) a n c l W (((h.below hA).below (hb.mono (by omega))).up (by have := hb.size; omega)) hn hg hso (by omega) (sel_owner w.heap.size w1.heap.size o W (by rw [hb.cell (p := ⟨w.heap.size, 0, none⟩) hz1]; exact hc1) hz1) hb.size)
    rw [hz] at H1 ⊢
    clear h hf hz hg hso hc1
    go_enter Try.func24, Try.ntmps24
    go_wp2_with fail
    rw [← hw1]
    clear hw1
    refine H1.out.mono ?_
    rintro e w2 ⟨rfl, b2⟩
    go_wp2_with fail
    refine (H2.out w2 b2).mono ?_
    rintro e w3 ⟨v3, rfl, o3, b3⟩
    have B3 := hA.trans ((b2.trans (b3.mono b2.size)).mono (by omega))
    have O3 := Lib.hid (o3.base (show w.heap.size ≤ w2.heap.size by have := b2.size; omega))
    clear b2 b3 H1 H2 o3
    go_wp2
    go_ret2
    exact ⟨⟨_, rfl, by rw [Hd.out]; exact O3.out⟩, B3⟩
  · have Hd : Hid (Tr.dropO o l = []) := Lib.hid (if_neg hz)
    have hz' : ((Tr.fault l : Int) != 0) = true := by simp; omega
    clear hz h hf hc1
    generalize Tr.fault l = FF at *
    go_enter Try.func24, Try.ntmps24
    go_wp2_with fail
    rw [← hw1]
    clear hw1
    refine H1.out.mono ?_
    rintro e w2 ⟨rfl, b2⟩
    have B2 := hA.trans (b2.mono (by omega))
    go_wp2
    go_ret2
    exact ⟨⟨_, rfl, by rw [Hd.out]; exact OwnN.nil _ _⟩, B2⟩
set_option maxRecDepth 20000 in
set_option maxHeartbeats 1600000 in
theorem ref_DropOwner (a : Option Addr) (n c : Nat) (l : List Tr.Node) (o : ByteArray) (w : World) (h : NodesAt w w.heap.size a n l) (hf : Tr.fit l) (hn : n ≤ 3518437208780) :
    Calls Try.prog 25 #[.slice a n c, .string o] w fun e w' => (∃ v, e = .returned (.tuple #[v, .int .i64 (Tr.fault l : Int)]) ∧ OwnN w' w.heap.size v (Tr.dropO o l)) ∧ Below w.heap.size w w' := by
  obtain ⟨w1, hw1⟩ : ∃ w1, w1 = w.alloc (.cells #[.string o] 9) := ⟨_, rfl⟩
  have hA : Below w.heap.size w w1 := by rw [hw1]; exact (Below.refl _ _).alloc (Nat.le_refl _) _
  have hz1 : w.heap.size < w1.heap.size := by rw [hw1]; simp
  have hc1 : w1.cell? ⟨w.heap.size, 0, none⟩ = some (.string o) := by rw [hw1]; exact (cell_of_row _ _ 0 _ _ _ (heap_alloc_last w _)).trans rfl
  have H1 := Lib.hid (ref_TrieFault a n c l w1 ((h.below hA).up (by omega)) hf hn)
  by_cases hz : Tr.fault l = 0
  · have Hd : Hid (Tr.dropO o l = Tr.trie ((Tr.owned l).filter fun x => !decide (x.o = o))) := Lib.hid (if_pos hz)
    obtain ⟨_, hg, hso, hol, _⟩ := Tr.fault_facts hf hz
    have H2 := Lib.hid (fun (W : World) (hb : Below w1.heap.size w1 W) => ref_without 52 w.heap.size w1.heap.size (fun x => decide (x.o = o)) a n c l W (((h.below hA).below (hb.mono (by omega))).up (by have := hb.size; omega)) hn hg (by omega) (sel_rowner w.heap.size w1.heap.size o W (by rw [hb.cell (p := ⟨w.heap.size, 0, none⟩) hz1]; exact hc1) hz1) hb.size)
    rw [hz] at H1 ⊢
    clear h hf hz hg hso hc1
    go_enter Try.func25, Try.ntmps25
    go_wp2_with fail
    rw [← hw1]
    clear hw1
    refine H1.out.mono ?_
    rintro e w2 ⟨rfl, b2⟩
    go_wp2_with fail
    refine (H2.out w2 b2).mono ?_
    rintro e w3 ⟨v3, rfl, o3, b3⟩
    have B3 := hA.trans ((b2.trans (b3.mono b2.size)).mono (by omega))
    have O3 := Lib.hid (o3.base (show w.heap.size ≤ w2.heap.size by have := b2.size; omega))
    clear b2 b3 H1 H2 o3
    go_wp2
    go_ret2
    exact ⟨⟨_, rfl, by rw [Hd.out]; exact O3.out⟩, B3⟩
  · have Hd : Hid (Tr.dropO o l = []) := Lib.hid (if_neg hz)
    have hz' : ((Tr.fault l : Int) != 0) = true := by simp; omega
    clear hz h hf hc1
    generalize Tr.fault l = FF at *
    go_enter Try.func25, Try.ntmps25
    go_wp2_with fail
    rw [← hw1]
    clear hw1
    refine H1.out.mono ?_
    rintro e w2 ⟨rfl, b2⟩
    have B2 := hA.trans (b2.mono (by omega))
    go_wp2
    go_ret2
    exact ⟨⟨_, rfl, by rw [Hd.out]; exact OwnN.nil _ _⟩, B2⟩
end Go.Proofs.Ytldfamdjdkaloaa
