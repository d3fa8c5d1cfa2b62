/- The contracts of the reference's TrieFind and of the law's owned. -/
import Derived.Test.YtelanamcpadgdaaTrieRef3
import Derived.Test.YtelanamcpadgdaaTrieCode7
import Derived.Test.YtelanamcpadgdaaNetRef3
namespace Go.Proofs.Ytelanamcpadgdaa
open Go.RowKit

theorem mostO_bounds (x : Nat) : ∀ (l : List Tr.Node), (∀ n ∈ l, Tr.good (Tr.nw n)) → -1 ≤ (Tr.mostO x l).2 ∧ (Tr.mostO x l).2 ≤ 32 := by
  intro l hg
  have key : ∀ (l : List Tr.Node) (p : ByteArray × Int), (∀ n ∈ l, Tr.good (Tr.nw n)) → -1 ≤ p.2 ∧ p.2 ≤ 32 → -1 ≤ (l.foldl (fun p n => if Tr.hasN x n = true ∧ p.2 < n.b then (n.o, n.b) else p) p).2 ∧ (l.foldl (fun p n => if Tr.hasN x n = true ∧ p.2 < n.b then (n.o, n.b) else p) p).2 ≤ 32 := by
    intro l
    induction l with
    | nil => intro p _ h; exact h
    | cons n r ih =>
      intro p hg h
      rw [List.foldl_cons]
      refine ih _ (fun k hk => hg k (List.mem_cons_of_mem _ hk)) ?_
      split
      · obtain ⟨h0, h1, _⟩ := Nt.err_zero (hg n (List.mem_cons_self ..)).2
        change 0 ≤ n.b at h0
        change n.b ≤ 32 at h1
        exact ⟨by show (-1 : Int) ≤ n.b; omega, h1⟩
      · exact h
  exact key l _ hg ⟨by decide, by decide⟩

set_option maxRecDepth 20000 in
set_option maxHeartbeats 3200000 in
theorem ref_TrieFind (a : Option Addr) (n c : Nat) (l : List Tr.Node) (x : Nat) (w : World) (h : NodesAt w w.heap.size a n l) (hf : Tr.fit l) (hn : n ≤ 3518437208780) (hx : x < 4294967296) :
    Calls Try.prog 28 #[.slice a n c, .int .u32 (x : Int)] w fun e w' => e = .returned (.tuple #[.string (Tr.fo x l), .int .i64 (Tr.fe x l : Int)]) ∧ Below w.heap.size w w' := by
  have H1 := Lib.hid (ref_TrieFault a n c l w h hf hn)
  by_cases hz : Tr.fault l = 0
  · obtain ⟨he0, hfit⟩ := Tr.fault_zero hz
    have hg := Tr.fit_good hf he0
    have hso := Tr.fits_sorted hg hfit
    have hog := Tr.owned_good hg
    have Hms := Lib.hid (Tr.most_sorted (x := x) hso hog (Tr.owned_single l))
    rw [Tr.lastO_owned] at Hms
    have hos := Tr.owned_single l
    have Ho : Hid (Tr.fo x l = Tr.lastO x l) := Lib.hid (if_pos hz)
    have He : Hid (Tr.fe x l = if (Tr.lastO x l).size = 0 then 11 else 0) := Lib.hid (if_pos hz)
    have H2 := Lib.hid (fun (W : World) (hb : Below w.heap.size w W) => ref_owned a n c l W ((h.below hb).up hb.size) hn)
    have hol := Tr.owned_le l
    rw [h.1] at hol
    rw [hz] at H1
    clear hz h hf he0 hfit hg hso
    generalize Tr.owned l = al at *
    have Hog := Lib.hid hog
    have Hos := Lib.hid hos
    clear hog hos
    go_enter Try.func28, Try.ntmps28
    go_wp2_with fail
    refine H1.out.mono ?_
    rintro e w2 ⟨rfl, b2⟩
    clear H1
    go_wp2_with fail
    refine (H2.out w2 b2).mono ?_
    rintro e w3 ⟨v3, rfl, o3, b3⟩
    obtain ⟨a3, c3, rfl, _, at3⟩ := o3.at
    have B3 := b2.trans (b3.mono b2.size)
    have HA := Lib.hid at3
    clear b2 b3 o3 at3 H2
    obtain ⟨m, hm⟩ : ∃ m, m = al.length := ⟨_, rfl⟩
    rw [← hm] at HA hol ⊢
    have Hm := Lib.hid hm
    clear hm
    have hB3 := B3.size
    go_wp2
    go_loopw [7, 8, 19] (fun v7 v8 i wr => ∃ k : Nat, k ≤ m ∧ i = .int .i64 k ∧ (∃ o q, v7 = .string o ∧ v8 = .int .i64 q ∧ Hid ((o, q) = Tr.mostO x (al.take k))) ∧ Below w3.heap.size w3 wr) (fun _ _ i _ => m - (intOf i).toNat)
    case atStart => exact ⟨0, Nat.zero_le _, rfl, ⟨_, _, rfl, rfl, Lib.hid rfl⟩, Below.refl _ _⟩
    case round =>
      obtain ⟨k, hk, rfl, ⟨o, q, rfl, rfl, Hq⟩, hB⟩ := hrel
      obtain ⟨wo, hwo⟩ : ∃ wo, wo = wr := ⟨_, rfl⟩
      subst hwo
      have hsz := hB.size
      by_cases hlt : k < m
      · obtain ⟨b, off, rfl, hbl, hcs⟩ := (HA.out.below hB).2 (by omega)
        have hkl : k < al.length := by rw [← Hm.out]; exact hlt
        obtain ⟨c0, c1, c2, c3'⟩ := hcs k hkl
        have hfx := Hog.out _ (List.getElem_mem hkl)
        have Hsn := Lib.hid (Tr.mostO_snoc x (al.take k) al[k])
        rw [← List.take_succ_eq_append_getElem hkl, ← Hq.out] at Hsn
        have hqb := mostO_bounds x (al.take k) (fun n hn => Hog.out n (List.mem_of_mem_take hn))
        rw [← Hq.out] at hqb
        change -1 ≤ q ∧ q ≤ 32 at hqb
        clear hcs
        generalize al[k] = nd at *
        obtain ⟨na, nb, no, ns⟩ := nd
        have HC := Lib.hid (fun W => ref_NetHas na nb x W hfx.1 hx)
        unfold netV at HC
        have HN : Hid (NodeIn (wo.alloc (.cells #[.int .u32 (na : Int), .int .i64 nb, .string no, .int .i64 ns] 56)) wo.heap.size ⟨na, nb, no, ns⟩) := Lib.hid (heap_alloc_last wo _)
        have hbo : Below w3.heap.size w3 (wo.alloc (.cells #[.int .u32 (na : Int), .int .i64 nb, .string no, .int .i64 ns] 56)) := hB.alloc hsz _
        have Hbo := Lib.hid hbo
        have hszo := hbo.size
        have HCells := Lib.hid (fun (W : World) (hb : Below (wo.alloc (.cells #[.int .u32 (na : Int), .int .i64 nb, .string no, .int .i64 ns] 56)).heap.size (wo.alloc (.cells #[.int .u32 (na : Int), .int .i64 nb, .string no, .int .i64 ns] 56)) W) => (HN.out.low hb HN.out.lt).cells)
        clear hfx hbo
        change Hid (Tr.mostO x (al.take (k + 1)) = if Nt.has na nb x = true ∧ q < nb then (no, nb) else (o, q)) at Hsn
        cases hh : Nt.has na nb x with
        | false =>
          rw [hh, if_neg (fun h => by cases h.1)] at Hsn
          rw [hh] at HC
          clear hh
          go_wp2_with fail
          refine (HC.out _).mono ?_
          rintro e w4 ⟨rfl, b4⟩
          have hB4 := Hbo.out.trans (b4.mono hszo)
          clear b4 c0 c1 c2 c3' HCells
          go_wp2
          go_roundw
          case rel => exact ⟨k + 1, by omega, by go_num, ⟨_, _, rfl, rfl, Lib.hid Hsn.out.symm⟩, hB4⟩
          case measure => simp [intOf]; omega
        | true =>
          rw [hh] at HC Hsn
          clear hh
          by_cases hlt2 : q < nb
          · rw [if_pos ⟨rfl, hlt2⟩] at Hsn
            go_wp2_with fail
            refine (HC.out _).mono ?_
            rintro e w4 ⟨rfl, b4⟩
            obtain ⟨d0, d1, d2, d3⟩ := HCells.out w4 b4
            have hB4 := Hbo.out.trans (b4.mono hszo)
            clear b4 c0 c1 c2 c3' HCells
            go_wp2_with fail
            go_quiet (fail)
            go_wp2
            go_roundw
            case rel => exact ⟨k + 1, by omega, by go_num, ⟨_, _, rfl, rfl, Lib.hid Hsn.out.symm⟩, belowDrewN hB4 _⟩
            case measure => simp [intOf]; omega
          · rw [if_neg (fun h => hlt2 h.2)] at Hsn
            go_wp2_with fail
            refine (HC.out _).mono ?_
            rintro e w4 ⟨rfl, b4⟩
            obtain ⟨d0, d1, d2, d3⟩ := HCells.out w4 b4
            have hB4 := Hbo.out.trans (b4.mono hszo)
            clear b4 c0 c1 c2 c3' HCells
            go_wp2
            go_roundw
            case rel => exact ⟨k + 1, by omega, by go_num, ⟨_, _, rfl, rfl, Lib.hid Hsn.out.symm⟩, hB4⟩
            case measure => simp [intOf]; omega
      · have htk : al.take k = al := List.take_of_length_le (by rw [← Hm.out]; omega)
        rw [htk] at Hq
        have hBw := B3.trans (hB.mono hB3)
        rcases Hms.out with ⟨e1, e2⟩ | ⟨nd, hnd, _, e1, e2⟩
        · have Hfe : Hid (Tr.fo x l = ⟨#[]⟩ ∧ Tr.fe x l = 11) := Lib.hid ⟨by rw [Ho.out, e2]; rfl, by rw [He.out, e2]; rfl⟩
          rw [e1] at Hq
          obtain ⟨rfl, rfl⟩ : o = ByteArray.empty ∧ q = -1 := by have := Hq.out; injection this with h1 h2; exact ⟨h1, h2⟩
          clear Hq e1 e2 HA Hms
          go_wp2
          go_ret2
          exact ⟨by rw [Hfe.out.1, Hfe.out.2]; rfl, hBw⟩
        · have hs1 := (Hos.out nd hnd).1
          have hb0 := (Nt.err_zero (Hog.out nd hnd).2).1
          change 0 ≤ nd.b at hb0
          rw [e1] at Hq
          obtain ⟨rfl, rfl⟩ : o = nd.o ∧ q = nd.b := by have := Hq.out; injection this with h1 h2; exact ⟨h1, h2⟩
          have Hfe : Hid (Tr.fo x l = nd.o ∧ Tr.fe x l = 0) := Lib.hid ⟨by rw [Ho.out, e2], by rw [He.out, e2, if_neg (by omega)]⟩
          have hnl : decide (nd.b < 0) = false := decide_eq_false (by omega)
          clear Hq e1 e2 HA Hms hnd
          generalize nd.o = oo at *
          generalize nd.b = bb at *
          go_wp2
          go_ret2
          exact ⟨by rw [Hfe.out.1, Hfe.out.2]; rfl, hBw⟩
  · have Ho : Hid (Tr.fo x l = ⟨#[]⟩) := Lib.hid (if_neg hz)
    have He : Hid (Tr.fe x l = Tr.fault l) := Lib.hid (if_neg hz)
    have hz' : ((Tr.fault l : Int) != 0) = true := by simp; omega
    clear hz h hf
    generalize Tr.fault l = F at *
    go_enter Try.func28, Try.ntmps28
    go_wp2_with fail
    refine H1.out.mono ?_
    rintro e w2 ⟨rfl, b2⟩
    go_wp2
    go_ret2
    exact ⟨by rw [Ho.out, He.out]; rfl, b2⟩
end Go.Proofs.Ytelanamcpadgdaa
