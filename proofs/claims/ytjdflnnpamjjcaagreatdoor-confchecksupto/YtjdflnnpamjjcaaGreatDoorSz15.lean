/- Where a walk over nodes is. -/
import Derived.Test.YtjdflnnpamjjcaaGreatDoorSz13
import Derived.Test.YtjdflnnpamjjcaaGreatDoorSz14
import Derived.BigQuiet
import Derived.Deep.DeepCutAuto
import Derived.Deep.RegionHeld3
import Derived.Laws.StructEq
import Derived.Test.YtjdflnnpamjjcaaGreatDoorSz12
import Derived.Test.YtjdflnnpamjjcaaGreatDoorSz01
import Derived.Test.YtjdflnnpamjjcaaGreatDoorSz11
namespace Go.Proofs.YtjdflnnpamjjcaaGreatDoor
open Go.RowKit

/-- The top, by net.Join of the first and the last. -/
theorem join_top {l : List Tr.Node} {x z : Tr.Node} (hg : ∀ n ∈ l, Tr.good (Tr.nw n)) (hs : Tr.sorted l) (hx : l.head? = some x) (hz : l.getLast? = some z) (W : World) :
    Calls Tryz.prog 81 #[.agg #[.int .u32 (x.a : Int), .int .i64 x.b], .agg #[.int .u32 (z.a : Int), .int .i64 z.b]] W fun e W' => e = .returned (.tuple #[.agg #[.int .u32 ((Tr.topN l).1 : Int), .int .i64 (Tr.topN l).2], .int .i64 0]) ∧ Below W.heap.size W W' := by
  have gx := hg x (List.mem_of_mem_head? (by rw [hx]; rfl))
  have gz := hg z (List.mem_of_getLast? hz)
  obtain ⟨x0, x1, _⟩ := Nt.err_zero gx.2
  obtain ⟨z0, z1, _⟩ := Nt.err_zero gz.2
  change 0 ≤ x.b at x0
  change x.b ≤ 32 at x1
  change 0 ≤ z.b at z0
  change z.b ≤ 32 at z1
  have h := net_Join x.a x.b z.a z.b W gx.1 gz.1 (by omega) (by omega) (by omega) (by omega)
  rw [show Nt.joinErr x.a x.b z.a z.b = 0 from (Nt.join_good gx.2 gz.2).1] at h
  rw [Tr.top_ends hg hs hx hz]
  exact h

/-- A network's block that was there before a call. -/
theorem new_net {W W2 : World} {G : Nat} {x y : Value} (hb : Below (W.alloc (.cells #[x, y] 47)).drew.heap.size (W.alloc (.cells #[x, y] 47)).drew W2) (hG : W.heap.size = G) :
    W2.cell? ⟨G, 0, none⟩ = some x ∧ W2.cell? ⟨G, 1, none⟩ = some y ∧ W2.frozen? ⟨G, 0, none⟩ = false ∧ W2.frozen? ⟨G, 1, none⟩ = false ∧ Hid (W2.ownsRow 0 47 1 (.slice (some ⟨G, 0, none⟩) 2 2) 2 [x, y]) := by
  subst hG
  have h := own_below2 (own_two (base := 0) (heap_alloc_last W (.cells #[x, y] 47)) (Nat.zero_le _)) ((Below.refl _ _).drew.trans hb)
  obtain ⟨h0, h1⟩ := two_cells h
  exact ⟨h0, h1, h.frozenAt 0, h.frozenAt 1, Lib.hid h⟩
set_option maxRecDepth 20000 in
set_option maxHeartbeats 6400000 in
theorem trie_grow : ∀ (f : Nat) (v : Value) (acc : List Tr.Node) (a : Option Addr) (n c : Nat) (l : List Tr.Node) (w : World) (B : Nat), OwnN w B v acc → B ≤ w.heap.size → NodesAt w B a n l → n ≤ c → (∀ x ∈ l, Tr.good (Tr.nw x)) → Tr.sorted l → (l ≠ [] → 33 ≤ f + (Tr.topN l).2.toNat) → acc.length + 2 * n ≤ 3518437208883 →
    Calls Tryz.prog 57 #[v, .slice a n c] w fun e w' => ∃ v', e = .returned v' ∧ OwnN w' B v' (acc ++ Tr.grown f l) ∧ w.grownBy w' v.ownBlock ∧ (v'.ownBlock = v.ownBlock ∨ ∃ g, v'.ownBlock = some g ∧ w.heap.size ≤ g) := by
  intro f
  induction f with
  | zero =>
    intro v acc a n c l w B hO hB h hc hg hs hd hn
    have hl : l = [] := by
      cases l with
      | nil => rfl
      | cons x r =>
        exfalso
        have h1 := hd (by simp)
        have h2 := Nt.err_zero (Tr.topN_good (l := x :: r) (by simp) hg).2
        omega
    subst hl
    have hz : n = 0 := by have := h.1; simpa using this.symm
    subst hz
    have HO := Lib.hid hO
    clear h hg hd hs hO
    go_enter Tryz.func57, Tryz.ntmps57
    go_wp2
    go_ret
    exact ⟨_, rfl, by rw [show Tr.grown 0 [] = [] from rfl, List.append_nil]; exact HO.out.alloc _, ⟨rfl, rfl, rfl, by simp, fun k hk _ => Below.heap_alloc _ _ _ hk⟩, .inl rfl⟩
  | succ f ih =>
    intro v acc a n c l w B hO hB h hc hg hs hd hn
    cases l with
    | nil =>
      have hz : n = 0 := by have := h.1; simpa using this.symm
      subst hz
      have HO := Lib.hid hO
      clear h hg hd hs hO ih
      go_enter Tryz.func57, Tryz.ntmps57
      go_wp2
      go_ret
      exact ⟨_, rfl, by rw [show Tr.grown (f + 1) [] = [] from rfl, List.append_nil]; exact HO.out.alloc _, ⟨rfl, rfl, rfl, by simp, fun k hk _ => Below.heap_alloc _ _ _ hk⟩, .inl rfl⟩
    | cons x r =>
      obtain ⟨va, vc, rfl, hown⟩ := hO
      have hO : OwnN w B (.slice va acc.length vc) acc := ⟨va, vc, rfl, hown⟩
      have hvlt := hO.lt
      clear hown
      have hl : (x :: r).length = n := h.1
      have hpos : 0 < n := by rw [← hl]; simp
      have hn0 : ((n : Int) == 0) = false := by simp; omega
      obtain ⟨b, off, rfl, hbl, hcs⟩ := h.2 hpos
      have Hh := Lib.hid h
      have Hg := Lib.hid hg
      have Hs := Lib.hid hs
      have Hd := Lib.hid (hd (by simp))
      have Hi := Lib.hid ih
      have HO := Lib.hid hO
      obtain ⟨x0, x1, x2, x3⟩ := hcs 0 (by simp)
      rw [Nat.zero_mul, Nat.add_zero] at x0 x1 x2 x3
      obtain ⟨z0, z1, _, _⟩ := hcs (n - 1) (by omega)
      have hzl : (x :: r).getLast? = some ((x :: r)[n - 1]'(by omega)) := by subst hl; rw [List.getLast?_eq_getElem?, List.getElem?_eq_getElem (by omega)]
      change w.cell? ⟨b, off, none⟩ = some (.int .u32 (x.a : Int)) at x0
      change w.cell? ⟨b, off + 1, none⟩ = some (.int .i64 x.b) at x1
      change w.cell? ⟨b, off + 2, none⟩ = some (.string x.o) at x2
      have HJ := Lib.hid (fun W => join_top Hg.out Hs.out (show (x :: r).head? = some x from rfl) hzl W)
      generalize (x :: r)[n - 1]'(by omega) = Z at *
      clear hzl h hg hs hd ih hO hcs
      obtain ⟨t, ht⟩ : ∃ t, t = Tr.topN (x :: r) := ⟨_, rfl⟩
      rw [← ht] at HJ Hd
      have Ht := Lib.hid ht
      clear ht
      have i1 : ((n - 1 : Nat) : Int) < (n : Int) := by omega
      have i2 : IntKind.i64.wrap ((n : Int) - 1) = ((n - 1 : Nat) : Int) := by rw [IntWalk.i64_in _ (by omega)]; omega
      have i3 : (0 : Int) ≤ ((n - 1 : Nat) : Int) := by omega
      have i4 : (0 : Int) < (n : Int) := by omega
      obtain ⟨w1, hw1⟩ : ∃ w1, w1 = w.alloc (.cells #[.slice (some ⟨b, off, none⟩) n c] 33) := ⟨_, rfl⟩
      have hz1 : w.heap.size < w1.heap.size := by rw [hw1]; simp
      have hb1 : Below w.heap.size w w1 := by rw [hw1]; exact (Below.refl _ _).alloc (Nat.le_refl _) _
      have hbox : w1.heap[w.heap.size]? = some (.cells #[.slice (some ⟨b, off, none⟩) n c] 33 (0, 0)) := by rw [hw1]; exact heap_alloc_last w _
      have Hbox := Lib.hid hbox
      clear hbox
      have Hv := Lib.hid hvlt
      clear hvlt
      have c3 : w1.cell? ⟨w.heap.size, 0, none⟩ = some (.slice (some ⟨b, off, none⟩) n c) := by rw [hw1]; exact (cell_of_row _ _ 0 _ _ _ (heap_alloc_last w _)).trans rfl
      have y0 : w1.cell? ⟨b, off, none⟩ = some (.int .u32 (x.a : Int)) := by rw [hb1.cell (p := ⟨b, off, none⟩) (by show b < w.heap.size; omega)]; exact x0
      have y1 : w1.cell? ⟨b, off + 1, none⟩ = some (.int .i64 x.b) := by rw [hb1.cell (p := ⟨b, off + 1, none⟩) (by show b < w.heap.size; omega)]; exact x1
      have y2 : w1.cell? ⟨b, off + (n - 1) * 4, none⟩ = some (.int .u32 (Z.a : Int)) := by rw [hb1.cell (p := ⟨b, off + (n - 1) * 4, none⟩) (by show b < w.heap.size; omega)]; exact z0
      have y3 : w1.cell? ⟨b, off + (n - 1) * 4 + 1, none⟩ = some (.int .i64 Z.b) := by rw [hb1.cell (p := ⟨b, off + (n - 1) * 4 + 1, none⟩) (by show b < w.heap.size; omega)]; exact z1
      clear x0 x1 z0 z1
      go_enter Tryz.func57, Tryz.ntmps57
      have HS : Hid (∀ W, Below w1.heap.size w1 W → (W.cell? ⟨w.heap.size, 0, none⟩ = some (.slice (some ⟨b, off, none⟩) n c) ∧ W.cell? ⟨b, off, none⟩ = some (.int .u32 (x.a : Int)) ∧ W.cell? ⟨b, off + 1, none⟩ = some (.int .i64 x.b) ∧ W.cell? ⟨b, off + (n - 1) * 4, none⟩ = some (.int .u32 (Z.a : Int)) ∧ W.cell? ⟨b, off + (n - 1) * 4 + 1, none⟩ = some (.int .i64 Z.b) ∧ Below w1.heap.size w1 W)) := Lib.hid fun W hW => by
        refine ⟨?_, ?_, ?_, ?_, ?_, hW⟩
        · rw [hW.cell (p := ⟨w.heap.size, 0, none⟩) (by show w.heap.size < w1.heap.size; omega)]; exact c3
        · rw [hW.cell (p := ⟨b, off, none⟩) (by show b < w1.heap.size; omega)]; exact y0
        · rw [hW.cell (p := ⟨b, off + 1, none⟩) (by show b < w1.heap.size; omega)]; exact y1
        · rw [hW.cell (p := ⟨b, off + (n - 1) * 4, none⟩) (by show b < w1.heap.size; omega)]; exact y2
        · rw [hW.cell (p := ⟨b, off + (n - 1) * 4 + 1, none⟩) (by show b < w1.heap.size; omega)]; exact y3
      have HA : Hid (∀ W o, (W.cell? ⟨w.heap.size, 0, none⟩ = some (.slice (some ⟨b, off, none⟩) n c) ∧ W.cell? ⟨b, off, none⟩ = some (.int .u32 (x.a : Int)) ∧ W.cell? ⟨b, off + 1, none⟩ = some (.int .i64 x.b) ∧ W.cell? ⟨b, off + (n - 1) * 4, none⟩ = some (.int .u32 (Z.a : Int)) ∧ W.cell? ⟨b, off + (n - 1) * 4 + 1, none⟩ = some (.int .i64 Z.b) ∧ Below w1.heap.size w1 W) → ((W.alloc o).cell? ⟨w.heap.size, 0, none⟩ = some (.slice (some ⟨b, off, none⟩) n c) ∧ (W.alloc o).cell? ⟨b, off, none⟩ = some (.int .u32 (x.a : Int)) ∧ (W.alloc o).cell? ⟨b, off + 1, none⟩ = some (.int .i64 x.b) ∧ (W.alloc o).cell? ⟨b, off + (n - 1) * 4, none⟩ = some (.int .u32 (Z.a : Int)) ∧ (W.alloc o).cell? ⟨b, off + (n - 1) * 4 + 1, none⟩ = some (.int .i64 Z.b) ∧ Below w1.heap.size w1 (W.alloc o))) := Lib.hid fun W o hW => HS.out _ (hW.2.2.2.2.2.alloc hW.2.2.2.2.2.size o)
      have HC : Hid (∀ W, (W.cell? ⟨w.heap.size, 0, none⟩ = some (.slice (some ⟨b, off, none⟩) n c) ∧ W.cell? ⟨b, off, none⟩ = some (.int .u32 (x.a : Int)) ∧ W.cell? ⟨b, off + 1, none⟩ = some (.int .i64 x.b) ∧ W.cell? ⟨b, off + (n - 1) * 4, none⟩ = some (.int .u32 (Z.a : Int)) ∧ W.cell? ⟨b, off + (n - 1) * 4 + 1, none⟩ = some (.int .i64 Z.b) ∧ Below w1.heap.size w1 W) → Calls Tryz.prog 81 #[.agg #[.int .u32 (x.a : Int), .int .i64 x.b], .agg #[.int .u32 (Z.a : Int), .int .i64 Z.b]] W fun e W' => e = .returned (.tuple #[.agg #[.int .u32 (t.1 : Int), .int .i64 t.2], .int .i64 0]) ∧ (W'.cell? ⟨w.heap.size, 0, none⟩ = some (.slice (some ⟨b, off, none⟩) n c) ∧ W'.cell? ⟨b, off, none⟩ = some (.int .u32 (x.a : Int)) ∧ W'.cell? ⟨b, off + 1, none⟩ = some (.int .i64 x.b) ∧ W'.cell? ⟨b, off + (n - 1) * 4, none⟩ = some (.int .u32 (Z.a : Int)) ∧ W'.cell? ⟨b, off + (n - 1) * 4 + 1, none⟩ = some (.int .i64 Z.b) ∧ Below w1.heap.size w1 W') ∧ Below W.heap.size W W') := Lib.hid fun W hW => (HJ.out W).mono fun e W' ⟨he, hb⟩ => ⟨he, HS.out W' (hW.2.2.2.2.2.trans (hb.mono hW.2.2.2.2.2.size)), hb⟩
      have HSC : Hid (∀ W p q, (W.cell? ⟨w.heap.size, 0, none⟩ = some (.slice (some ⟨b, off, none⟩) n c) ∧ W.cell? ⟨b, off, none⟩ = some (.int .u32 (x.a : Int)) ∧ W.cell? ⟨b, off + 1, none⟩ = some (.int .i64 x.b) ∧ W.cell? ⟨b, off + (n - 1) * 4, none⟩ = some (.int .u32 (Z.a : Int)) ∧ W.cell? ⟨b, off + (n - 1) * 4 + 1, none⟩ = some (.int .i64 Z.b) ∧ Below w1.heap.size w1 W) → (((W.setCell ⟨w1.heap.size, 0, none⟩ p).setCell ⟨w1.heap.size, 1, none⟩ q).cell? ⟨w.heap.size, 0, none⟩ = some (.slice (some ⟨b, off, none⟩) n c) ∧ ((W.setCell ⟨w1.heap.size, 0, none⟩ p).setCell ⟨w1.heap.size, 1, none⟩ q).cell? ⟨b, off, none⟩ = some (.int .u32 (x.a : Int)) ∧ ((W.setCell ⟨w1.heap.size, 0, none⟩ p).setCell ⟨w1.heap.size, 1, none⟩ q).cell? ⟨b, off + 1, none⟩ = some (.int .i64 x.b) ∧ ((W.setCell ⟨w1.heap.size, 0, none⟩ p).setCell ⟨w1.heap.size, 1, none⟩ q).cell? ⟨b, off + (n - 1) * 4, none⟩ = some (.int .u32 (Z.a : Int)) ∧ ((W.setCell ⟨w1.heap.size, 0, none⟩ p).setCell ⟨w1.heap.size, 1, none⟩ q).cell? ⟨b, off + (n - 1) * 4 + 1, none⟩ = some (.int .i64 Z.b) ∧ Below w1.heap.size w1 ((W.setCell ⟨w1.heap.size, 0, none⟩ p).setCell ⟨w1.heap.size, 1, none⟩ q))) := Lib.hid fun W p q hW => HS.out _ ((hW.2.2.2.2.2.setCell (p := ⟨w1.heap.size, 0, none⟩) (Nat.le_refl _) p).setCell (p := ⟨w1.heap.size, 1, none⟩) (Nat.le_refl _) q)
      go_upto_region 3 with fail
      rw [← hw1]
      clear hw1
      go_cut [5, 6] (fun v5 v6 wx => ∃ g5, v5 = .pointer (some ⟨g5, 0, none⟩) ∧ v6 = .int .i64 0 ∧ Hid (w1.heap.size ≤ g5 ∧ NetIn wx g5 t.1 t.2 ∧ Below w1.heap.size w1 wx))
      case first =>
        go_region_held3 (fun W => W.cell? ⟨w.heap.size, 0, none⟩ = some (.slice (some ⟨b, off, none⟩) n c) ∧ W.cell? ⟨b, off, none⟩ = some (.int .u32 (x.a : Int)) ∧ W.cell? ⟨b, off + 1, none⟩ = some (.int .i64 x.b) ∧ W.cell? ⟨b, off + (n - 1) * 4, none⟩ = some (.int .u32 (Z.a : Int)) ∧ W.cell? ⟨b, off + (n - 1) * 4 + 1, none⟩ = some (.int .i64 Z.b) ∧ Below w1.heap.size w1 W) (first | assumption | (exact HSC.out _ _ _ (by assumption)) | (exact ⟨c3, y0, y1, y2, y3, (Below.refl _ _).drew⟩) | (exact HA.out _ _ (by assumption)) | (exact HA.out _ _ ⟨c3, y0, y1, y2, y3, (Below.refl _ _).drew⟩))
          (first
            | (go_at_call 81; refine (HC.out _ (by first | assumption | exact ⟨c3, y0, y1, y2, y3, (Below.refl _ _).drew⟩ | exact HA.out _ _ ⟨c3, y0, y1, y2, y3, (Below.refl _ _).drew⟩)).mono ?_; rintro e w2 ⟨rfl, hS2, hb2⟩; have hnn := new_net (G := w1.heap.size) hb2 rfl; obtain ⟨k0, k1, f0, f1, hk⟩ := hnn)
            | (go_at_call 81; refine (HC.out _ (by first | assumption | exact ⟨c3, y0, y1, y2, y3, (Below.refl _ _).drew⟩ | exact HA.out _ _ ⟨c3, y0, y1, y2, y3, (Below.refl _ _).drew⟩)).mono ?_; rintro e w2 ⟨rfl, hS2, hb2⟩))
        · go_wp2_with fail
          go_meet
          case rel =>
            refine ⟨_, rfl, rfl, Lib.hid ⟨hS2.2.2.2.2.2.size, heap_alloc_last _ _, hS2.2.2.2.2.2.alloc hS2.2.2.2.2.2.size _⟩⟩
        · go_wp2_with fail
          go_meet
          case rel =>
            refine ⟨_, rfl, rfl, Lib.hid ⟨Nat.le_refl _, two_block (two_set hk.out _ _), (hS2.2.2.2.2.2.setCell (p := ⟨w1.heap.size, 0, none⟩) (Nat.le_refl _) _).setCell (p := ⟨w1.heap.size, 1, none⟩) (Nat.le_refl _) _⟩⟩
      case rest =>
        obtain ⟨g5, rfl, rfl, HR⟩ := hcut
        have hbw : Below w.heap.size w wc := hb1.trans (HR.out.2.2.mono (by omega))
        have hG0 : GrowSo w wc B (.slice va acc.length vc) (.slice va acc.length vc) acc g5 (.slice (some ⟨b, off, none⟩) n c) t := by
          obtain ⟨r1, r2, r3⟩ := HR.out
          have h5 := r2.lt
          refine ⟨HO.out.below hbw, .inl rfl, fun e => ?_, fun e => ?_, (r3.block _ (by omega)).trans Hbox.out, r2, ⟨hbw.os, hbw.tape, hbw.output, hbw.size, fun k hk _ => hbw.block k hk⟩, h5, ?_, ?_⟩
          · have := (Hv.out _ e).2; omega
          · have := (Hv.out _ e).2; omega
          · have := r3.size; omega
          · omega
        have hwc := hbw.size
        have HG0 := Lib.hid (hG0.below ((Below.refl _ _).alloc (Nat.le_refl _) (.cells #[.int .u32 (t.1 : Int), .int .i64 t.2, .string ⟨#[]⟩, .int .i64 0] 53)))
        have Hnw := Lib.hid (nodesAt_new wc ⟨t.1, t.2, ⟨#[]⟩, 0⟩)
        obtain ⟨t0, t1⟩ := two_cells HR.out.2.1.own
        clear hG0 hbw HJ HS HA HC HSC y0 y1 y2 y3 c3 HR
        go_wp2_with (at_builtin; refine wpL_append_nodes _ rfl _ _ rfl B _ acc rfl HG0.out.own _ 1 _ [⟨t.1, t.2, ⟨#[]⟩, 0⟩] rfl (fun h => by cases h) Hnw.out (by omega) (by simp; omega) ?_)
        intro v1 w3 hO1 hgr hat
        have hG1 := HG0.out.step hO1 hgr (by rcases hat.out with h | h; exact .inl h; exact .inr ⟨_, h, by simp⟩)
        clear hgr hat HG0 t0 t1 Hnw
        obtain ⟨g, c1, rfl, hc1, hBg, hglt, _⟩ := hO1.row (by simp)
        have hlen : (acc ++ [(⟨t.1, t.2, ⟨#[]⟩, 0⟩ : Tr.Node)]).length = acc.length + 1 := by simp
        rw [hlen] at hG1 hc1 ⊢
        clear hO1 hlen
        have hG1' := Lib.hid hG1
        obtain ⟨k3, _⟩ := hG1.cell
        obtain ⟨t0, t1⟩ := two_cells hG1.top.own
        have hN3 := hG1.nodes hB (fun g' hg' => (Hv.out g' hg').1) Hh.out
        obtain ⟨b', off', he', _, hcs⟩ := hN3.2 hpos
        injection he' with he'
        injection he' with he1 he2
        subst he1 he2
        obtain ⟨y0, y1, y2, y3⟩ := hcs 0 (by simp)
        rw [Nat.zero_mul, Nat.add_zero] at y0 y1 y2 y3
        change w3.cell? ⟨b, off, none⟩ = some (.int .u32 (x.a : Int)) at y0
        change w3.cell? ⟨b, off + 1, none⟩ = some (.int .i64 x.b) at y1
        change w3.cell? ⟨b, off + 2, none⟩ = some (.string x.o) at y2
        clear hcs hN3 y3
        obtain ⟨ta, tb⟩ := t
        have hRF := Tr.rest_facts Hg.out Hs.out
        rw [← Ht.out] at hRF
        have hrest : Tr.rest (x :: r) = if Tr.nw x = (ta, tb) then r else x :: r := by rw [Ht.out]; rfl
        rw [hrest] at hRF
        have HRF := Lib.hid hRF
        clear hRF hrest
        go_upto_region 6 with fail
        go_cut [40] (fun v40 wx => v40 = .bool (decide (Tr.nw x = (ta, tb))) ∧ Below w3.heap.size w3 wx)
        case first =>
          rcases (show (x.a = ta ∧ x.b = tb) ∨ ((x.a : Int) == (ta : Int)) = false ∨ (x.a = ta ∧ (x.b == tb) = false) by
            by_cases h1 : x.a = ta
            · by_cases h2 : x.b = tb
              · exact .inl ⟨h1, h2⟩
              · exact .inr (.inr ⟨h1, beq_eq_false_iff_ne.2 h2⟩)
            · exact .inr (.inl (beq_eq_false_iff_ne.2 (by omega)))) with ⟨rfl, rfl⟩ | h0 | ⟨rfl, h0⟩
          · go_quiet (fail)
            go_wp2
            go_meet
            case rel => exact ⟨by rw [decide_eq_true (show Tr.nw x = (x.a, x.b) from rfl)], belowDrewN (Below.refl _ _) _⟩
          · have hne : Hid (¬ Tr.nw x = (ta, tb)) := Lib.hid fun h => by injection h with h1 h2; change x.a = ta at h1; rw [h1] at h0; simp at h0
            go_quiet (fail)
            go_wp2
            go_meet
            case rel => exact ⟨by rw [decide_eq_false hne.out], belowDrewN (Below.refl _ _) _⟩
          · have hne : Hid (¬ Tr.nw x = (x.a, tb)) := Lib.hid fun h => by injection h with h1 h2; change x.b = tb at h2; rw [h2] at h0; simp at h0
            go_quiet (fail)
            go_wp2
            go_meet
            case rel => exact ⟨by rw [decide_eq_false hne.out], belowDrewN (Below.refl _ _) _⟩
        case rest =>
          obtain ⟨rfl, hbc⟩ := hcut
          obtain ⟨w4, hw4⟩ : ∃ w4, w4 = wc := ⟨_, rfl⟩
          subst hw4
          have hG4 := hG1'.out.below hbc
          have HG4 := Lib.hid hG4
          have hz4 := hbc.size
          clear hG1 hG1' k3 t0 t1 y0 y1 y2 hbc
          go_upto_if 40 with fail
          go_cut [] (fun wx => ∃ (q : List Tr.Node) (nd : Tr.Node) (o2 n2 c2 : Nat), Hid (GrowSo w wx B (.slice va acc.length vc) (.slice (some ⟨g, 0, none⟩) (acc.length + 1) c1) (acc ++ [nd]) g5 (.slice (some ⟨b, o2, none⟩) n2 c2) (ta, tb)) ∧ Hid (RestSo w B b o2 n2 c2 q nd (ta, tb) (x :: r)))
          case first =>
            by_cases hq : Tr.nw x = (ta, tb)
            · rw [if_pos hq, if_pos hq] at HRF
              obtain ⟨rfl, rfl⟩ : x.a = ta ∧ x.b = tb := by injection hq with h1 h2; exact ⟨h1, h2⟩
              have hd0 : decide (Tr.nw x = (x.a, x.b)) = true := decide_eq_true hq
              obtain ⟨k3, kf⟩ := hG4.cell
              have hN4 := hG4.nodes hB (fun g' hg' => (Hv.out g' hg').1) Hh.out
              obtain ⟨b', off', he', _, hcs⟩ := hN4.2 hpos
              injection he' with he'
              injection he' with he1 he2
              subst he1 he2
              obtain ⟨_, _, y2, _⟩ := hcs 0 (by simp)
              rw [Nat.zero_mul, Nat.add_zero] at y2
              change w4.cell? ⟨b, off + 2, none⟩ = some (.string x.o) at y2
              obtain ⟨va4, vc4, hv4, hrow4⟩ := hG4.own
              injection hv4 with e1 e2 e3
              subst e1 e3
              obtain ⟨m0, _, m2, _⟩ := row_node (acc := acc) (more := []) hrow4
              obtain ⟨hp1, hp2⟩ := OwnN.put2 (acc := acc) (more := []) hrow4 x.o
              have hO5 : OwnN (w4.setCell ⟨g, acc.length * 4 + 2, none⟩ (.string x.o)) B (.slice (some ⟨g, 0, none⟩) (acc.length + 1) c1) (acc ++ [⟨x.a, x.b, x.o, 0⟩]) := ⟨_, c1, by simp, hp1⟩
              have HG5 := Lib.hid (hG4.step hO5 hp2 (.inl rfl))
              have k3' := HG5.out.cell.1
              have kf' := HG5.out.cell.2
              clear hq hcs hN4 hrow4 hp1 hp2 hO5 hG4 e2
              have i5 : (acc.length : Int) < (acc.length : Int) + 1 := by omega
              have hrl : r.length = n - 1 := by rw [← hl]; rfl
              obtain ⟨rw1, rw2, rw3, rw4, rw5, rw6, rw7⟩ := HRF.out
              have hnd : (⟨x.a, x.b, x.o, 0⟩ : Tr.Node) = ⟨x.a, x.b, Tr.ownerOf (x.a, x.b) (x :: r), 0⟩ := by rw [rw3]
              have HRS := Lib.hid (fun (o2 n2 c2 : Nat) (h1 : NodesAt w B (some ⟨b, o2, none⟩) n2 r) (h2 : n2 ≤ c2) (h3 : n2 = n - 1) => (⟨h1, h2, rw1, rw2, hnd, rw4, rw5, by rw [hl]; omega, rw7⟩ : RestSo w B b o2 n2 c2 r ⟨x.a, x.b, x.o, 0⟩ (x.a, x.b) (x :: r)))
              have Hdr := Lib.hid (Hh.out.drop (k := 1) hpos)
              clear rw1 rw2 rw3 rw4 rw5 rw6 rw7 hnd
              by_cases hcc : c = 1
              · subst hcc
                go_wp2_with fail
                go_meet
                case rel =>
                  refine ⟨r, _, off, 0, 0, Lib.hid (HG5.out.boxed _), Lib.hid (HRS.out off 0 0 ⟨by omega, fun h => by omega⟩ (by omega) (by omega))⟩
              · have hcd : ¬ c - 1 = 0 := by omega
                go_wp2_with fail
                all_goals
                  first
                  | (exfalso; omega)
                  | (go_meet
                     case rel =>
                       refine ⟨r, _, off + 4, n - 1, c - 1, Lib.hid (HG5.out.boxed _), Lib.hid (HRS.out (off + 4) (n - 1) (c - 1) ?_ (by omega) rfl)⟩
                       exact Hdr.out)
            · rw [if_neg hq, if_neg hq] at HRF
              have hd0 : decide (Tr.nw x = (ta, tb)) = false := decide_eq_false hq
              obtain ⟨rw1, rw2, rw3, rw4, rw5, rw6, rw7⟩ := HRF.out
              have HRS : Hid (RestSo w B b off n c (x :: r) ⟨ta, tb, ⟨#[]⟩, 0⟩ (ta, tb) (x :: r)) := Lib.hid ⟨Hh.out, hc, rw1, rw2, by rw [rw3]; rfl, rw4, rw5, by rw [hl]; exact Nat.le_refl _, rw7⟩
              clear rw1 rw2 rw3 rw4 rw5 rw6 rw7 hG4
              go_wp2_with fail
              go_meet
              case rel => exact ⟨x :: r, _, off, n, c, HG4, HRS⟩
          case rest =>
            obtain ⟨q, nd, o2, n2, c2, HG5, HR⟩ := hcut
            obtain ⟨w5, hw5⟩ : ∃ w5, w5 = wc := ⟨_, rfl⟩
            subst hw5
            clear HG4 hG4 HRF
            have hle2 := HR.out.le
            rw [hl] at hle2
            have hcap := HR.out.cap
            obtain ⟨k3, _⟩ := HG5.out.cell
            have hql := HR.out.nodes.1
            have hsz5 := HG5.out.grown.size
            have hN5 := HG5.out.nodes hB (fun g' hg' => (Hv.out g' hg').1) HR.out.nodes
            have hSe : Sees w5 w5.heap.size g5 w.heap.size (ta, tb) (some ⟨b, o2, none⟩) n2 c2 q := ⟨HG5.out.top, k3, hN5.up (by omega), HG5.out.lt5, HG5.out.lt3, Nat.le_refl _⟩
            have htb : 0 < n2 → tb ≤ 31 := fun h0 => by
              have hm := List.getElem_mem (show 0 < q.length by omega)
              have := Tr.longer (HR.out.within.holds _ hm) (HR.out.within.ne _ hm)
              have h1 : tb < _ := this.1
              omega
            have HSr := Lib.hid (trie_Search g5 w.heap.size (ta, tb) (some ⟨b, o2, none⟩) n2 c2 q w5 hSe (by omega) HR.out.within HR.out.sorted htb)
            clear hSe htb hN5
            go_wp2_with fail
            refine HSr.out.mono ?_
            rintro e w6 ⟨⟨k, rfl, hOn⟩, hb6⟩
            have HOn := Lib.hid hOn
            have HG6 := Lib.hid (HG5.out.below hb6)
            have hk := hOn.1
            rw [hql] at hk
            have hkL : Tr.leftOf (ta, tb) (x :: r) = q.take k := by rw [HR.out.left]; exact hOn.left HR.out.within.ne
            have hkR : Tr.rightOf (ta, tb) (x :: r) = q.drop k := by rw [HR.out.right]; exact hOn.right HR.out.within.ne
            have HkL := Lib.hid hkL
            have HkR := Lib.hid hkR
            obtain ⟨k3', _⟩ := HG6.out.cell
            have hlt := Tr.halves_lt Hg.out (by simp)
            have hgood := Hg.out
            have htop := Ht.out
            have htb0 : 0 ≤ tb := HR.out.within.t0
            have hdd := Hd.out
            change 33 ≤ f + 1 + tb.toNat at hdd
            have dL : q.take k ≠ [] → 33 ≤ f + (Tr.topN (q.take k)).2.toNat := by
              intro hne
              have h2 := Tr.left_top hgood (by rw [← htop, hkL]; exact hne)
              rw [← htop, hkL] at h2
              change tb + 1 ≤ _ at h2
              omega
            have dR : q.drop k ≠ [] → 33 ≤ f + (Tr.topN (q.drop k)).2.toNat := by
              intro hne
              have h2 := Tr.right_top hgood (by rw [← htop, hkR]; exact hne)
              rw [← htop, hkR] at h2
              change tb + 1 ≤ _ at h2
              omega
            have gL : ∀ m ∈ q.take k, Tr.good (Tr.nw m) := fun m hm => hgood m (HR.out.mem m (List.mem_of_mem_take hm))
            have gR : ∀ m ∈ q.drop k, Tr.good (Tr.nw m) := fun m hm => hgood m (HR.out.mem m (List.mem_of_mem_drop hm))
            rw [← htop, hkL, hkR, hl, List.length_take, List.length_drop, hql] at hlt
            have hs1 : (Tr.grown f (q.take k)).length + (acc ++ [nd]).length + 2 * (n2 - k) ≤ 3518437208883 := by
              rw [List.length_append]
              simp only [List.length_cons, List.length_nil]
              by_cases h0 : q.take k = []
              · rw [h0, show (Tr.grown f ([] : List Tr.Node)).length = 0 by cases f <;> rfl]; omega
              · have := Tr.grown_small f (q.take k) gL h0
                rw [List.length_take, hql] at this
                omega
            have hs0 : (acc ++ [nd]).length + 2 * k ≤ 3518437208883 := by
              rw [List.length_append]
              simp only [List.length_cons, List.length_nil]
              omega
            have hBw : ∀ W : World, w.heap.size ≤ W.heap.size → B ≤ W.heap.size := fun W h => Nat.le_trans hB h
            have K1 := Lib.hid (Hi.out (.slice (some ⟨g, 0, none⟩) (acc.length + 1) c1) (acc ++ [nd]) (some ⟨b, o2, none⟩) k c2 (q.take k) w6 B HG6.out.own (hBw _ HG6.out.grown.size) (HG6.out.nodes hB (fun g' hg' => (Hv.out g' hg').1) (HR.out.nodes.take hk)) (by omega) gL (Tr.sorted_take HR.out.sorted k) dL hs0)
            have K2 := Lib.hid (fun (W : World) (v7 : Value) (o3 n3 c3 : Nat) (hG : GrowSo w W B (.slice va acc.length vc) v7 (acc ++ [nd] ++ Tr.grown f (q.take k)) g5 (.slice (some ⟨b, o2, none⟩) n2 c2) (ta, tb)) (hn3 : NodesAt w B (some ⟨b, o3, none⟩) n3 (q.drop k)) (h3 : n3 ≤ c3) (h4 : n3 = n2 - k) => Hi.out v7 (acc ++ [nd] ++ Tr.grown f (q.take k)) (some ⟨b, o3, none⟩) n3 c3 (q.drop k) W B hG.own (hBw _ hG.grown.size) (hG.nodes hB (fun g' hg' => (Hv.out g' hg').1) hn3) h3 gR (Tr.sorted_drop HR.out.sorted k) dR (by rw [List.length_append]; omega))
            have HG : Hid (Tr.grown (f + 1) (x :: r) = ⟨ta, tb, Tr.ownerOf (ta, tb) (x :: r), ((1 + (Tr.grown f (q.take k) ++ Tr.grown f (q.drop k)).length : Nat) : Int)⟩ :: (Tr.grown f (q.take k) ++ Tr.grown f (q.drop k))) := Lib.hid (by
              have h : Tr.grown (f + 1) (x :: r) = ⟨(Tr.topN (x :: r)).1, (Tr.topN (x :: r)).2, Tr.ownerOf (Tr.topN (x :: r)) (x :: r), ((1 + (Tr.grown f (Tr.leftOf (Tr.topN (x :: r)) (x :: r)) ++ Tr.grown f (Tr.rightOf (Tr.topN (x :: r)) (x :: r))).length : Nat) : Int)⟩ :: (Tr.grown f (Tr.leftOf (Tr.topN (x :: r)) (x :: r)) ++ Tr.grown f (Tr.rightOf (Tr.topN (x :: r)) (x :: r))) := rfl
              rw [h, ← htop, hkL, hkR])
            have Hdr := Lib.hid (HR.out.nodes.drop hk)
            have hgs := Tr.grown_two f (q.drop k) gR
            rw [List.length_drop, hql] at hgs
            have Hnd := Lib.hid HR.out.nd
            clear k3 HSr hOn hb6 hlt hgood htop hdd dL dR gL gR hs0 HOn hkL hkR HkL HkR Hi Hd hBw HG5
            generalize Tr.grown f (q.take k) = GL at *
            generalize Tr.grown f (q.drop k) = GR at *
            have hkn : (k : Int) ≤ (n2 : Int) := by omega
            have hkc : (k : Int) ≤ (c2 : Int) := by omega
            have hnc : (n2 : Int) ≤ (c2 : Int) := by omega
            go_wp2_with fail
            refine K1.out.mono ?_
            rintro e w7 ⟨v7, rfl, o7, gr7, at7⟩
            have HG7 := Lib.hid (HG6.out.step o7 gr7 at7)
            obtain ⟨k3'', _⟩ := HG7.out.cell
            clear o7 gr7 at7 k3' K1
            have HF := Lib.hid (fun (W : World) (v8 : Value) (h : GrowSo w W B (.slice va acc.length vc) v8 (acc ++ [nd] ++ GL ++ GR) g5 (.slice (some ⟨b, o2, none⟩) n2 c2) (ta, tb)) => grow_last h)
            have hdl : (q.drop k).length = n2 - k := by rw [List.length_drop, hql]
            have Hdl := Lib.hid hdl
            clear hdl
            have hM : (acc ++ nd :: (GL ++ GR)).length = acc.length + 1 + (GL ++ GR).length := by simp; omega
            have hMb : (GL ++ GR).length + acc.length + 1 ≤ 3518437208883 := by rw [List.length_append]; rw [List.length_append] at hs1; simp only [List.length_cons, List.length_nil] at hs1; omega
            have HM := Lib.hid hM
            clear hM
            go_wp2_with fail
            all_goals
              refine (K2.out w7 v7 _ _ _ HG7.out (by first | exact Hdr.out | exact ⟨by have := Hdl.out; omega, fun h => by omega⟩) (by omega) (by omega)).mono ?_
              rintro e w8 ⟨v8, rfl, o8, gr8, at8⟩
              obtain ⟨g8, c8, rfl, hgl8, m3, m4, ho8, hgr8, hrw8⟩ := HF.out w8 v8 (HG7.out.step o8 gr8 at8)
              rw [HM.out] at ho8 hgl8 ⊢
              clear o8 gr8 at8
              have hidx : (acc.length : Int) < ((acc.length + 1 + (GL ++ GR).length : Nat) : Int) := by omega
              go_wp2_with fail
              go_ret
              refine ⟨_, rfl, ?_, hgr8 _, hrw8⟩
              have ho := ho8 ((1 + (GL ++ GR).length : Nat) : Int)
              rw [HG.out]
              rw [Hnd.out] at ho
              refine Eq.mp ?_ ho
              congr 2
              · congr 1
                rw [List.length_append]
                omega
              · rw [List.length_append]
/-- The contract of trie.build. -/
theorem trie_build (a : Option Addr) (n c : Nat) (l : List Tr.Node) (w : World) (h : NodesAt w w.heap.size a n l) (hc : n ≤ c) (hg : ∀ x ∈ l, Tr.good (Tr.nw x)) (hs : Tr.sorted l) (hn : 2 * n ≤ 3518437208883) :
    Calls Tryz.prog 39 #[.slice a n c] w fun e w' => ∃ v', e = .returned v' ∧ OwnN w' w.heap.size v' (Tr.trie l) ∧ Below w.heap.size w w' := by
  have H := Lib.hid (trie_grow 33 (.slice none 0 0) [] a n c l w w.heap.size (OwnN.nil _ _) (Nat.le_refl _) h hc hg hs Tr.deep (by simpa using hn))
  clear h hg hs
  go_enter Tryz.func39, Tryz.ntmps39
  go_wp2_with fail
  refine H.out.mono ?_
  rintro e w2 ⟨v2, rfl, o2, g2, _⟩
  have b2 : Below w.heap.size w w2 := ⟨g2.os, g2.tape, g2.output, g2.size, fun k hk => g2.block k hk (by simp [Value.ownBlock])⟩
  have O2 := Lib.hid o2
  clear g2 o2 H
  go_wp2
  go_ret
  exact ⟨_, rfl, O2.out, b2⟩
end Go.Proofs.YtjdflnnpamjjcaaGreatDoor

namespace Go.Proofs.YtjdflnnpamjjcaaGreatDoor
open Go.RowKit

theorem Tr.sorted_snoc {l : List Tr.Node} {j : Nat} (hj : j + 1 < l.length) (hs : Tr.sorted (l.take (j + 1))) (h : Tr.lt (Tr.nw (l[j]'(by omega))) (Tr.nw l[j + 1])) : Tr.sorted (l.take (j + 2)) := by
  rw [List.take_succ_eq_append_getElem hj]
  refine List.pairwise_append.2 ⟨hs, List.pairwise_singleton _ _, fun n hn m hm => ?_⟩
  obtain rfl : m = l[j + 1] := by simpa using hm
  obtain ⟨i, hi, rfl⟩ := List.mem_iff_getElem.1 hn
  rw [List.length_take] at hi
  rw [List.getElem_take]
  rcases Nat.eq_or_lt_of_le (show i ≤ j by omega) with rfl | hlt
  · exact h
  · have h1 := List.pairwise_iff_getElem.1 hs i j (by rw [List.length_take]; omega) (by rw [List.length_take]; omega) hlt
    rw [List.getElem_take, List.getElem_take] at h1
    exact Tr.lt_trans h1 h
theorem good_bits {a : Nat} {b : Int} (h : Nt.err a b = 0) : -9223372036854775808 ≤ b ∧ b ≤ 9223372036854775807 := by
  obtain ⟨h0, h1, _⟩ := Nt.err_zero h
  omega

set_option maxRecDepth 20000 in
set_option maxHeartbeats 3200000 in
theorem trie_inOrder (a : Option Addr) (n c : Nat) (l : List Tr.Node) (w : World) (h : NodesAt w w.heap.size a n l) (hg : ∀ x ∈ l, Tr.good (Tr.nw x)) (hn : n ≤ 3518437208883) :
    Calls Tryz.prog 79 #[.slice a n c] w fun e w' => ∃ r : Bool, e = .returned (.bool r) ∧ (r = true ↔ Tr.sorted l) ∧ Below w.heap.size w w' := by
  have Hh := Lib.hid h
  have Hg := Lib.hid hg
  have hl := h.1
  clear h hg
  go_enter Tryz.func79, Tryz.ntmps79
  go_wp2
  go_loopw [3] (fun i wr => ∃ j : Nat, j ≤ n ∧ i = .int .i64 ((j : Int) + 1) ∧ Hid (Tr.sorted (l.take (j + 1))) ∧ Below w.heap.size w wr) (fun i _ => n + 1 - (intOf i).toNat)
  case atStart =>
    refine ⟨0, Nat.zero_le _, rfl, Lib.hid ?_, Below.refl _ _⟩
    cases l with
    | nil => exact List.Pairwise.nil
    | cons x r => exact List.pairwise_singleton _ _
  case round =>
    obtain ⟨j, hj, rfl, Hs, hB⟩ := hrel
    have hsz := hB.size
    by_cases hlt : j + 1 < n
    · obtain ⟨b, off, rfl, hbl, hcs⟩ := (Hh.out.below hB).2 (by omega)
      obtain ⟨x0, x1, _, _⟩ := hcs j (by omega)
      obtain ⟨y0, y1, _, _⟩ := hcs (j + 1) (by omega)
      have gx := Hg.out _ (List.getElem_mem (show j < l.length by omega))
      have gy := Hg.out _ (List.getElem_mem (show j + 1 < l.length by omega))
      have hj1 : j + 1 < l.length := by omega
      have hj0 : j < l.length := by omega
      have Hsn := Lib.hid (fun (h : Tr.lt (Tr.nw l[j]) (Tr.nw l[j + 1])) => Tr.sorted_snoc hj1 Hs.out h)
      have Hgt := Lib.hid (fun (h : Tr.sorted l) => Tr.sorted_get h (show j < j + 1 by omega) (show j + 1 < l.length by omega))
      have Ho := Lib.hid (Tr.order_lt (x := Tr.nw l[j]) (y := Tr.nw l[j + 1]))
      clear hcs
      generalize l[j] = X at *
      generalize l[j + 1] = Y at *
      obtain ⟨xa, xb, xo, xs⟩ := X
      obtain ⟨ya, yb, yo, ys⟩ := Y
      have bx := good_bits gx.2
      have byy := good_bits gy.2
      have i1 : (j : Int) < (n : Int) := by omega
      have i2 : (j : Int) + 1 < (n : Int) := by omega
      have z1 : (0 : Int) ≤ (j : Int) := by omega
      have e3 : IntKind.i64.wrap (j : Int) = (j : Int) := IntWalk.i64_in _ (by omega)
      have e2 : ((j : Int) + 1).toNat = j + 1 := by omega
      have z2 : (0 : Int) ≤ (j : Int) + 1 := by omega
      have HS : Hid (∀ W, Below wr.heap.size wr W → (W.cell? ⟨b, off + j * 4, none⟩ = some (.int .u32 (xa : Int)) ∧ W.cell? ⟨b, off + j * 4 + 1, none⟩ = some (.int .i64 xb) ∧ W.cell? ⟨b, off + (j + 1) * 4, none⟩ = some (.int .u32 (ya : Int)) ∧ W.cell? ⟨b, off + (j + 1) * 4 + 1, none⟩ = some (.int .i64 yb) ∧ Below wr.heap.size wr W)) := Lib.hid fun W hW => by
        refine ⟨?_, ?_, ?_, ?_, hW⟩
        · rw [hW.cell (p := ⟨b, off + j * 4, none⟩) (by show b < wr.heap.size; omega)]; exact x0
        · rw [hW.cell (p := ⟨b, off + j * 4 + 1, none⟩) (by show b < wr.heap.size; omega)]; exact x1
        · rw [hW.cell (p := ⟨b, off + (j + 1) * 4, none⟩) (by show b < wr.heap.size; omega)]; exact y0
        · rw [hW.cell (p := ⟨b, off + (j + 1) * 4 + 1, none⟩) (by show b < wr.heap.size; omega)]; exact y1
      have HC : Hid (∀ W, (W.cell? ⟨b, off + j * 4, none⟩ = some (.int .u32 (xa : Int)) ∧ W.cell? ⟨b, off + j * 4 + 1, none⟩ = some (.int .i64 xb) ∧ W.cell? ⟨b, off + (j + 1) * 4, none⟩ = some (.int .u32 (ya : Int)) ∧ W.cell? ⟨b, off + (j + 1) * 4 + 1, none⟩ = some (.int .i64 yb) ∧ Below wr.heap.size wr W) → Calls Tryz.prog 45 #[.agg #[.int .u32 (xa : Int), .int .i64 xb], .agg #[.int .u32 (ya : Int), .int .i64 yb]] W fun e W' => e = .returned (.int .i64 (Nt.order xa xb ya yb)) ∧ (W'.cell? ⟨b, off + j * 4, none⟩ = some (.int .u32 (xa : Int)) ∧ W'.cell? ⟨b, off + j * 4 + 1, none⟩ = some (.int .i64 xb) ∧ W'.cell? ⟨b, off + (j + 1) * 4, none⟩ = some (.int .u32 (ya : Int)) ∧ W'.cell? ⟨b, off + (j + 1) * 4 + 1, none⟩ = some (.int .i64 yb) ∧ Below wr.heap.size wr W')) := Lib.hid fun W hW => (net_Compare xa xb ya yb W gx.1 gy.1 bx.1 bx.2 byy.1 byy.2).mono fun e W' ⟨he, hb⟩ => ⟨he, HS.out W' (hW.2.2.2.2.trans (hb.mono hW.2.2.2.2.size))⟩
      change Hid (Nt.order xa xb ya yb < 0 ↔ Tr.lt (xa, xb) (ya, yb)) at Ho
      change Hid (Tr.lt (xa, xb) (ya, yb) → _) at Hsn
      change Hid (_ → Tr.lt (xa, xb) (ya, yb)) at Hgt
      clear gx gy bx byy
      generalize Nt.order xa xb ya yb = R at *
      by_cases hR : R < 0
      · have hR' : decide (0 ≤ R) = false := decide_eq_false (by omega)
        go_wp2_with fail
        go_region_held3 (fun W => W.cell? ⟨b, off + j * 4, none⟩ = some (.int .u32 (xa : Int)) ∧ W.cell? ⟨b, off + j * 4 + 1, none⟩ = some (.int .i64 xb) ∧ W.cell? ⟨b, off + (j + 1) * 4, none⟩ = some (.int .u32 (ya : Int)) ∧ W.cell? ⟨b, off + (j + 1) * 4 + 1, none⟩ = some (.int .i64 yb) ∧ Below wr.heap.size wr W) (first | assumption | (exact ⟨x0, x1, y0, y1, (Below.refl _ _).drew⟩))
          (first
            | (go_at_call 45; refine (HC.out _ (by first | assumption | exact ⟨x0, x1, y0, y1, (Below.refl _ _).drew⟩)).mono ?_; rintro e w2 ⟨rfl, hS2⟩))
        all_goals
          have hB2 := hB.trans (hS2.2.2.2.2.mono hsz)
          go_wp2
          go_roundw
          case rel => exact ⟨j + 1, by omega, by go_num, Lib.hid (Hsn.out (Ho.out.1 hR)), hB2⟩
          case measure => simp [intOf]; omega
      · have hR' : decide (0 ≤ R) = true := decide_eq_true (by omega)
        go_wp2_with fail
        go_region_held3 (fun W => W.cell? ⟨b, off + j * 4, none⟩ = some (.int .u32 (xa : Int)) ∧ W.cell? ⟨b, off + j * 4 + 1, none⟩ = some (.int .i64 xb) ∧ W.cell? ⟨b, off + (j + 1) * 4, none⟩ = some (.int .u32 (ya : Int)) ∧ W.cell? ⟨b, off + (j + 1) * 4 + 1, none⟩ = some (.int .i64 yb) ∧ Below wr.heap.size wr W) (first | assumption | (exact ⟨x0, x1, y0, y1, (Below.refl _ _).drew⟩))
          (first
            | (go_at_call 45; refine (HC.out _ (by first | assumption | exact ⟨x0, x1, y0, y1, (Below.refl _ _).drew⟩)).mono ?_; rintro e w2 ⟨rfl, hS2⟩))
        all_goals
          have hB2 := hB.trans (hS2.2.2.2.2.mono hsz)
          go_wp2
          go_ret
          exact ⟨_, rfl, ⟨fun h => (by cases h), fun h => by have := Ho.out.2 (Hgt.out h); omega⟩, hB2⟩
    · have htk : l.take (j + 1) = l := List.take_of_length_le (by omega)
      rw [htk] at Hs
      clear Hh Hg
      go_wp2
      go_ret
      exact ⟨_, rfl, ⟨fun _ => Hs.out, fun _ => rfl⟩, hB⟩
end Go.Proofs.YtjdflnnpamjjcaaGreatDoor

namespace Go.Proofs.YtjdflnnpamjjcaaGreatDoor
open Go.RowKit

theorem node_parts (xa ya : Nat) (xb yb xs ys : Int) (xo yo : ByteArray) : (xa = ya ∧ xb = yb ∧ xo = yo ∧ xs = ys) ∨ ((xa : Int) == (ya : Int)) = false ∨ (xa = ya ∧ (xb == yb) = false) ∨ (xa = ya ∧ xb = yb ∧ (xo.toList == yo.toList) = false) ∨ (xa = ya ∧ xb = yb ∧ xo = yo ∧ (xs == ys) = false) := by
  by_cases h1 : xa = ya
  · by_cases h2 : xb = yb
    · by_cases h3 : xo = yo
      · by_cases h4 : xs = ys
        · exact .inl ⟨h1, h2, h3, h4⟩
        · exact .inr (.inr (.inr (.inr ⟨h1, h2, h3, beq_eq_false_iff_ne.2 h4⟩)))
      · refine .inr (.inr (.inr (.inl ⟨h1, h2, beq_eq_false_iff_ne.2 fun h => h3 ?_⟩)))
        rw [ByteArray.toList_eq, ByteArray.toList_eq] at h
        exact WideShapes.bytes_inj h
    · exact .inr (.inr (.inl ⟨h1, beq_eq_false_iff_ne.2 h2⟩))
  · exact .inr (.inl (beq_eq_false_iff_ne.2 (by omega)))
set_option maxRecDepth 20000 in
set_option maxHeartbeats 3200000 in
theorem nodes_Equal (a b : Option Addr) (n m c d : Nat) (l k : List Tr.Node) (w : World) (hl : NodesAt w w.heap.size a n l) (hk : NodesAt w w.heap.size b m k) (hn : n ≤ 3518437208883) :
    Calls Tryz.prog 24 #[.slice a n c, .slice b m d] w fun e w' => ∃ r : Bool, e = .returned (.bool r) ∧ (r = true ↔ l = k) ∧ Below w.heap.size w w' := by
  have Hl := Lib.hid hl
  have Hk := Lib.hid hk
  have hl1 := hl.1
  have hk1 := hk.1
  clear hl hk
  by_cases hnm : n = m
  · subst hnm
    go_enter Tryz.func24, Tryz.ntmps24
    go_wp2
    go_loopw [13] (fun i wr => ∃ j : Nat, j ≤ n ∧ i = .int .i64 j ∧ Hid (l.take j = k.take j) ∧ Below w.heap.size w wr) (fun i _ => n - (intOf i).toNat)
    case atStart => exact ⟨0, Nat.zero_le _, rfl, Lib.hid rfl, Below.refl _ _⟩
    case round =>
      obtain ⟨j, hj, rfl, Ht, hB⟩ := hrel
      by_cases hlt : j < n
      · obtain ⟨b1, o1, rfl, _, hc1⟩ := (Hl.out.below hB).2 (by omega)
        obtain ⟨b2, o2, rfl, _, hc2⟩ := (Hk.out.below hB).2 (by omega)
        obtain ⟨x0, x1, x2, x3⟩ := hc1 j (by omega)
        obtain ⟨y0, y1, y2, y3⟩ := hc2 j (by omega)
        clear hc1 hc2
        generalize hX : l[j] = X at *
        generalize hY : k[j] = Y at *
        have HX := Lib.hid hX
        have HY := Lib.hid hY
        clear hX hY
        obtain ⟨xa, xb, xo, xs⟩ := X
        obtain ⟨ya, yb, yo, ys⟩ := Y
        have i1 : (j : Int) < (n : Int) := by omega
        have hjl : j < l.length := by omega
        have hjk : j < k.length := by omega
        rcases node_parts xa ya xb yb xs ys xo yo with ⟨rfl, rfl, rfl, rfl⟩ | q0 | ⟨rfl, q0⟩ | ⟨rfl, rfl, q0⟩ | ⟨rfl, rfl, rfl, q0⟩
        · go_wp2_with fail
          go_quiet (fail)
          go_wp2
          go_roundw
          case rel => exact ⟨j + 1, by omega, by go_num, Lib.hid (by rw [List.take_succ_eq_append_getElem hjl, List.take_succ_eq_append_getElem hjk, Ht.out, HX.out, HY.out]), belowDrewN hB _⟩
          case measure => simp [intOf]; omega
        · have hne : l ≠ k := fun e => by subst e; have h := HX.out.symm.trans HY.out; injection h with h1 h2 h3 h4; simp [h1] at q0
          clear HX HY Ht
          go_wp2_with fail
          go_quiet (fail)
          go_wp2
          go_ret
          exact ⟨_, rfl, ⟨fun h => (by cases h), fun h => absurd h hne⟩, belowDrewN hB _⟩
        · have hne : l ≠ k := fun e => by subst e; have h := HX.out.symm.trans HY.out; injection h with h1 h2 h3 h4; simp [h2] at q0
          clear HX HY Ht
          go_wp2_with fail
          go_quiet (fail)
          go_wp2
          go_ret
          exact ⟨_, rfl, ⟨fun h => (by cases h), fun h => absurd h hne⟩, belowDrewN hB _⟩
        · have hne : l ≠ k := fun e => by subst e; have h := HX.out.symm.trans HY.out; injection h with h1 h2 h3 h4; simp [h3] at q0
          clear HX HY Ht
          go_wp2_with fail
          go_quiet (fail)
          go_wp2
          go_ret
          exact ⟨_, rfl, ⟨fun h => (by cases h), fun h => absurd h hne⟩, belowDrewN hB _⟩
        · have hne : l ≠ k := fun e => by subst e; have h := HX.out.symm.trans HY.out; injection h with h1 h2 h3 h4; simp [h4] at q0
          clear HX HY Ht
          go_wp2_with fail
          go_quiet (fail)
          go_wp2
          go_ret
          exact ⟨_, rfl, ⟨fun h => (by cases h), fun h => absurd h hne⟩, belowDrewN hB _⟩
      · obtain rfl : j = n := by omega
        have hlk : l = k := by have h := Ht.out; rwa [List.take_of_length_le (by omega), List.take_of_length_le (by omega)] at h
        clear Ht Hl Hk
        go_wp2
        go_ret
        exact ⟨_, rfl, ⟨fun _ => hlk, fun _ => rfl⟩, hB⟩
  · have hne : ((n : Int) != (m : Int)) = true := by simp; omega
    have hlk : l ≠ k := fun e => hnm (by rw [← hl1, ← hk1, e])
    clear Hl Hk
    go_enter Tryz.func24, Tryz.ntmps24
    go_wp2
    go_ret
    exact ⟨_, rfl, ⟨fun h => (by cases h), fun h => absurd h hlk⟩, Below.refl _ _⟩
end Go.Proofs.YtjdflnnpamjjcaaGreatDoor

namespace Go.Proofs.YtjdflnnpamjjcaaGreatDoor
open Go.RowKit

/-- Where the walk is in the loop. -/
def OwnSo (w : World) (l : List Tr.Node) (k : Nat) (v : Value) (wr : World) : Prop := OwnN wr w.heap.size v (Tr.owned (l.take k)) ∧ Below w.heap.size w wr
end Go.Proofs.YtjdflnnpamjjcaaGreatDoor
