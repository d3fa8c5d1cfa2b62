/- The contracts of slices.SortFunc with the laws' order, at twelve networks or fewer. -/
import Derived.Test.YtjdflnnpamjjcaaDoorSF12
import Derived.Test.YtjdflnnpamjjcaaDoorSF04
import Derived.Test.YtjdflnnpamjjcaaDoorConfArgs
import Derived.Test.YtjdflnnpamjjcaaDoorSF10
import Derived.Test.YtjdflnnpamjjcaaDoorSF03
import Derived.Shelf.Abstract
import Derived.Deep.RegionHeld3
import Derived.Deep.DeepCutAuto
import Derived.BigRegion
namespace Go.Proofs.YtjdflnnpamjjcaaDoor
open Go.RowKit

/-- The raw thing that is read: its block, no row's. -/
structure RawSt (W : World) (g6 bp : Nat) (r : RawD) (vm vn : Value) : Prop where
  blk : Blk W g6 49 r.cells
  bp : g6 ≠ bp
  vm : vm.ownBlock ≠ some g6
  vn : vn.ownBlock ≠ some g6
theorem notb_at {W : World} {v v' : Value} {g : Nat} (h : v.ownBlock ≠ some g) (hat : v'.ownBlock = v.ownBlock ∨ v'.ownBlock = some W.heap.size) (hg : g < W.heap.size) : v'.ownBlock ≠ some g := by
  rcases hat with hat | hat
  · rw [hat]; exact h
  · rw [hat]
    intro e
    injection e with e
    omega
structure AllSt (w W : World) (bc bp g6 : Nat) (port : Int) (vp : Value) (L : List Cf.Q) (r : RawD) (vm : Value) (ms : List (Nat × Int)) (k s e : ByteArray) (v : Int) (vn : Value) (ns : List (Nat × Int)) : Prop where
  c : ConfSt w W bc port vp L vm ms
  p : PeerSt W bc bp vp L vm k s e v vn ns
  r : RawSt W g6 bp r vm vn
section
variable {w W W' : World} {bc bp g6 : Nat} {port : Int} {vp : Value} {L : List Cf.Q} {r : RawD} {vm vm' : Value} {ms ms' : List (Nat × Int)} {k s e : ByteArray} {v : Int} {vn vn' : Value} {ns ns' : List (Nat × Int)}
theorem AllSt.step (h : AllSt w W bc bp g6 port vp L r vm ms k s e v vn ns) (hb : Below W.heap.size W W') : AllSt w W' bc bp g6 port vp L r vm ms k s e v vn ns :=
  ⟨h.c.step hb, h.p.step hb, h.r.blk.kept hb, h.r.bp, h.r.vm, h.r.vn⟩
theorem AllSt.shared (h : AllSt w W bc bp g6 port vp L r vm ms k s e v vn ns) (s' : ByteArray) : AllSt w (W.setCell ⟨bp, 1, none⟩ (.string s')) bc bp g6 port vp L r vm ms k s' e v vn ns :=
  ⟨h.c.cell h.p _, h.p.shared s', h.r.blk.other (fun e => h.r.bp e) _, h.r.bp, h.r.vm, h.r.vn⟩
theorem AllSt.mets (h : AllSt w W bc bp g6 port vp L r vm ms k s e v vn ns) (hg : W.grownBy W' vm.ownBlock) (ho : netT.own W' (bc + 1) vm' ms') (hat : vm'.ownBlock = vm.ownBlock ∨ vm'.ownBlock = some W.heap.size) : AllSt w W' bc bp g6 port vp L r vm' ms' k s e v vn ns :=
  ⟨h.c.mets hg ho hat, h.p.mets h.c hg hat, h.r.blk.grown hg h.r.vm, h.r.bp, notb_at h.r.vm hat h.r.blk.lt, h.r.vn⟩
theorem AllSt.netsAt (h : AllSt w W bc bp g6 port vp L r vm ms k s e v vn ns) (hg : W.grownBy W' vn.ownBlock) (ho : netT.own W' (bc + 1) vn' ns') (hat : vn'.ownBlock = vn.ownBlock ∨ vn'.ownBlock = some W.heap.size) : AllSt w (W'.setCell ⟨bp, 4, none⟩ vn') bc bp g6 port vp L r vm ms k s e v vn' ns' := by
  have hc := h.c.nets h.p hg
  have hgs := grown_setCell' W' bp 4 vn'
  have hlt := h.p.lt
  have hbc := hc.bcb
  refine ⟨⟨hc.below.grown hgs hc.below.size (fun j e => by injection e with e; omega), hc.bcb, hc.conf.grown hgs (fun e => by injection e with e; omega), hc.peers.kept hgs (fun g hv e => h.p.vbp (hv.trans e.symm)) (fun q hq g hv e => h.p.lbp q hq (hv.trans e.symm)), hc.met.kept hgs (fun g hv e => h.p.mbp (hv.trans e.symm)), hc.apv, hc.apl⟩, h.p.netsAt h.c hg ho hat, (h.r.blk.grown hg h.r.vn).other (fun e => h.r.bp e) _, h.r.bp, h.r.vm, notb_at h.r.vn hat h.r.blk.lt⟩
theorem AllSt.sorted (h : AllSt w W bc bp g6 port vp L r vm ms k s e v vn ns) (hg : W.grownBy W' vn.ownBlock) (ho : netT.own W' (bc + 1) vn ns') : AllSt w W' bc bp g6 port vp L r vm ms k s e v vn ns' :=
  ⟨h.c.nets h.p hg, h.p.sorted hg ho, h.r.blk.grown hg h.r.vn, h.r.bp, h.r.vm, h.r.vn⟩
/-- The peer's struct is new. -/
theorem AllSt.new (hc : ConfSt w W bc port vp L vm ms) (hr : Blk W g6 49 r.cells) (hm : vm.ownBlock ≠ some g6) (hb : Below W.heap.size W W') (hbp : W.heap.size ≤ bp) (hblk : Blk W' bp 24 [.string k, .string s, .string e, .int .i64 v, .slice none 0 0]) : AllSt w W' bc bp g6 port vp L r vm ms k s e v (.slice none 0 0) [] := by
  have h6 := hr.lt
  have hcl := hc.conf.lt
  refine ⟨hc.step hb, ⟨by omega, hblk, RowTy.own.nil _ _, (fun e => by cases e), apart_nil _ _ _, apart_nil _ _ _, fun q _ => apart_nil _ _ _, fun e => ?_, fun e => ?_, fun q hq e => ?_⟩, hr.kept hb, by omega, hm, fun e => by cases e⟩
  · have := (hc.met.lt bp e).2; omega
  · have := (hc.peers.row.lt bp e).2; omega
  · have := ((hc.peers.nets q hq).lt bp e).2; omega
end
/-- Where Conf's loop is. -/
def AtC (w1 W : World) (bc : Nat) (l : List RawD) (i : Nat) (vm : Value) : Prop := ∃ vp L, ConfSt w1 W bc (if i = 0 then 0 else (Cf.rawPort l : Int)) vp L vm (Cf.rawSt l i).1 ∧ L.map (·.1) = (Cf.rawSt l i).2
theorem AtC.start {w1 w2 : World} (hb : Below w1.heap.size w1 w2) (l : List RawD) : AtC w1 (w2.alloc (.cells #[.string (keyOf 0), .int .i64 0, .slice none 0 0] 31)) w2.heap.size l 0 (.slice none 0 0) :=
  ⟨.slice none 0 0, [], ⟨hb.alloc hb.size _, hb.size, Blk.new w2 _ [.string (keyOf 0), .int .i64 0, .slice none 0 0], ⟨RowTy.own.nil _ _, (fun q hq => by cases hq), (fun q hq => by cases hq), List.Pairwise.nil⟩, RowTy.own.nil _ _, apart_nil _ _ _, fun q hq => by cases hq⟩, rfl⟩
theorem AtC.port {w1 W W' : World} {bc : Nat} {l : List RawD} {i : Nat} {vm : Value} (h : AtC w1 W bc l i vm) (hi : i = 0) (hl : 0 < l.length) (hb : Below W.heap.size W W') : AtC w1 (W'.setCell ⟨bc, 1, none⟩ (.int .i64 (pick (l.getD 0 default).a 65536 : Int))) bc l (i + 1) vm := by
  subst hi
  obtain ⟨vp, L, hc, hL⟩ := h
  refine ⟨vp, L, ?_, hL⟩
  have : (Cf.rawPort l : Int) = (pick (l.getD 0 default).a 65536 : Int) := by unfold Cf.rawPort; rw [if_neg (by omega)]
  rw [if_neg (by omega), this]
  exact (hc.step hb).port _
theorem AtC.done {w1 W : World} {bc : Nat} {l : List RawD} {i : Nat} {vm : Value} (h : AtC w1 W bc l i vm) (hi : i = min l.length 7) : ∃ xa xc L, Blk W bc 31 [.string (keyOf 0), .int .i64 (Cf.rawPort l : Int), .slice xa L.length xc] ∧ OwnP W (bc + 1) (.slice xa L.length xc) L ∧ L.map (·.1) = (Cf.rawC l).ps ∧ Below w1.heap.size w1 W ∧ w1.heap.size ≤ bc := by
  obtain ⟨vp, L, hc, hL⟩ := h
  obtain ⟨xa, xc, rfl, _⟩ := hc.peers.at
  refine ⟨xa, xc, L, ?_, hc.peers, by rw [hL, hi]; rfl, hc.below, hc.bcb⟩
  have := hc.conf
  by_cases h0 : i = 0
  · have hz : Cf.rawPort l = 0 := by unfold Cf.rawPort; rw [if_pos (by omega)]
    rw [if_pos h0] at this
    rw [hz]; exact this
  · rw [if_neg h0] at this; exact this
theorem rawAt_cells {w : World} {B n : Nat} {a : Option Addr} {l : List RawD} (h : RawsAt w B a n l) (i : Nat) (hi : i < l.length) : ∃ b off, a = some ⟨b, off, none⟩ ∧ b < B ∧ w.cell? ⟨b, off + i * 4, none⟩ = some (.int .i64 l[i].k) ∧ w.cell? ⟨b, off + i * 4 + 1, none⟩ = some (.int .i64 l[i].a) ∧ w.cell? ⟨b, off + i * 4 + 2, none⟩ = some (.int .i64 l[i].b) ∧ w.cell? ⟨b, off + i * 4 + 3, none⟩ = some (.string l[i].s) := by
  obtain ⟨b, off, e, hlt, hc⟩ := h.2 (by have := h.1; omega)
  exact ⟨b, off, e, hlt, hc i hi⟩
theorem load_confK {w : World} {g : Nat} {xs : List Value} (R : Blk w g 31 xs) (h : xs.length = 3) : (loadVar 31 ⟨g, 0, none⟩).run Tryd.prog w = .ok (.agg xs.toArray) w :=
  run_loadVar_row (P := Tryd.prog) w g 31 31 xs.toArray (0, 0) _ R Tryd.underlying31 rfl (by rw [show (Tryd.prog.info? 31).map (·.size) = some 3 by kernel_rfl]; simp [h])
theorem size_confK : (Tryd.prog.info? 31).map (·.size) = some 3 := by kernel_rfl
/-- The result's block is written whole. -/
theorem result_own {W W9 : World} {N bc g : Nat} {v : Value} {L : List Cf.Q} (hO : OwnP W (bc + 1) v L) (hg : W.grownBy W9 (some g)) (h1 : g < bc) (h2 : N ≤ bc) : OwnP W9 N v L :=
  (hO.kept hg (fun k hk e => by have := (hO.row.lt k hk).1; injection e with e; omega) (fun q hq k hk e => by have := ((hO.nets q hq).lt k hk).1; injection e with e; omega)).base (by omega)
end Go.Proofs.YtjdflnnpamjjcaaDoor

namespace Go.Proofs.YtjdflnnpamjjcaaDoor
open Go.RowKit

set_option maxHeartbeats 1600000 in
theorem keep_order (x y : Nat × Int) (w : World) :
    Calls Tryd.prog 25 #[.agg #[.int .u32 (x.1 : Int), .int .i64 x.2], .agg #[.int .u32 (y.1 : Int), .int .i64 y.2]] w fun e w' => e = .returned (.int .i64 (Nt.order x.1 x.2 y.1 y.2)) ∧ Below w.heap.size w w' := by
  obtain ⟨a, b⟩ := x
  obtain ⟨c, d⟩ := y
  simp only
  have h2 := two_nets w (.int .u32 (a : Int)) (.int .i64 b) (.int .u32 (c : Int)) (.int .i64 d)
  obtain ⟨w1, hw1⟩ : ∃ w1, w1 = (w.alloc (.cells #[.int .u32 (a : Int), .int .i64 b] 44)).alloc (.cells #[.int .u32 (c : Int), .int .i64 d] 44) := ⟨_, rfl⟩
  rw [← hw1] at h2
  obtain ⟨hA, hz1, hg2, hg3⟩ := h2
  obtain ⟨c0, c1⟩ := net_cells hg2 (Below.refl _ _)
  obtain ⟨c2, c3⟩ := net_cells hg3 (Below.refl _ _)
  have HA := Lib.hid hA
  have R1 : Hid (a < c ∨ a = c ∧ b < d → Nt.order a b c d = -1) := Lib.hid (fun h => by unfold Nt.order; rw [if_pos h])
  have R2 : Hid (a = c → b = d → Nt.order a b c d = 0) := Lib.hid (fun h1 h2 => by subst h1 h2; unfold Nt.order; rw [if_neg (by omega), if_pos ⟨rfl, rfl⟩])
  have R3 : Hid (¬ (a < c ∨ a = c ∧ b < d) → ¬ (a = c ∧ b = d) → Nt.order a b c d = 1) := Lib.hid (fun h1 h2 => by unfold Nt.order; rw [if_neg h1, if_neg h2])
  obtain ⟨R, hR⟩ : ∃ R, R = Nt.order a b c d := ⟨_, rfl⟩
  rw [← hR] at R1 R2 R3 ⊢
  clear hR hA hg2 hg3 hz1
  have fin : ∀ (r : Int), Hid (R = r) → True := fun _ _ => trivial
  clear fin
  by_cases h1 : a < c
  · have Hr := Lib.hid (R1.out (.inl h1))
    have d1 : decide ((a : Int) < (c : Int)) = true := decide_eq_true (by omega)
    have d1' : (a : Int) < (c : Int) := by omega
    go_enter Tryd.func25, Tryd.ntmps25
    go_wp2_with fail
    rw [← hw1]
    clear hw1 R1 R2 R3
    go_wp2
    go_ret
    exact ⟨by rw [Hr.out]; rfl, HA.out⟩
  have d1 : decide ((a : Int) < (c : Int)) = false := decide_eq_false (by omega)
  have d1' : ¬ (a : Int) < (c : Int) := by omega
  by_cases h2 : a = c
  · subst h2
    by_cases h3 : b < d
    · have Hr := Lib.hid (R1.out (.inr ⟨rfl, h3⟩))
      have d3 : decide (b < d) = true := decide_eq_true h3
      go_enter Tryd.func25, Tryd.ntmps25
      go_wp2_with fail
      rw [← hw1]
      clear hw1 R1 R2 R3
      go_wp2
      go_ret
      exact ⟨by rw [Hr.out]; rfl, HA.out⟩
    · have d3 : decide (b < d) = false := decide_eq_false h3
      by_cases h4 : b = d
      · have Hr := Lib.hid (R2.out rfl h4)
        subst h4
        go_enter Tryd.func25, Tryd.ntmps25
        go_wp2_with fail
        rw [← hw1]
        clear hw1 R1 R2 R3
        go_wp2
        go_ret
        exact ⟨by rw [Hr.out]; rfl, HA.out⟩
      · have Hr := Lib.hid (R3.out (by omega) (by omega))
        have d4 : (b == d) = false := by simpa using h4
        clear h4
        go_enter Tryd.func25, Tryd.ntmps25
        go_wp2_with fail
        rw [← hw1]
        clear hw1 R1 R2 R3
        go_wp2
        go_ret
        exact ⟨by rw [Hr.out]; rfl, HA.out⟩
  · have Hr := Lib.hid (R3.out (by omega) (by omega))
    have d4 : ((a : Int) == (c : Int)) = false := by simp; omega
    clear h2
    go_enter Tryd.func25, Tryd.ntmps25
    go_wp2_with fail
    rw [← hw1]
    clear hw1 R1 R2 R3
    go_wp2
    go_ret
    exact ⟨by rw [Hr.out]; rfl, HA.out⟩
end Go.Proofs.YtjdflnnpamjjcaaDoor

namespace Go.Proofs.YtjdflnnpamjjcaaDoor
open Go.RowKit

theorem block_lt_of_cell {w : World} {a : Addr} {v : Value} (h : w.cell? a = some v) : a.block < w.heap.size := by
  by_cases hc : a.block < w.heap.size
  · exact hc
  · simp [World.cell?, Array.getElem?_eq_none (show w.heap.size ≤ a.block by omega)] at h
theorem cell_beneath {w w' : World} {b i : Nat} {v : Value} (hb : Below w.heap.size w w') (h : w.cell? ⟨b, i, none⟩ = some v) : w'.cell? ⟨b, i, none⟩ = some v :=
  (hb.cell (p := ⟨b, i, none⟩) (block_lt_of_cell h)).trans h
theorem grown_below {w w' : World} {g : Nat} (h : Below w.heap.size w w') : w.grownBy w' (some g) := ⟨h.os, h.tape, h.output, h.size, fun k hk _ => h.block k hk⟩
theorem swap_list (S T : List (Nat × Int)) (x : Nat × Int) (j : Nat) (hj : 0 < j) (h : j ≤ S.length) :
    ((S.take j ++ x :: S.drop j ++ T).set j (S[j - 1]'(by omega))).set (j - 1) x = S.take (j - 1) ++ x :: S.drop (j - 1) ++ T := by
  obtain ⟨q, rfl⟩ : ∃ q, j = q + 1 := ⟨j - 1, by omega⟩
  simp only [Nat.add_sub_cancel]
  have h1 : (S.take (q + 1)).length = q + 1 := by rw [List.length_take]; omega
  have h0 : (S.take q).length = q := by rw [List.length_take]; omega
  rw [List.append_assoc, List.set_append_right _ _ (by omega), h1, Nat.sub_self, List.cons_append, List.set_cons_zero, List.take_succ_eq_append_getElem (by omega), List.append_assoc, List.set_append_right _ _ (by omega), h0, Nat.sub_self, List.singleton_append, List.set_cons_zero, List.drop_eq_getElem_cons (i := q) (by omega), List.append_assoc]
  rfl
theorem mid_get (S T : List (Nat × Int)) (x : Nat × Int) (j : Nat) (h : j ≤ S.length) : ∃ hj : j < (S.take j ++ x :: S.drop j ++ T).length, (S.take j ++ x :: S.drop j ++ T)[j] = x := by
  have h1 : (S.take j).length = j := by rw [List.length_take]; omega
  refine ⟨by simp; omega, ?_⟩
  rw [List.getElem_append_left (by simp; omega), List.getElem_append_right (by omega)]
  simp [h1]
theorem mid_prev (S T : List (Nat × Int)) (x : Nat × Int) (j : Nat) (h : j < S.length + 1) (h0 : 0 < j) : ∃ hj : j - 1 < (S.take j ++ x :: S.drop j ++ T).length, (S.take j ++ x :: S.drop j ++ T)[j - 1] = S[j - 1]'(by omega) := by
  have h1 : (S.take j).length = j := by rw [List.length_take]; omega
  refine ⟨by simp; omega, ?_⟩
  rw [List.getElem_append_left (by simp; omega), List.getElem_append_left (by omega), List.getElem_take]
/-- The row of block g. -/
def RowIs (w : World) (g : Nat) (X : List Value) (L : List (Nat × Int)) : Prop := w.heap[g]? = some (.cells (netT.cs L ++ X).toArray 44 (0, 0))
theorem RowIs.cells {w : World} {g : Nat} {X : List Value} {L : List (Nat × Int)} (h : RowIs w g X L) (i : Nat) (hi : i < L.length) :
    (w.cell? ⟨g, i * 2, none⟩ = some (.int .u32 (L[i].1 : Int)) ∧ w.cell? ⟨g, i * 2 + 1, none⟩ = some (.int .i64 L[i].2)) ∧ w.frozen? ⟨g, i * 2, none⟩ = false ∧ w.frozen? ⟨g, i * 2 + 1, none⟩ = false := by
  have h0 := netT.block_cell h i 0 hi (by decide)
  have h1 := netT.block_cell h i 1 hi (by decide)
  exact ⟨⟨h0.1, h1.1⟩, h0.2, h1.2⟩
theorem RowIs.below {w w' : World} {B g : Nat} {X : List Value} {L : List (Nat × Int)} (h : RowIs w g X L) (hb : Below B w w') (hg : g < B) : RowIs w' g X L := (hb.block g hg).trans h
theorem RowIs.lt {w : World} {g : Nat} {X : List Value} {L : List (Nat × Int)} (h : RowIs w g X L) : g < w.heap.size := by
  by_cases hc : g < w.heap.size
  · exact hc
  · unfold RowIs at h; rw [Array.getElem?_eq_none (by omega)] at h; cases h
/-- A whole network stored into the row. -/
theorem RowIs.put {w : World} {g : Nat} {X : List Value} {L : List (Nat × Int)} (h : RowIs w g X L) (i : Nat) (hi : i < L.length) (x : Nat × Int) :
    RowIs ((w.setCell ⟨g, i * 2, none⟩ (.int .u32 (x.1 : Int))).setCell ⟨g, i * 2 + 1, none⟩ (.int .i64 x.2)) g X (L.set i x) ∧ w.grownBy ((w.setCell ⟨g, i * 2, none⟩ (.int .u32 (x.1 : Int))).setCell ⟨g, i * 2 + 1, none⟩ (.int .i64 x.2)) (some g) := by
  have h1 := netT.block_set h i 0 (x.1, L[i].2) (.int .u32 (x.1 : Int)) hi (by decide) rfl
  have h2 := netT.block_set h1 i 1 x (.int .i64 x.2) (by rw [List.length_set]; exact hi) (by decide) (by rw [List.getElem_set_self]; rfl)
  rw [List.set_set] at h2
  exact ⟨h2, (grown_setCell' _ _ _ _).trans (grown_setCell' _ _ _ _)⟩
set_option maxRecDepth 20000 in
set_option maxHeartbeats 8000000 in
theorem nets_insertionSort (g n c : Nat) (l : List (Nat × Int)) (X : List Value) (w : World) (hg : RowIs w g X l) (hl : l.length = n) (hn : n ≤ 12) :
    Calls Tryd.prog 65 #[.slice (some ⟨g, 0, none⟩) n c, .int .i64 0, .int .i64 (n : Int), .func (.func 25) #[] #[]] w fun e w' => e = .returned (.tuple #[]) ∧ RowIs w' g X (Nt.sortN l) ∧ w.grownBy w' (some g) := by
  have H := Lib.hid hg
  have Hl := Lib.hid hl
  have hent := enters_of Tryd.func25 (by kernel_rfl) rfl
  have HO := Lib.hid (fun x y W => keep_order x y W)
  have hnm : (n : Int) ≤ 12 := by omega
  clear hg hl
  go_enter Tryd.func65, Tryd.ntmps65
  go_wp2
  go_loopw [8] (fun v wr => ∃ i : Nat, 1 ≤ i ∧ (i ≤ n ∨ i = 1) ∧ v = .int .i64 (i : Int) ∧ Hid (RowIs wr g X (Nt.sortN (l.take i) ++ l.drop i)) ∧ Hid (w.grownBy wr (some g))) (fun v _ => n + 1 - (intOf v).toNat)
  case atStart => exact ⟨1, Nat.le_refl _, .inr rfl, by go_num, Lib.hid (by
    have : Nt.sortN (l.take 1) ++ l.drop 1 = l := by cases l <;> rfl
    rw [this]; exact H.out), Lib.hid (World.grownBy.refl _ _)⟩
  case round =>
    obtain ⟨i, hi1, hin, rfl, HR, HGr⟩ := hrel
    obtain ⟨wo, hwo⟩ : ∃ wo, wo = wr := ⟨_, rfl⟩
    subst hwo
    have i0 : (1 : Int) ≤ (i : Int) := by omega
    by_cases hlt : i < n
    · have hil : i < l.length := by rw [Hl.out]; exact hlt
      have i1 : (i : Int) < (n : Int) := by omega
      have HNext := Lib.hid (Nt.sortN_next l i hil)
      have HUp := Lib.hid (Nt.sort_up (l.take i))
      have hSl : (Nt.sortN (l.take i)).length = i := by rw [Nt.sort_length, List.length_take]; omega
      have hdrop : l.drop i = l[i] :: l.drop (i + 1) := List.drop_eq_getElem_cons hil
      rw [hdrop] at HR
      have htl : (l.drop (i + 1)).length = n - (i + 1) := by rw [List.length_drop, Hl.out]
      obtain ⟨T, hT⟩ : ∃ T, T = l.drop (i + 1) := ⟨_, rfl⟩
      rw [← hT] at HR htl
      have HT := Lib.hid hT
      clear hdrop hT
      generalize Nt.sortN (l.take i) = S at *
      generalize l[i] = x at *
      have HR0 : Hid (RowIs wo g X (S.take i ++ x :: S.drop i ++ T)) := Lib.hid (by
        rw [List.take_of_length_le (by omega), List.drop_of_length_le (by omega), List.append_assoc]; exact HR.out)
      go_wp2
      go_loopw [9] (fun v wr => ∃ j : Nat, j ≤ i ∧ v = .int .i64 (j : Int) ∧ Hid (RowIs wr g X (S.take j ++ x :: S.drop j ++ T)) ∧ Hid (∀ y ∈ S.drop j, Nt.lessN x y = true) ∧ Hid (w.grownBy wr (some g))) (fun v _ => (intOf v).toNat)
      case atStart => exact ⟨i, Nat.le_refl _, rfl, HR0, Lib.hid (fun y hy => by rw [List.drop_of_length_le (by omega)] at hy; cases hy), HGr⟩
      case round =>
        obtain ⟨j, hj, rfl, HRj, Hls, HGj⟩ := hrel
        obtain ⟨wi, hwi⟩ : ∃ wi, wi = wr := ⟨_, rfl⟩
        subst hwi
        by_cases h0 : j = 0
        · have q1 : decide ((0 : Int) < (j : Int)) = false := decide_eq_false (by omega)
          have q0 : ¬ 0 < j := by omega
          have HD := Lib.hid (Nt.ins_split HUp.out (by omega) Hls.out (fun h => absurd h (by omega)))
          clear h0
          go_wp2_with fail
          go_quiet (fail)
          have HRn := Lib.hid (show RowIs (wi.drewN nq) g X (Nt.sortN (l.take (i + 1)) ++ l.drop (i + 1)) by
            rw [HNext.out, HD.out, ← HT.out]
            exact HRj.out.below (below_drewN (Below.refl _ _) _) HRj.out.lt)
          have HGn := Lib.hid (HGj.out.trans (grown_below (below_drewN (Below.refl wi.heap.size wi) nq)))
          go_wp2
          go_roundw
          case rel => exact ⟨i + 1, by omega, .inl (by omega), by go_num, HRn, HGn⟩
          case measure => simp [intOf]; omega
        · have q1 : decide ((0 : Int) < (j : Int)) = true := decide_eq_true (by omega)
          have q0 : 0 < j := by omega
          obtain ⟨hjl, hje⟩ := mid_get S T x j (by omega)
          obtain ⟨hpl, hpe⟩ := mid_prev S T x j (by omega) q0
          have hcj := HRj.out.cells j hjl
          have hcp := HRj.out.cells (j - 1) hpl
          have HSw := Lib.hid (swap_list S T x j q0 (by omega))
          have HEnd : Hid (Nt.lessN x (S[j - 1]'(by omega)) = false → Nt.insN x S = S.take j ++ x :: S.drop j) := Lib.hid (fun h2 => Nt.ins_split HUp.out (by omega) Hls.out (fun _ => h2))
          have HLs2 : Hid (Nt.lessN x (S[j - 1]'(by omega)) = true → ∀ y ∈ S.drop (j - 1), Nt.lessN x y = true) := Lib.hid (fun h y hy => by
            rw [List.drop_eq_getElem_cons (show j - 1 < S.length by omega)] at hy
            rcases List.mem_cons.1 hy with rfl | hy
            · exact h
            · exact Hls.out y (by rwa [Nat.sub_add_cancel q0] at hy))
          rw [hje] at hcj
          rw [hpe] at hcp
          have HPut := Lib.hid (fun (W : World) (hW : RowIs W g X (S.take j ++ x :: S.drop j ++ T)) => (show RowIs ((((W.setCell ⟨g, j * 2, none⟩ (.int .u32 ((S[j - 1]'(by omega)).1 : Int))).setCell ⟨g, j * 2 + 1, none⟩ (.int .i64 (S[j - 1]'(by omega)).2)).setCell ⟨g, (j - 1) * 2, none⟩ (.int .u32 (x.1 : Int))).setCell ⟨g, (j - 1) * 2 + 1, none⟩ (.int .i64 x.2)) g X (S.take (j - 1) ++ x :: S.drop (j - 1) ++ T) ∧
              W.grownBy ((((W.setCell ⟨g, j * 2, none⟩ (.int .u32 ((S[j - 1]'(by omega)).1 : Int))).setCell ⟨g, j * 2 + 1, none⟩ (.int .i64 (S[j - 1]'(by omega)).2)).setCell ⟨g, (j - 1) * 2, none⟩ (.int .u32 (x.1 : Int))).setCell ⟨g, (j - 1) * 2 + 1, none⟩ (.int .i64 x.2)) (some g) by
            obtain ⟨p1, g1⟩ := hW.put j hjl (S[j - 1]'(by omega))
            obtain ⟨p2, g2⟩ := p1.put (j - 1) (by rw [List.length_set]; exact hpl) x
            rw [HSw.out] at p2
            exact ⟨p2, g1.trans g2⟩))
          clear HSw hje hpe hjl hpl
          generalize hP0 : S[j - 1]'(by omega) = P at *
          clear hP0
          obtain ⟨pa, pb⟩ := P
          obtain ⟨xa, xb⟩ := x
          obtain ⟨⟨c0, c1⟩, f0, f1⟩ := hcj
          obtain ⟨⟨c2, c3⟩, f2, f3⟩ := hcp
          simp only at c0 c1 c2 c3 HPut
          have HOO := Lib.hid (fun W => HO.out (xa, xb) (pa, pb) W)
          simp only at HOO
          rw [Nt.lessN_order (xa, xb) (pa, pb)] at HOO
          obtain ⟨q, hq⟩ : ∃ q, j - 1 = q := ⟨_, rfl⟩
          rw [hq] at c2 c3 f2 f3 HPut HLs2
          have i2 : (q : Int) < (n : Int) := by omega
          have i4 : (0 : Int) ≤ (q : Int) := by omega
          have i7 : IntKind.i64.wrap ((j : Int) - 1) = (q : Int) := by rw [IntKind.wrap_i64]; omega
          have i9 : IntKind.i64.wrap (q : Int) = (q : Int) := by rw [IntKind.wrap_i64]; omega
          have i3 : (j : Int) - 1 = (q : Int) := by omega
          have i5 : (j : Int) < (n : Int) := by omega
          have hqj : q < j := by omega
          have Hqj : Hid (j = q + 1) := Lib.hid (by omega)
          clear hq h0
          have HSS : Hid (∀ W, Below wi.heap.size wi W → W.cell? ⟨g, j * 2, none⟩ = some (.int .u32 (xa : Int)) ∧ W.cell? ⟨g, j * 2 + 1, none⟩ = some (.int .i64 xb) ∧ W.cell? ⟨g, q * 2, none⟩ = some (.int .u32 (pa : Int)) ∧ W.cell? ⟨g, q * 2 + 1, none⟩ = some (.int .i64 pb) ∧ Below wi.heap.size wi W) :=
            Lib.hid fun W hW => ⟨cell_beneath hW c0, cell_beneath hW c1, cell_beneath hW c2, cell_beneath hW c3, hW⟩
          have HOS : Hid (∀ W, (W.cell? ⟨g, j * 2, none⟩ = some (.int .u32 (xa : Int)) ∧ W.cell? ⟨g, j * 2 + 1, none⟩ = some (.int .i64 xb) ∧ W.cell? ⟨g, q * 2, none⟩ = some (.int .u32 (pa : Int)) ∧ W.cell? ⟨g, q * 2 + 1, none⟩ = some (.int .i64 pb) ∧ Below wi.heap.size wi W) →
              Calls Tryd.prog 25 #[.agg #[.int .u32 (xa : Int), .int .i64 xb], .agg #[.int .u32 (pa : Int), .int .i64 pb]] W fun e W' => e = .returned (.int .i64 (if Nt.lessN (xa, xb) (pa, pb) = true then -1 else if (xa, xb) = (pa, pb) then 0 else 1)) ∧ (W'.cell? ⟨g, j * 2, none⟩ = some (.int .u32 (xa : Int)) ∧ W'.cell? ⟨g, j * 2 + 1, none⟩ = some (.int .i64 xb) ∧ W'.cell? ⟨g, q * 2, none⟩ = some (.int .u32 (pa : Int)) ∧ W'.cell? ⟨g, q * 2 + 1, none⟩ = some (.int .i64 pb) ∧ Below wi.heap.size wi W')) :=
            Lib.hid fun W hW => (HOO.out W).mono fun e W' ⟨he, hb⟩ => ⟨he, HSS.out W' (hW.2.2.2.2.trans (hb.mono hW.2.2.2.2.size))⟩
          clear HOO
          cases hle : Nt.lessN (xa, xb) (pa, pb) with
          | true =>
            rw [hle, if_pos rfl] at HOS
            have HL3 := Lib.hid (HLs2.out hle)
            clear hle HLs2 HEnd
            go_upto_region 4 with fail
            go_region_held3 (fun W => W.cell? ⟨g, j * 2, none⟩ = some (.int .u32 (xa : Int)) ∧ W.cell? ⟨g, j * 2 + 1, none⟩ = some (.int .i64 xb) ∧ W.cell? ⟨g, q * 2, none⟩ = some (.int .u32 (pa : Int)) ∧ W.cell? ⟨g, q * 2 + 1, none⟩ = some (.int .i64 pb) ∧ Below wi.heap.size wi W) (first | assumption | (exact ⟨c0, c1, c2, c3, (Below.refl _ _).drew⟩))
              (first | (go_at_call 25; refine (HOS.out _ (by first | assumption | exact ⟨c0, c1, c2, c3, (Below.refl _ _).drew⟩)).mono ?_; rintro e w9 ⟨rfl, hS9⟩))
            have HR9 := Lib.hid (HRj.out.below hS9.2.2.2.2 HRj.out.lt)
            have HG9 := Lib.hid (HGj.out.trans (grown_below hS9.2.2.2.2))
            obtain ⟨d0, d1, d2, d3, _⟩ := hS9
            obtain ⟨f0, f1, f2, f3⟩ : w9.frozen? ⟨g, j * 2, none⟩ = false ∧ w9.frozen? ⟨g, j * 2 + 1, none⟩ = false ∧ w9.frozen? ⟨g, q * 2, none⟩ = false ∧ w9.frozen? ⟨g, q * 2 + 1, none⟩ = false := by
              have h := HR9.out
              unfold RowIs at h
              simp [World.frozen?, h]
            clear c0 c1 c2 c3
            go_upto_region 6 with fail
            go_region
            obtain ⟨hp1, hp2⟩ := HPut.out w9 HR9.out
            have HRq := Lib.hid (hp1.below (Below.refl _ _).drew hp1.lt)
            have HGq := Lib.hid (HG9.out.trans (hp2.trans (grown_below (Below.refl _ _).drew)))
            clear hp1 hp2
            go_wp2
            go_roundw
            case rel => exact ⟨q, by omega, by go_num, HRq, HL3, HGq⟩
            case measure => simp [intOf]; omega
          | false =>
            rw [hle, if_neg (by decide)] at HOS
            have HD := Lib.hid (HEnd.out hle)
            clear hle HLs2 HEnd HPut
            have hod : decide ((if ((xa, xb) : Nat × Int) = (pa, pb) then (0 : Int) else 1) < 0) = false := decide_eq_false (by split <;> omega)
            generalize (if ((xa, xb) : Nat × Int) = (pa, pb) then (0 : Int) else 1) = od at *
            go_upto_region 4 with fail
            go_region_held3 (fun W => W.cell? ⟨g, j * 2, none⟩ = some (.int .u32 (xa : Int)) ∧ W.cell? ⟨g, j * 2 + 1, none⟩ = some (.int .i64 xb) ∧ W.cell? ⟨g, q * 2, none⟩ = some (.int .u32 (pa : Int)) ∧ W.cell? ⟨g, q * 2 + 1, none⟩ = some (.int .i64 pb) ∧ Below wi.heap.size wi W) (first | assumption | (exact ⟨c0, c1, c2, c3, (Below.refl _ _).drew⟩))
              (first | (go_at_call 25; refine (HOS.out _ (by first | assumption | exact ⟨c0, c1, c2, c3, (Below.refl _ _).drew⟩)).mono ?_; rintro e w9 ⟨rfl, hS9⟩))
            have HRn := Lib.hid (show RowIs w9 g X (Nt.sortN (l.take (i + 1)) ++ l.drop (i + 1)) by
              rw [HNext.out, HD.out, ← HT.out]
              exact HRj.out.below hS9.2.2.2.2 HRj.out.lt)
            have HGn := Lib.hid (HGj.out.trans (grown_below hS9.2.2.2.2))
            clear hS9 c0 c1 c2 c3
            go_wp2
            go_roundw
            case rel => exact ⟨i + 1, by omega, .inl (by omega), by go_num, HRn, HGn⟩
            case measure => simp [intOf]; omega
    · have HRe := Lib.hid (show RowIs wo g X (Nt.sortN l) by
        have h := HR.out
        rw [List.take_of_length_le (by have := Hl.out; omega), List.drop_of_length_le (by have := Hl.out; omega), List.append_nil] at h
        exact h)
      have i1 : ¬ (i : Int) < (n : Int) := by omega
      go_wp2
      exact bodyPost_end (v := .tuple #[]) (by simp [results, Tryd.results65]) rfl ⟨rfl, HRe.out, HGr.out⟩
theorem nets_insertionSort_nil (d : Value) (w : World) :
    Calls Tryd.prog 65 #[d, .int .i64 0, .int .i64 0, .func (.func 25) #[] #[]] w fun e w' => e = .returned (.tuple #[]) ∧ w' = w := by
  go_enter Tryd.func65, Tryd.ntmps65
  go_wp2
  go_loopw [8] (fun v wr => v = .int .i64 1 ∧ wr = w) (fun _ _ => 0)
  case atStart => exact ⟨by go_num, rfl⟩
  case round =>
    obtain ⟨rfl, rfl⟩ := hrel
    go_wp2
    exact bodyPost_end (v := .tuple #[]) (by simp [results, Tryd.results65]) rfl ⟨rfl, rfl⟩
theorem nets_pdqsort_nil (d : Value) (u : Int) (w : World) :
    Calls Tryd.prog 41 #[d, .int .i64 0, .int .i64 0, .int .i64 u, .func (.func 25) #[] #[]] w fun e w' => e = .returned (.tuple #[]) ∧ w' = w := by
  have HS := Lib.hid (fun W => nets_insertionSort_nil d W)
  have hn0 : IntKind.i64.wrap ((0 : Int) - 0) = 0 := by rw [IntKind.wrap_i64]; omega
  go_enter Tryd.func41, Tryd.ntmps41
  go_wp2_with fail
  go_loopw [1, 2, 3] (fun va vb vc wr => va = .int .i64 0 ∧ vb = .int .i64 0 ∧ vc = .int .i64 u ∧ wr = w) (fun _ _ _ _ => 0)
  case atStart => exact ⟨rfl, rfl, rfl, rfl⟩
  case round =>
    obtain ⟨rfl, rfl, rfl, rfl⟩ := hrel
    go_wp2_with fail
    refine (HS.out wr).mono ?_
    rintro e w2 ⟨rfl, rfl⟩
    go_wp2
    exact bodyPost_ret (v := .tuple #[]) (by simp [results, Tryd.results41]) rfl ⟨rfl, rfl⟩
set_option maxHeartbeats 1600000 in
theorem nets_pdqsort (g n c : Nat) (u : Int) (l : List (Nat × Int)) (X : List Value) (w : World) (hg : RowIs w g X l) (hl : l.length = n) (hn : n ≤ 12) :
    Calls Tryd.prog 41 #[.slice (some ⟨g, 0, none⟩) n c, .int .i64 0, .int .i64 (n : Int), .int .i64 u, .func (.func 25) #[] #[]] w fun e w' => e = .returned (.tuple #[]) ∧ RowIs w' g X (Nt.sortN l) ∧ w.grownBy w' (some g) := by
  have HS := Lib.hid (nets_insertionSort g n c l X w hg hl hn)
  have hnm : (n : Int) ≤ 12 := by omega
  have hn0 : IntKind.i64.wrap ((n : Int) - 0) = (n : Int) := by rw [IntKind.wrap_i64]; omega
  have hn1 : IntKind.i64.wrap (n : Int) = (n : Int) := by rw [IntKind.wrap_i64]; omega
  clear hg hl hn
  go_enter Tryd.func41, Tryd.ntmps41
  go_wp2_with fail
  go_loopw [1, 2, 3] (fun va vb vc wr => va = .int .i64 0 ∧ vb = .int .i64 (n : Int) ∧ vc = .int .i64 u ∧ wr = w) (fun _ _ _ _ => 0)
  case atStart => exact ⟨rfl, rfl, rfl, rfl⟩
  case round =>
    obtain ⟨rfl, rfl, rfl, rfl⟩ := hrel
    go_wp2_with fail
    refine HS.out.mono ?_
    rintro e w2 ⟨rfl, hr2, hg2⟩
    have HR2 := Lib.hid hr2
    have HG2 := Lib.hid hg2
    clear hr2 hg2
    go_wp2
    exact bodyPost_ret (v := .tuple #[]) (by simp [results, Tryd.results41]) rfl ⟨rfl, HR2.out, HG2.out⟩
end Go.Proofs.YtjdflnnpamjjcaaDoor
