/- The contracts of slices.BinarySearchFunc at nodes, trie.search and trie.checkBoth. -/
import Derived.Test.YtldfamdjdkaloaaTrieCode6
namespace Go.Proofs.Ytldfamdjdkaloaa
open Go.RowKit

set_option maxHeartbeats 800000 in
theorem trie_cmp (xa : Nat) (xb : Int) (xo : ByteArray) (xs : Int) (na : Nat) (nb : Int) (w : World) (hx : xa < 4294967296) (hn : na < 4294967296) (b0 : -9223372036854775808 ≤ xb) (b1 : xb ≤ 9223372036854775807) (d0 : -9223372036854775808 ≤ nb) (d1 : nb ≤ 9223372036854775807) :
    Calls Try.prog 64 #[.agg #[.int .u32 (xa : Int), .int .i64 xb, .string xo, .int .i64 xs], .agg #[.int .u32 (na : Int), .int .i64 nb]] w fun e w' => e = .returned (.int .i64 (Nt.order xa xb na nb)) ∧ Below w.heap.size w w' := by
  have H := Lib.hid (fun W => net_Compare xa xb na nb W hx hn b0 b1 d0 d1)
  unfold netV at H
  generalize Nt.order xa xb na nb = R at *
  go_enter Try.func64, Try.ntmps64
  go_wp2_with fail
  refine (H.out _).mono ?_
  rintro e w2 ⟨rfl, b2⟩
  have B2 := (((Below.refl w.heap.size w).alloc (Nat.le_refl _) (.cells #[.int .u32 (xa : Int), .int .i64 xb, .string xo, .int .i64 xs] 56)).alloc (by simp) (.cells #[.int .u32 (na : Int), .int .i64 nb] 28)).trans (b2.mono (by simp; omega))
  clear b2
  go_wp2
  go_ret
  exact ⟨rfl, B2⟩
/-- Where a network is among nodes in order, or would have to be. -/
structure Place (l : List Tr.Node) (x : Tr.Nw) (k : Nat) : Prop where
  le : k ≤ l.length
  low : ∀ i (_ : i < k) (h : i < l.length), Tr.lt (Tr.nw l[i]) x
  high : ∀ i (_ : k ≤ i) (h : i < l.length), ¬ Tr.lt (Tr.nw l[i]) x
/-- Where the search is. -/
structure SeekB (w : World) (l : List Tr.Node) (x : Tr.Nw) (i j : Nat) (wr : World) : Prop where
  le : i ≤ j
  up : j ≤ l.length
  low : ∀ q (_ : q < i) (h : q < l.length), Tr.lt (Tr.nw l[q]) x
  high : ∀ q (_ : j ≤ q) (h : q < l.length), ¬ Tr.lt (Tr.nw l[q]) x
  below : Below w.heap.size w wr
theorem Tr.lt_down {l : List Tr.Node} (hs : Tr.sorted l) {x : Tr.Nw} {i j : Nat} (hi : i ≤ j) (hj : j < l.length) (h : Tr.lt (Tr.nw l[j]) x) : Tr.lt (Tr.nw (l[i]'(by omega))) x := by
  rcases Nat.eq_or_lt_of_le hi with rfl | hi
  · exact h
  · exact Tr.lt_trans (Tr.sorted_get hs hi hj) h

set_option maxRecDepth 20000 in
set_option maxHeartbeats 3200000 in
theorem nodes_Search (a : Option Addr) (n c : Nat) (l : List Tr.Node) (na : Nat) (nb : Int) (w : World) (h : NodesAt w w.heap.size a n l) (hn : n ≤ 3518437208883) (hg : ∀ x ∈ l, Tr.good (Tr.nw x)) (hs : Tr.sorted l) (gn : Tr.good (na, nb)) :
    Calls Try.prog 63 #[.slice a n c, .agg #[.int .u32 (na : Int), .int .i64 nb], .func (.func 64) #[] #[]] w fun e w' => (∃ (k : Nat) (r : Bool), e = .returned (.tuple #[.int .i64 (k : Int), .bool r]) ∧ Place l (na, nb) k ∧ (r = true ↔ ∃ h : k < l.length, Tr.nw l[k] = (na, nb))) ∧ Below w.heap.size w w' := by
  obtain ⟨w1, hw1⟩ : ∃ w1, w1 = w.alloc (.cells #[.int .u32 (na : Int), .int .i64 nb] 28) := ⟨_, rfl⟩
  have hA : Below w.heap.size w w1 := by rw [hw1]; exact (Below.refl _ _).alloc (Nat.le_refl _) _
  have hz1 : w.heap.size < w1.heap.size := by rw [hw1]; simp
  have hN1 : NetIn w1 w.heap.size na nb := by rw [hw1]; exact heap_alloc_last w _
  obtain ⟨g4, hg4⟩ : ∃ g4, g4 = w.heap.size := ⟨_, rfl⟩
  have Hh := Lib.hid ((h.below hA).up (show w.heap.size ≤ w1.heap.size by omega))
  have Hg := Lib.hid hg
  have Hs := Lib.hid hs
  have HN1 := Lib.hid hN1
  have hl := h.1
  have bn := good_bits gn.2
  clear h hg hs hN1
  go_enter Try.func63, Try.ntmps63
  go_wp2
  rw [← hw1, ← hg4]
  rw [← hg4] at HN1
  have hg41 : g4 < w1.heap.size := by omega
  clear hw1 hg4
  go_loopw [9, 10] (fun vi vj wr => ∃ i j : Nat, vi = .int .i64 i ∧ vj = .int .i64 j ∧ Hid (SeekB w1 l (na, nb) i j wr)) (fun vi vj _ => (intOf vj - intOf vi).toNat)
  case atStart => exact ⟨0, n, rfl, rfl, Lib.hid ⟨Nat.zero_le _, by omega, fun x hx => by omega, fun x hx h => by omega, Below.refl _ _⟩⟩
  case round =>
    obtain ⟨i, j, rfl, rfl, HK⟩ := hrel
    obtain ⟨wo, hwo⟩ : ∃ wo, wo = wr := ⟨_, rfl⟩
    subst hwo
    have hij := HK.out.le
    have hjn := HK.out.up
    have hB := HK.out.below
    have hsz := hB.size
    obtain ⟨t0, t1⟩ := two_cells (HN1.out.below hB).own
    by_cases hlt : i < j
    · obtain ⟨m, hm⟩ : ∃ m, m = (i + j) / 2 := ⟨_, rfl⟩
      have hm1 : i ≤ m := by omega
      have hm2 : m < j := by omega
      have hml : m < l.length := by omega
      obtain ⟨b, off, rfl, hbl, hcs⟩ := (Hh.out.below hB).2 (by omega)
      obtain ⟨x0, x1, x2, x3⟩ := hcs m hml
      have gx := Hg.out _ (List.getElem_mem hml)
      have bx := good_bits gx.2
      have Ho := Lib.hid (Tr.order_lt (x := Tr.nw l[m]) (y := (na, nb)))
      have HL := Lib.hid (fun (hh : Tr.lt (Tr.nw l[m]) (na, nb)) => (⟨by omega, hjn, fun q hq h => Tr.lt_down Hs.out (show q ≤ m by omega) hml hh, HK.out.high⟩ : m + 1 ≤ j ∧ j ≤ l.length ∧ (∀ q (_ : q < m + 1) (h : q < l.length), Tr.lt (Tr.nw l[q]) (na, nb)) ∧ ∀ q (_ : j ≤ q) (h : q < l.length), ¬ Tr.lt (Tr.nw l[q]) (na, nb)))
      have HH := Lib.hid (fun (hh : ¬ Tr.lt (Tr.nw l[m]) (na, nb)) => (⟨hm1, by omega, HK.out.low, fun q hq h hc => hh (Tr.lt_down Hs.out hq h hc)⟩ : i ≤ m ∧ m ≤ l.length ∧ (∀ q (_ : q < i) (h : q < l.length), Tr.lt (Tr.nw l[q]) (na, nb)) ∧ ∀ q (_ : m ≤ q) (h : q < l.length), ¬ Tr.lt (Tr.nw l[q]) (na, nb)))
      have e1 : IntKind.i64.wrap ((i : Int) + (j : Int)) = (i : Int) + (j : Int) := IntWalk.i64_in _ (by omega)
      have e2 : ((i : Int) + (j : Int)) / 2 = (m : Int) := by omega
      have i1 : (m : Int) < (n : Int) := by omega
      have i0 : (0 : Int) ≤ (m : Int) := by omega
      clear hm hcs
      generalize l[m] = X at *
      obtain ⟨xa, xb, xo, xs⟩ := X
      change Hid (Nt.order xa xb na nb < 0 ↔ Tr.lt (xa, xb) (na, nb)) at Ho
      change Hid (Tr.lt (xa, xb) (na, nb) → _) at HL
      change Hid (¬ Tr.lt (xa, xb) (na, nb) → _) at HH
      have HS : Hid (∀ W, Below wo.heap.size wo W → (W.cell? ⟨b, off + m * 4, none⟩ = some (.int .u32 (xa : Int)) ∧ W.cell? ⟨b, off + m * 4 + 1, none⟩ = some (.int .i64 xb) ∧ W.cell? ⟨b, off + m * 4 + 2, none⟩ = some (.string xo) ∧ W.cell? ⟨b, off + m * 4 + 3, none⟩ = some (.int .i64 xs) ∧ W.cell? ⟨g4, 0, none⟩ = some (.int .u32 (na : Int)) ∧ W.cell? ⟨g4, 1, none⟩ = some (.int .i64 nb) ∧ Below wo.heap.size wo W)) := Lib.hid fun W hW => by
        refine ⟨?_, ?_, ?_, ?_, ?_, ?_, hW⟩
        · rw [hW.cell (p := ⟨b, off + m * 4, none⟩) (by show b < wo.heap.size; omega)]; exact x0
        · rw [hW.cell (p := ⟨b, off + m * 4 + 1, none⟩) (by show b < wo.heap.size; omega)]; exact x1
        · rw [hW.cell (p := ⟨b, off + m * 4 + 2, none⟩) (by show b < wo.heap.size; omega)]; exact x2
        · rw [hW.cell (p := ⟨b, off + m * 4 + 3, none⟩) (by show b < wo.heap.size; omega)]; exact x3
        · rw [hW.cell (p := ⟨g4, 0, none⟩) (by show g4 < wo.heap.size; omega)]; exact t0
        · rw [hW.cell (p := ⟨g4, 1, none⟩) (by show g4 < wo.heap.size; omega)]; exact t1
      have HC : Hid (∀ W, (W.cell? ⟨b, off + m * 4, none⟩ = some (.int .u32 (xa : Int)) ∧ W.cell? ⟨b, off + m * 4 + 1, none⟩ = some (.int .i64 xb) ∧ W.cell? ⟨b, off + m * 4 + 2, none⟩ = some (.string xo) ∧ W.cell? ⟨b, off + m * 4 + 3, none⟩ = some (.int .i64 xs) ∧ W.cell? ⟨g4, 0, none⟩ = some (.int .u32 (na : Int)) ∧ W.cell? ⟨g4, 1, none⟩ = some (.int .i64 nb) ∧ Below wo.heap.size wo W) → Calls Try.prog 64 #[.agg #[.int .u32 (xa : Int), .int .i64 xb, .string xo, .int .i64 xs], .agg #[.int .u32 (na : Int), .int .i64 nb]] W fun e W' => e = .returned (.int .i64 (Nt.order xa xb na nb)) ∧ (W'.cell? ⟨b, off + m * 4, none⟩ = some (.int .u32 (xa : Int)) ∧ W'.cell? ⟨b, off + m * 4 + 1, none⟩ = some (.int .i64 xb) ∧ W'.cell? ⟨b, off + m * 4 + 2, none⟩ = some (.string xo) ∧ W'.cell? ⟨b, off + m * 4 + 3, none⟩ = some (.int .i64 xs) ∧ W'.cell? ⟨g4, 0, none⟩ = some (.int .u32 (na : Int)) ∧ W'.cell? ⟨g4, 1, none⟩ = some (.int .i64 nb) ∧ Below wo.heap.size wo W')) := Lib.hid fun W hW => (trie_cmp xa xb xo xs na nb W gx.1 gn.1 bx.1 bx.2 bn.1 bn.2).mono fun e W' ⟨he, hb⟩ => ⟨he, HS.out W' (hW.2.2.2.2.2.2.trans (hb.mono hW.2.2.2.2.2.2.size))⟩
      clear gx bx
      generalize Nt.order xa xb na nb = R at *
      by_cases hR : R < 0
      · have hR' : decide (R < 0) = true := decide_eq_true hR
        have HL' := HL.out (Ho.out.1 hR)
        have HL2 := Lib.hid HL'
        clear HL HH Ho HL'
        go_wp2_with fail
        go_region_held3 (fun W => (W.cell? ⟨b, off + m * 4, none⟩ = some (.int .u32 (xa : Int)) ∧ W.cell? ⟨b, off + m * 4 + 1, none⟩ = some (.int .i64 xb) ∧ W.cell? ⟨b, off + m * 4 + 2, none⟩ = some (.string xo) ∧ W.cell? ⟨b, off + m * 4 + 3, none⟩ = some (.int .i64 xs) ∧ W.cell? ⟨g4, 0, none⟩ = some (.int .u32 (na : Int)) ∧ W.cell? ⟨g4, 1, none⟩ = some (.int .i64 nb) ∧ Below wo.heap.size wo W)) (first | assumption | (exact ⟨x0, x1, x2, x3, t0, t1, (Below.refl _ _).drew⟩))
          (first
            | (go_at_call 64; refine (HC.out _ (by first | assumption | exact ⟨x0, x1, x2, x3, t0, t1, (Below.refl _ _).drew⟩)).mono ?_; rintro e w2 ⟨rfl, hS2⟩))
        all_goals
          have hB2 := hB.trans (hS2.2.2.2.2.2.2.mono hsz)
          go_wp2
          go_roundw
          case rel => exact ⟨m + 1, j, by go_num, rfl, Lib.hid ⟨HL2.out.1, HL2.out.2.1, HL2.out.2.2.1, HL2.out.2.2.2, hB2⟩⟩
          case measure => simp [intOf]; omega
      · have hR' : decide (R < 0) = false := decide_eq_false hR
        have HH' := HH.out (fun h => hR (Ho.out.2 h))
        have HH2 := Lib.hid HH'
        clear HL HH Ho HH'
        go_wp2_with fail
        go_region_held3 (fun W => (W.cell? ⟨b, off + m * 4, none⟩ = some (.int .u32 (xa : Int)) ∧ W.cell? ⟨b, off + m * 4 + 1, none⟩ = some (.int .i64 xb) ∧ W.cell? ⟨b, off + m * 4 + 2, none⟩ = some (.string xo) ∧ W.cell? ⟨b, off + m * 4 + 3, none⟩ = some (.int .i64 xs) ∧ W.cell? ⟨g4, 0, none⟩ = some (.int .u32 (na : Int)) ∧ W.cell? ⟨g4, 1, none⟩ = some (.int .i64 nb) ∧ Below wo.heap.size wo W)) (first | assumption | (exact ⟨x0, x1, x2, x3, t0, t1, (Below.refl _ _).drew⟩))
          (first
            | (go_at_call 64; refine (HC.out _ (by first | assumption | exact ⟨x0, x1, x2, x3, t0, t1, (Below.refl _ _).drew⟩)).mono ?_; rintro e w2 ⟨rfl, hS2⟩))
        all_goals
          have hB2 := hB.trans (hS2.2.2.2.2.2.2.mono hsz)
          go_wp2
          go_roundw
          case rel => exact ⟨i, m, rfl, rfl, Lib.hid ⟨HH2.out.1, HH2.out.2.1, HH2.out.2.2.1, HH2.out.2.2.2, hB2⟩⟩
          case measure => simp [intOf]; omega
    · obtain rfl : i = j := by omega
      have HP : Hid (Place l (na, nb) i) := Lib.hid ⟨hjn, HK.out.low, HK.out.high⟩
      have hBw := hA.trans (hB.mono (by omega))
      by_cases hin : i < n
      · obtain ⟨m, hm⟩ : ∃ m, m = i := ⟨_, rfl⟩
        have hml : m < l.length := by omega
        obtain ⟨b, off, rfl, hbl, hcs⟩ := (Hh.out.below hB).2 (by omega)
        obtain ⟨x0, x1, x2, x3⟩ := hcs m hml
        have gx := Hg.out _ (List.getElem_mem hml)
        have bx := good_bits gx.2
        have Ho : Hid (Nt.order l[m].a l[m].b na nb = 0 ↔ ∃ h : m < l.length, Tr.nw l[m] = (na, nb)) := Lib.hid ⟨fun hh => ⟨hml, Tr.order_zero.1 hh⟩, fun ⟨_, hh⟩ => Tr.order_zero.2 hh⟩
        rw [← hm] at HP hin ⊢
        have i1 : (m : Int) < (n : Int) := by omega
        have i0 : (0 : Int) ≤ (m : Int) := by omega
        have hd : decide ((m : Int) < (n : Int)) = true := decide_eq_true i1
        clear hm hcs HK hij
        have HEx : Hid (∀ r : Bool, (r = true ↔ Nt.order l[m].a l[m].b na nb = 0) → (r = true ↔ ∃ h : m < l.length, Tr.nw l[m] = (na, nb))) := Lib.hid fun r hr => hr.trans Ho.out
        clear Ho
        generalize l[m] = X at *
        obtain ⟨xa, xb, xo, xs⟩ := X
        change Hid (∀ r : Bool, (r = true ↔ Nt.order xa xb na nb = 0) → (r = true ↔ ∃ h : m < l.length, Tr.nw l[m] = (na, nb))) at HEx
        have HS : Hid (∀ W, Below wo.heap.size wo W → (W.cell? ⟨b, off + m * 4, none⟩ = some (.int .u32 (xa : Int)) ∧ W.cell? ⟨b, off + m * 4 + 1, none⟩ = some (.int .i64 xb) ∧ W.cell? ⟨b, off + m * 4 + 2, none⟩ = some (.string xo) ∧ W.cell? ⟨b, off + m * 4 + 3, none⟩ = some (.int .i64 xs) ∧ W.cell? ⟨g4, 0, none⟩ = some (.int .u32 (na : Int)) ∧ W.cell? ⟨g4, 1, none⟩ = some (.int .i64 nb) ∧ Below wo.heap.size wo W)) := Lib.hid fun W hW => by
          refine ⟨?_, ?_, ?_, ?_, ?_, ?_, hW⟩
          · rw [hW.cell (p := ⟨b, off + m * 4, none⟩) (by show b < wo.heap.size; omega)]; exact x0
          · rw [hW.cell (p := ⟨b, off + m * 4 + 1, none⟩) (by show b < wo.heap.size; omega)]; exact x1
          · rw [hW.cell (p := ⟨b, off + m * 4 + 2, none⟩) (by show b < wo.heap.size; omega)]; exact x2
          · rw [hW.cell (p := ⟨b, off + m * 4 + 3, none⟩) (by show b < wo.heap.size; omega)]; exact x3
          · rw [hW.cell (p := ⟨g4, 0, none⟩) (by show g4 < wo.heap.size; omega)]; exact t0
          · rw [hW.cell (p := ⟨g4, 1, none⟩) (by show g4 < wo.heap.size; omega)]; exact t1
        have HC : Hid (∀ W, (W.cell? ⟨b, off + m * 4, none⟩ = some (.int .u32 (xa : Int)) ∧ W.cell? ⟨b, off + m * 4 + 1, none⟩ = some (.int .i64 xb) ∧ W.cell? ⟨b, off + m * 4 + 2, none⟩ = some (.string xo) ∧ W.cell? ⟨b, off + m * 4 + 3, none⟩ = some (.int .i64 xs) ∧ W.cell? ⟨g4, 0, none⟩ = some (.int .u32 (na : Int)) ∧ W.cell? ⟨g4, 1, none⟩ = some (.int .i64 nb) ∧ Below wo.heap.size wo W) → Calls Try.prog 64 #[.agg #[.int .u32 (xa : Int), .int .i64 xb, .string xo, .int .i64 xs], .agg #[.int .u32 (na : Int), .int .i64 nb]] W fun e W' => e = .returned (.int .i64 (Nt.order xa xb na nb)) ∧ (W'.cell? ⟨b, off + m * 4, none⟩ = some (.int .u32 (xa : Int)) ∧ W'.cell? ⟨b, off + m * 4 + 1, none⟩ = some (.int .i64 xb) ∧ W'.cell? ⟨b, off + m * 4 + 2, none⟩ = some (.string xo) ∧ W'.cell? ⟨b, off + m * 4 + 3, none⟩ = some (.int .i64 xs) ∧ W'.cell? ⟨g4, 0, none⟩ = some (.int .u32 (na : Int)) ∧ W'.cell? ⟨g4, 1, none⟩ = some (.int .i64 nb) ∧ Below wo.heap.size wo W')) := Lib.hid fun W hW => (trie_cmp xa xb xo xs na nb W gx.1 gn.1 bx.1 bx.2 bn.1 bn.2).mono fun e W' ⟨he, hb⟩ => ⟨he, HS.out W' (hW.2.2.2.2.2.2.trans (hb.mono hW.2.2.2.2.2.2.size))⟩
        clear gx bx
        generalize Nt.order xa xb na nb = R at *
        go_wp2_with fail
        go_region_held3 (fun W => (W.cell? ⟨b, off + m * 4, none⟩ = some (.int .u32 (xa : Int)) ∧ W.cell? ⟨b, off + m * 4 + 1, none⟩ = some (.int .i64 xb) ∧ W.cell? ⟨b, off + m * 4 + 2, none⟩ = some (.string xo) ∧ W.cell? ⟨b, off + m * 4 + 3, none⟩ = some (.int .i64 xs) ∧ W.cell? ⟨g4, 0, none⟩ = some (.int .u32 (na : Int)) ∧ W.cell? ⟨g4, 1, none⟩ = some (.int .i64 nb) ∧ Below wo.heap.size wo W)) (first | assumption | (exact ⟨x0, x1, x2, x3, t0, t1, (Below.refl _ _).drew⟩))
            (first
              | (go_at_call 64; refine (HC.out _ (by first | assumption | exact ⟨x0, x1, x2, x3, t0, t1, (Below.refl _ _).drew⟩)).mono ?_; rintro e w2 ⟨rfl, hS2⟩))
        all_goals
          have hB2 := hBw.trans (hS2.2.2.2.2.2.2.mono (show w.heap.size ≤ wo.heap.size by omega))
          go_wp2
          go_ret2
          exact ⟨⟨m, R == 0, rfl, HP.out, HEx.out (R == 0) beq_iff_eq⟩, hB2⟩
      · have hd : decide ((i : Int) < (n : Int)) = false := decide_eq_false (by omega)
        have HEx : Hid (¬ ∃ h : i < l.length, Tr.nw l[i] = (na, nb)) := Lib.hid fun ⟨h, _⟩ => by omega
        clear HK Hh
        go_wp2_with fail
        go_quiet (fail)
        go_wp2
        go_ret2
        exact ⟨⟨i, _, rfl, HP.out, ⟨fun h => (by cases h), fun h => absurd h HEx.out⟩⟩, belowDrewN hBw _⟩
end Go.Proofs.Ytldfamdjdkaloaa
