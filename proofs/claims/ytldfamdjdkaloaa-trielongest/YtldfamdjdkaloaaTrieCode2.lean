/- The contract of the program's trie.inOrder. -/
import Derived.Test.YtldfamdjdkaloaaNodeMem2
import Derived.Test.YtldfamdjdkaloaaNetCode4
import Derived.Test.YtldfamdjdkaloaaTriePlain5
import Derived.Deep.RegionHeld3
namespace Go.Proofs.Ytldfamdjdkaloaa
open Go.RowKit

theorem Tr.sorted_snoc {l : List Tr.Node} {j : Nat} (hj : j + 1 < l.length) (hs : Tr.sorted (l.take (j + 1))) (h : Tr.lt (Tr.nw (l[j]'(by omega))) (Tr.nw l[j + 1])) : Tr.sorted (l.take (j + 2)) := by
  rw [List.take_succ_eq_append_getElem hj]
  refine List.pairwise_append.2 ⟨hs, List.pairwise_singleton _ _, fun n hn m hm => ?_⟩
  obtain rfl : m = l[j + 1] := by simpa using hm
  obtain ⟨i, hi, rfl⟩ := List.mem_iff_getElem.1 hn
  rw [List.length_take] at hi
  rw [List.getElem_take]
  rcases Nat.eq_or_lt_of_le (show i ≤ j by omega) with rfl | hlt
  · exact h
  · have h1 := List.pairwise_iff_getElem.1 hs i j (by rw [List.length_take]; omega) (by rw [List.length_take]; omega) hlt
    rw [List.getElem_take, List.getElem_take] at h1
    exact Tr.lt_trans h1 h
theorem good_bits {a : Nat} {b : Int} (h : Nt.err a b = 0) : -9223372036854775808 ≤ b ∧ b ≤ 9223372036854775807 := by
  obtain ⟨h0, h1, _⟩ := Nt.err_zero h
  omega

set_option maxRecDepth 20000 in
set_option maxHeartbeats 3200000 in
theorem trie_inOrder (a : Option Addr) (n c : Nat) (l : List Tr.Node) (w : World) (h : NodesAt w w.heap.size a n l) (hg : ∀ x ∈ l, Tr.good (Tr.nw x)) (hn : n ≤ 3518437208883) :
    Calls Try.prog 38 #[.slice a n c] w fun e w' => ∃ r : Bool, e = .returned (.bool r) ∧ (r = true ↔ Tr.sorted l) ∧ Below w.heap.size w w' := by
  have Hh := Lib.hid h
  have Hg := Lib.hid hg
  have hl := h.1
  clear h hg
  go_enter Try.func38, Try.ntmps38
  go_wp2
  go_loopw [3] (fun i wr => ∃ j : Nat, j ≤ n ∧ i = .int .i64 ((j : Int) + 1) ∧ Hid (Tr.sorted (l.take (j + 1))) ∧ Below w.heap.size w wr) (fun i _ => n + 1 - (intOf i).toNat)
  case atStart =>
    refine ⟨0, Nat.zero_le _, rfl, Lib.hid ?_, Below.refl _ _⟩
    cases l with
    | nil => exact List.Pairwise.nil
    | cons x r => exact List.pairwise_singleton _ _
  case round =>
    obtain ⟨j, hj, rfl, Hs, hB⟩ := hrel
    have hsz := hB.size
    by_cases hlt : j + 1 < n
    · obtain ⟨b, off, rfl, hbl, hcs⟩ := (Hh.out.below hB).2 (by omega)
      obtain ⟨x0, x1, _, _⟩ := hcs j (by omega)
      obtain ⟨y0, y1, _, _⟩ := hcs (j + 1) (by omega)
      have gx := Hg.out _ (List.getElem_mem (show j < l.length by omega))
      have gy := Hg.out _ (List.getElem_mem (show j + 1 < l.length by omega))
      have hj1 : j + 1 < l.length := by omega
      have hj0 : j < l.length := by omega
      have Hsn := Lib.hid (fun (h : Tr.lt (Tr.nw l[j]) (Tr.nw l[j + 1])) => Tr.sorted_snoc hj1 Hs.out h)
      have Hgt := Lib.hid (fun (h : Tr.sorted l) => Tr.sorted_get h (show j < j + 1 by omega) (show j + 1 < l.length by omega))
      have Ho := Lib.hid (Tr.order_lt (x := Tr.nw l[j]) (y := Tr.nw l[j + 1]))
      clear hcs
      generalize l[j] = X at *
      generalize l[j + 1] = Y at *
      obtain ⟨xa, xb, xo, xs⟩ := X
      obtain ⟨ya, yb, yo, ys⟩ := Y
      have bx := good_bits gx.2
      have byy := good_bits gy.2
      have i1 : (j : Int) < (n : Int) := by omega
      have i2 : (j : Int) + 1 < (n : Int) := by omega
      have z1 : (0 : Int) ≤ (j : Int) := by omega
      have e3 : IntKind.i64.wrap (j : Int) = (j : Int) := IntWalk.i64_in _ (by omega)
      have e2 : ((j : Int) + 1).toNat = j + 1 := by omega
      have z2 : (0 : Int) ≤ (j : Int) + 1 := by omega
      have HS : Hid (∀ W, Below wr.heap.size wr W → (W.cell? ⟨b, off + j * 4, none⟩ = some (.int .u32 (xa : Int)) ∧ W.cell? ⟨b, off + j * 4 + 1, none⟩ = some (.int .i64 xb) ∧ W.cell? ⟨b, off + (j + 1) * 4, none⟩ = some (.int .u32 (ya : Int)) ∧ W.cell? ⟨b, off + (j + 1) * 4 + 1, none⟩ = some (.int .i64 yb) ∧ Below wr.heap.size wr W)) := Lib.hid fun W hW => by
        refine ⟨?_, ?_, ?_, ?_, hW⟩
        · rw [hW.cell (p := ⟨b, off + j * 4, none⟩) (by show b < wr.heap.size; omega)]; exact x0
        · rw [hW.cell (p := ⟨b, off + j * 4 + 1, none⟩) (by show b < wr.heap.size; omega)]; exact x1
        · rw [hW.cell (p := ⟨b, off + (j + 1) * 4, none⟩) (by show b < wr.heap.size; omega)]; exact y0
        · rw [hW.cell (p := ⟨b, off + (j + 1) * 4 + 1, none⟩) (by show b < wr.heap.size; omega)]; exact y1
      have HC : Hid (∀ W, (W.cell? ⟨b, off + j * 4, none⟩ = some (.int .u32 (xa : Int)) ∧ W.cell? ⟨b, off + j * 4 + 1, none⟩ = some (.int .i64 xb) ∧ W.cell? ⟨b, off + (j + 1) * 4, none⟩ = some (.int .u32 (ya : Int)) ∧ W.cell? ⟨b, off + (j + 1) * 4 + 1, none⟩ = some (.int .i64 yb) ∧ Below wr.heap.size wr W) → Calls Try.prog 59 #[.agg #[.int .u32 (xa : Int), .int .i64 xb], .agg #[.int .u32 (ya : Int), .int .i64 yb]] W fun e W' => e = .returned (.int .i64 (Nt.order xa xb ya yb)) ∧ (W'.cell? ⟨b, off + j * 4, none⟩ = some (.int .u32 (xa : Int)) ∧ W'.cell? ⟨b, off + j * 4 + 1, none⟩ = some (.int .i64 xb) ∧ W'.cell? ⟨b, off + (j + 1) * 4, none⟩ = some (.int .u32 (ya : Int)) ∧ W'.cell? ⟨b, off + (j + 1) * 4 + 1, none⟩ = some (.int .i64 yb) ∧ Below wr.heap.size wr W')) := Lib.hid fun W hW => (net_Compare xa xb ya yb W gx.1 gy.1 bx.1 bx.2 byy.1 byy.2).mono fun e W' ⟨he, hb⟩ => ⟨he, HS.out W' (hW.2.2.2.2.trans (hb.mono hW.2.2.2.2.size))⟩
      change Hid (Nt.order xa xb ya yb < 0 ↔ Tr.lt (xa, xb) (ya, yb)) at Ho
      change Hid (Tr.lt (xa, xb) (ya, yb) → _) at Hsn
      change Hid (_ → Tr.lt (xa, xb) (ya, yb)) at Hgt
      clear gx gy bx byy
      generalize Nt.order xa xb ya yb = R at *
      by_cases hR : R < 0
      · have hR' : decide (0 ≤ R) = false := decide_eq_false (by omega)
        go_wp2_with fail
        go_region_held3 (fun W => W.cell? ⟨b, off + j * 4, none⟩ = some (.int .u32 (xa : Int)) ∧ W.cell? ⟨b, off + j * 4 + 1, none⟩ = some (.int .i64 xb) ∧ W.cell? ⟨b, off + (j + 1) * 4, none⟩ = some (.int .u32 (ya : Int)) ∧ W.cell? ⟨b, off + (j + 1) * 4 + 1, none⟩ = some (.int .i64 yb) ∧ Below wr.heap.size wr W) (first | assumption | (exact ⟨x0, x1, y0, y1, (Below.refl _ _).drew⟩))
          (first
            | (go_at_call 59; refine (HC.out _ (by first | assumption | exact ⟨x0, x1, y0, y1, (Below.refl _ _).drew⟩)).mono ?_; rintro e w2 ⟨rfl, hS2⟩))
        all_goals
          have hB2 := hB.trans (hS2.2.2.2.2.mono hsz)
          go_wp2
          go_roundw
          case rel => exact ⟨j + 1, by omega, by go_num, Lib.hid (Hsn.out (Ho.out.1 hR)), hB2⟩
          case measure => simp [intOf]; omega
      · have hR' : decide (0 ≤ R) = true := decide_eq_true (by omega)
        go_wp2_with fail
        go_region_held3 (fun W => W.cell? ⟨b, off + j * 4, none⟩ = some (.int .u32 (xa : Int)) ∧ W.cell? ⟨b, off + j * 4 + 1, none⟩ = some (.int .i64 xb) ∧ W.cell? ⟨b, off + (j + 1) * 4, none⟩ = some (.int .u32 (ya : Int)) ∧ W.cell? ⟨b, off + (j + 1) * 4 + 1, none⟩ = some (.int .i64 yb) ∧ Below wr.heap.size wr W) (first | assumption | (exact ⟨x0, x1, y0, y1, (Below.refl _ _).drew⟩))
          (first
            | (go_at_call 59; refine (HC.out _ (by first | assumption | exact ⟨x0, x1, y0, y1, (Below.refl _ _).drew⟩)).mono ?_; rintro e w2 ⟨rfl, hS2⟩))
        all_goals
          have hB2 := hB.trans (hS2.2.2.2.2.mono hsz)
          go_wp2
          go_ret
          exact ⟨_, rfl, ⟨fun h => (by cases h), fun h => by have := Ho.out.2 (Hgt.out h); omega⟩, hB2⟩
    · have htk : l.take (j + 1) = l := List.take_of_length_le (by omega)
      rw [htk] at Hs
      clear Hh Hg
      go_wp2
      go_ret
      exact ⟨_, rfl, ⟨fun _ => Hs.out, fun _ => rfl⟩, hB⟩
end Go.Proofs.Ytldfamdjdkaloaa
