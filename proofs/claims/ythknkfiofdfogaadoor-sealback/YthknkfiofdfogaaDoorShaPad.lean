/- The contract of sha.Pad. -/
import Derived.Test.YthknkfiofdfogaaDoorRows
import Derived.Test.YthknkfiofdfogaaDoorShaPlain
import Derived.Test.YthknkfiofdfogaaDoorMem2
namespace Go.Proofs.YthknkfiofdfogaaDoor
open Go.RowKit

def Padded (bs : List UInt8) (w : World) (m k : Nat) (wr : World) : Prop :=
  wr.ownsRow w.heap.size 5 1 (.slice (some ⟨w.heap.size, 0, none⟩) m m) m (bcells (Sh.part bs k))

theorem splice_zero (bs : List UInt8) (m : Nat) : splice (bcells (List.replicate m 0)) 0 (bcells bs) = bcells (bs ++ List.replicate (m - bs.length) 0) := by
  unfold splice
  rw [List.take_zero, List.nil_append, Nat.zero_add, bcells_length, bcells_append]
  congr 1
  simp [bcells]
theorem padded_first {bs : List UInt8} {w wr : World} {n m : Nat} (hl : bs.length = n) (hm : m = n + 9 + Sh.zeros n) (hmax : m ≤ maxLen)
    (h : wr.heap[w.heap.size]? = some (.cells (splice (bcells (List.replicate m 0)) 0 (bcells bs)).toArray 5 (0, 0))) :
    Padded bs w m 0 (wr.setCell ⟨w.heap.size, n, none⟩ (.int .u8 128)) := by
  subst hl
  rw [splice_zero] at h
  have h1 := own_block (base := w.heap.size) (n := m) h (Nat.le_refl _) (by rw [bcells_length]; simp; omega) hmax
  have h2 := (h1.stored bs.length (.int .u8 128)).1
  have e : (Value.int .u8 128) = .int .u8 (((128 : UInt8).toNat : Nat) : Int) := rfl
  rw [e, bcells_set, hm, show bs.length + 9 + Sh.zeros bs.length - bs.length = 9 + Sh.zeros bs.length by omega, Sh.first_row, ← hm] at h2
  exact h2
theorem padded_step {bs : List UInt8} {w wr : World} {n m k j : Nat} (hl : bs.length = n) (hm : m = n + 9 + Sh.zeros n) (hk : k < 8) (hj : j = m - 1 - k) (h : Padded bs w m k wr) (x : Int) (hx : x = (((8 * n / 256 ^ k) % 256 : Nat) : Int)) :
    Padded bs w m (k + 1) (wr.setCell ⟨w.heap.size, j, none⟩ (.int .u8 x)) := by
  subst hl; subst hj
  have h2 := (h.stored (m - 1 - k) (.int .u8 x)).1
  have e : (Value.int .u8 x) = .int .u8 (((UInt8.ofNat (8 * bs.length / 256 ^ k)).toNat : Nat) : Int) := by rw [UInt8.toNat_ofNat', hx]
  rw [e, bcells_set] at h2
  unfold Padded
  rw [← Sh.part_step bs k hk, ← hm, e]
  exact h2

theorem len_byte (n k : Nat) : (n : Int) * 8 / 2 ^ (8 * k) % 256 = ((8 * n / 256 ^ k % 256 : Nat) : Int) := by
  have e : (256 : Nat) ^ k = 2 ^ (8 * k) := by rw [Nat.pow_mul]
  rw [e, Nat.mul_comm 8 n]; simp only [Int.natCast_emod, Int.natCast_ediv, Int.natCast_mul, Int.natCast_pow]; rfl

set_option maxHeartbeats 400000 in
theorem sha_Pad (a : Option Addr) (n c : Nat) (bs : List UInt8) (w : World) (h : BytesAt w w.heap.size a n bs) (hn : n ≤ maxLen) :
    Calls Tryd.prog 55 #[.slice a n c] w (SlicePost (Sh.padErr bs) (Sh.padOut bs) w) := by
  have hl := h.1
  unfold maxLen at hn
  by_cases h1 : 1000 < n
  · have He := Lib.hid (show Sh.padErr bs = 1 ∧ Sh.padOut bs = [] by unfold Sh.padErr Sh.padOut; rw [if_pos (by omega), if_pos (by omega)]; exact ⟨rfl, rfl⟩)
    clear h hl
    go_enter Tryd.func55, Tryd.ntmps55
    go_wp2
    go_ret2
    rw [He.out.1, He.out.2]
    exact slicePost_none (Below.refl _ _)
  · have He := Lib.hid (show Sh.padErr bs = 0 ∧ Sh.padOut bs = Sh.pad bs by unfold Sh.padErr Sh.padOut; rw [if_neg (by omega), if_neg (by omega)]; exact ⟨rfl, rfl⟩)
    obtain ⟨m, hm⟩ : ∃ m, m = n + 9 + Sh.zeros n := ⟨_, rfl⟩
    have hm2 : (n : Int) + 1 + 8 + -(((n : Int) + 1 + 8) % 64) % 64 = (m : Int) := by rw [hm]; unfold Sh.zeros; omega
    have hm3 : n + 9 ≤ m := by omega
    have hm4 : m ≤ 2000 := by rw [hm]; unfold Sh.zeros; omega
    have Hm := Lib.hid hm
    have Hl := Lib.hid hl
    have Hb := Lib.hid h
    have hm5 : (n : Int) < (m : Int) := by omega
    clear hm hl h
    obtain ⟨i0, hi, hz0, hz1, hz2⟩ := info_parts (P := Tryd.prog) (e := 5) (z := .int .u8 0) (size := 1) (bytes := 1) (by kernel_rfl)
    go_enter Tryd.func55, Tryd.ntmps55
    go_wp2_with (at_make; refine wpList_make_full _ rfl _ _ 22 rfl w.heap.size 5 i0 (.int .u8 0) 1 Tryd.underlying22 hi hz0 hz1 _ _ _ _ m rfl rfl ?m1 ?m2 ?m3 ?m4 ?m5 ?_)
    case m1 => first | rfl | omega
    case m2 => first | rfl | omega
    case m3 => rw [hz2]; omega
    case m4 => unfold maxLen; omega
    case m5 => exact Nat.le_refl _
    intro w1 hown hgrow
    have hbel : Below w.heap.size w w1 := (Below.refl _ _).grown hgrow (Nat.le_refl _) (fun k h => by cases h)
    rw [toList_madeCells_one, show List.replicate m (Value.int .u8 0) = bcells (List.replicate m 0) by rw [bcells_zero]] at hown
    have hwh := Lib.hid (own_whole hown)
    clear hown hgrow hi hz0 hz1 hz2
    go_wp2_with (with_reducible refine wpList_copy_splice (o := ⟨some 25, _, _, _, _, _⟩) rfl (.tmp 23) (.tmp 24) 22 22 rfl 5 Tryd.underlying22 (by kernel_rfl) _ _ _ _ _ _ rfl rfl w.heap.size 0 _ 5 hwh.out (bcells bs) ?p1 ?p2 ?p3 (bcells_one _) w.heap.size w hbel (Nat.le_refl _) ?_)
    case p1 => rw [bcells_length, Hl.out]; exact (Nat.min_eq_left (by omega)).symm
    case p2 =>
      intro hpos
      rw [bcells_length, Hl.out] at hpos
      obtain ⟨b, off, rfl, hbB, hc⟩ := Hb.out.2 hpos
      refine ⟨_, rfl, fun j v hv => ?_⟩
      have hj : j < bs.length := by have := (List.getElem?_eq_some_iff.1 hv).1; rwa [bcells_length] at this
      rw [bcells_get bs j hj] at hv
      rw [Addr.add_lit, hbel.cell (p := ⟨b, off + j, none⟩) hbB, hc j hj]
      exact hv
    case p3 => rw [bcells_length, bcells_length, Hl.out, List.length_replicate]; omega
    intro w2 hw2 hbel2
    have hP0 := Lib.hid (padded_first (w := w) (wr := w2) Hl.out Hm.out (by unfold maxLen; omega) hw2.out)
    have hw2o := own_block (base := w.heap.size) (n := m) hw2.out (Nat.le_refl _) (by rw [splice_zero, bcells_length, List.length_append, List.length_replicate, Hl.out]; omega) (by unfold maxLen; omega)
    obtain ⟨u, hu⟩ : ∃ u, w2.cell? ⟨w.heap.size, n, none⟩ = some u := by
      have hx := hw2o.1
      rw [hw2o.cellAt n (by omega)]
      exact ⟨_, List.getElem?_eq_getElem (by omega)⟩
    have hf := hw2o.frozenAt n
    clear hw2o hw2 hwh
    go_wp2
    clear hu hf
    go_loopw [34] (fun i wr => ∃ k : Nat, k ≤ 8 ∧ i = .int .i64 k ∧ Padded bs w m k wr ∧ Below w.heap.size w wr) (fun i _ => 8 - (intOf i).toNat)
    case atStart => exact ⟨0, Nat.zero_le _, rfl, hP0.out, hbel2.setCell (Nat.le_refl _) _⟩
    case round =>
      obtain ⟨k, hk, rfl, hP, hb⟩ := hrel
      by_cases hlt : k < 8
      · obtain ⟨j, hj⟩ : ∃ j, j = m - 1 - k := ⟨_, rfl⟩
        have hj1 : (m : Int) - 1 - (k : Int) = (j : Int) := by omega
        have hj2 : (j : Int) < (m : Int) := by omega
        obtain ⟨u, hu⟩ : ∃ u, wr.cell? ⟨w.heap.size, j, none⟩ = some u := by
          have hx := hP.1
          rw [hP.cellAt j (by omega)]
          exact ⟨_, List.getElem?_eq_getElem (by omega)⟩
        have hf := hP.frozenAt j
        have Hj := Lib.hid hj
        clear hj
        go_wp2
        go_roundw
        case rel => exact ⟨k + 1, by omega, by go_num, padded_step Hl.out Hm.out hlt Hj.out hP _ (len_byte n k), hb.setCell (Nat.le_refl _) _⟩
        case measure => simp [intOf]; omega
      · have hk8 : k = 8 := by omega
        subst hk8
        have HP := Lib.hid hP
        clear hP
        go_wp2
        go_ret2
        rw [He.out.1, He.out.2]
        refine ⟨_, _, _, rfl, ?_, hb⟩
        have hx := HP.out
        unfold Padded at hx
        rw [Sh.part_end] at hx
        rw [Sh.pad_length, Hl.out, ← Hm.out]
        exact hx
end Go.Proofs.YthknkfiofdfogaaDoor
