/- The contract of the reference's big: a number as so many bytes. -/
import Derived.Test.YtfgkodgdoplpbabRows
import Derived.Test.YtfgkodgdoplpbabMem3
import Derived.Test.YtfgkodgdoplpbabSealPlain
import Derived.Deep.OwnRows
namespace Go.Proofs.Ytfgkodgdoplpbab
open Go.RowKit

/-- The block that big makes. -/
def bigObj (n m : Nat) : Obj := .cells (bcells (Sl.beL n m)).toArray 5
def bigAt (n m j : Nat) : Obj := .cells (bcells (Sl.bePart n m j)).toArray 5
theorem and_255 (a : Nat) (ha : a ≤ 9223372036854775807) : bits .and .i64 (a : Int) 255 = ((a % 256 : Nat) : Int) := by
  have h := and_int a 255 ha (by omega)
  rw [show (255 : Nat) = 2 ^ 8 - 1 from rfl, Nat.and_two_pow_sub_one_eq_mod] at h
  exact h
theorem big_cell (w : World) (n m j i : Nat) (hi : i < m) : ∃ u, (w.alloc (bigAt n m j)).cell? ⟨w.heap.size, i, none⟩ = some u := by
  unfold bigAt
  rw [cell_of_row _ _ i _ _ _ (heap_alloc_last w _)]
  simp [bcells_length, Sl.bePart_length, hi]
theorem big_step (w : World) (n m j : Nat) (hj : j < m) : (w.alloc (bigAt n m j)).setCell ⟨w.heap.size, m - 1 - j, none⟩ (.int .u8 ((n / 256 ^ j % 256 : Nat) : Int)) = w.alloc (bigAt n m (j + 1)) := by
  unfold bigAt
  have e : (.int .u8 ((n / 256 ^ j % 256 : Nat) : Int) : Value) = .int .u8 ((UInt8.ofNat (n / 256 ^ j)).toNat : Int) := by rw [UInt8.toNat_ofNat']
  rw [World.setCell_alloc_new, e, ← Sl.bePart_step n m j hj, ← bcells_set]
  simp

set_option maxHeartbeats 400000 in
theorem ref_big (n m : Nat) (w : World) (hn : n ≤ 9223372036854775807) (hm : m ≤ 100) (hm0 : 0 < m) :
    Calls Try.prog 31 #[.int .i64 (n : Int), .int .i64 (m : Int)] w fun e w' => e = .returned (.slice (some ⟨w.heap.size, 0, none⟩) m m) ∧ w' = w.alloc (bigObj n m) := by
  obtain ⟨i0, hi, hz0, hz1, hz2⟩ := info_u8
  have hmk := fun W => run_make_row (P := Try.prog) 22 5 i0 (.int .u8 0) Try.underlying22 hi hz0 hz1 rfl .i64 .i64 m (by rw [hz2]; omega) (by omega) W
  rw [show (Obj.cells (madeCells #[Value.int .u8 0] m) 5) = bigAt n m 0 by
    unfold bigAt; rw [Sl.bePart_zero, bcells_zero, ← toList_madeCells_one]] at hmk
  clear hi hz0 hz1 hz2
  go_enter Try.func31, Try.ntmps31
  go_wp2
  clear hmk
  go_loopw [0, 6] (fun vn vi wr => ∃ j : Nat, j ≤ m ∧ vn = .int .i64 ((n / 256 ^ j : Nat) : Int) ∧ vi = .int .i64 ((m : Int) - 1 - (j : Int)) ∧ wr = w.alloc (bigAt n m j)) (fun _ vi _ => (intOf vi + 1).toNat)
  case atStart => exact ⟨0, Nat.zero_le _, by simp, by go_num, rfl⟩
  case round =>
    obtain ⟨j, hj, rfl, rfl, hwr⟩ := hrel
    have hq : n / 256 ^ j ≤ n := Nat.div_le_self _ _
    by_cases hlt : j < m
    · obtain ⟨u, hu⟩ := big_cell w n m j (m - 1 - j) (by omega)
      have ha := and_255 (n / 256 ^ j) (by omega)
      have Hs := Lib.hid (big_step w n m j hlt)
      have hd : n / 256 ^ j / 256 = n / 256 ^ (j + 1) := by rw [Nat.div_div_eq_div_mul, Nat.pow_succ]
      have hf : (w.alloc (bigAt n m j)).frozen? ⟨w.heap.size, m - 1 - j, none⟩ = false := World.frozen?_alloc_new w _ _ _
      rw [← hwr] at hu Hs hf
      have Hd := Lib.hid hd
      obtain ⟨k, hk⟩ : ∃ k : Nat, k = m - 1 - j := ⟨_, rfl⟩
      rw [← hk] at hu Hs hf
      have hkk : (m : Int) - 1 - (j : Int) = (k : Int) := by omega
      have hkm : k < m := by omega
      have Hk := Lib.hid hkk
      rw [hkk]
      clear hwr hd hk hkk
      have hq256 : (q0 : Nat) → q0 % 256 < 256 := fun q0 => Nat.mod_lt _ (by decide)
      have hb256 := hq256 (n / 256 ^ j)
      clear hq256
      obtain ⟨r, hr⟩ : ∃ r : Nat, r = n / 256 ^ j % 256 := ⟨_, rfl⟩
      rw [← hr] at ha hb256 Hs
      clear hr
      generalize n / 256 ^ j = q at *
      go_wp2
      go_roundw
      case rel => exact ⟨j + 1, by omega, by rw [← Hd.out]; simp, by have := Hk.out; go_num, Hs.out⟩
      case measure => simp [intOf]
    · obtain rfl : j = m := by omega
      subst hwr
      have Hb : Hid (w.alloc (bigAt n j j) = w.alloc (bigObj n j)) := Lib.hid (by unfold bigAt bigObj; rw [Sl.bePart_end])
      go_wp2
      go_ret
      exact ⟨rfl, Hb.out⟩
end Go.Proofs.Ytfgkodgdoplpbab
