/- The contract of the laws' helper Packet: a packet of a raw thing. -/
import Derived.Test.YtfipnkledifilaaPackRef1
import Derived.Test.YtfipnkledifilaaPackCode4
import Derived.Test.YtfipnkledifilaaKeepPick
import Derived.Test.YtfipnkledifilaaRawVal
import Derived.Deep.RegionHeld3
import Derived.Lib.SplitLaws
import Derived.Laws.Rows
namespace Go.Proofs.Ytfipnkledifilaa
open Go.RowKit

def Pk.base (x : Nat) : Nat := if x = 1 then 167903232 else 167837696
def Pk.rawS (x : Nat) (a : Int) : Nat := Pk.base x + pick a 65536
def Pk.rawD (x : Nat) (b : Int) : Nat := Pk.base (1 - x) + pick b 65536
def Pk.rawB (s : ByteArray) : List UInt8 := s.data.toList.take 40
theorem Pk.rawS_lt (x : Nat) (a : Int) : Pk.rawS x a < 4294967296 := by
  have := pick_lt a 65536 (by decide)
  unfold Pk.rawS Pk.base; split <;> omega
theorem Pk.rawD_lt (x : Nat) (a : Int) : Pk.rawD x a < 4294967296 := by
  have := pick_lt a 65536 (by decide)
  unfold Pk.rawD Pk.base; split <;> omega
theorem Pk.rawB_length (s : ByteArray) : (Pk.rawB s).length ≤ 40 := by unfold Pk.rawB; rw [List.length_take]; omega

set_option maxRecDepth 10000 in
set_option maxHeartbeats 4000000 in
theorem keep_Packet (x : Nat) (hx : x = 0 ∨ x = 1) (k a b : Int) (s : ByteArray) (w : World) (a0 : -9223372036854775808 ≤ a) (a1 : a ≤ 9223372036854775807) (b0 : -9223372036854775808 ≤ b) (b1 : b ≤ 9223372036854775807) :
    Calls Try.prog 35 #[.int .i64 (x : Int), rawV k a b s] w fun e w' => ∃ ad m c, e = .returned (packV (Pk.rawS x a) (Pk.rawD x b) ad m c) ∧ BytesAt w' w'.heap.size ad m (Pk.rawB s) ∧ (ad = none → m = 0 ∧ c = 0) ∧ Below w.heap.size w w' := by
  have HA := Lib.hid (fun W => keep_picked a 65536 W a0 a1 (by decide) (by decide))
  have HB := Lib.hid (fun W => keep_picked b 65536 W b0 b1 (by decide) (by decide))
  have pa := pick_lt a 65536 (by decide)
  have pb := pick_lt b 65536 (by decide)
  obtain ⟨m, hm⟩ : ∃ m, m = min s.size 40 := ⟨_, rfl⟩
  have hms : m ≤ s.size := by omega
  have hmin : min (s.size : Int) 40 = (m : Int) := by omega
  have hTe : (s.extract 0 m).data.toList = Pk.rawB s := by
    rw [Lib.extract_from_zero, hm]
    unfold Pk.rawB
    by_cases h : s.size ≤ 40
    · rw [Nat.min_eq_left h, List.take_of_length_le (by simp), List.take_of_length_le (by simpa using h)]
    · rw [Nat.min_eq_right (by omega)]
  have hTs : (s.extract 0 m).size = m := by rw [ByteArray.size_extract]; omega
  obtain ⟨wf, cf, HR⟩ := conv_all (s.extract 0 m) m (Pk.rawB s) hTs hTe
  have mi : (m : Int) ≤ (s.size : Int) := by omega
  have mj : (0 : Int) ≤ (m : Int) := by omega
  have hT : ∃ T, s.extract 0 m = T := ⟨_, rfl⟩
  obtain ⟨T, hT⟩ := hT
  rw [hT] at HR
  have hR := fun W => (HR W).1
  have hR2 : ∀ W, Below W.heap.size W (wf W) := fun W => (HR W).2.2
  have HR3 := Lib.hid (fun W => (HR W).2.1)
  obtain ⟨w1, hw1⟩ : ∃ w1, w1 = (w.alloc (.cells #[.int .i64 k, .int .i64 a, .int .i64 b, .string s] 37)).alloc (.cells #[.int .u32 0, .int .u32 0, .slice none 0 0] 57) := ⟨_, rfl⟩
  have hA : Below w.heap.size w w1 := by rw [hw1]; exact ((Below.refl _ _).alloc (Nat.le_refl _) _).alloc (by simp) _
  have hz1 : w1.heap.size = w.heap.size + 2 := by rw [hw1]; simp
  have hP0 : w1.heap[w.heap.size]? = some (.cells #[.int .i64 k, .int .i64 a, .int .i64 b, .string s] 37 (0, 0)) := by rw [hw1, Below.heap_alloc _ _ _ (by simp)]; exact heap_alloc_last w _
  have hP1 : w1.heap[w.heap.size + 1]? = some (.cells #[.int .u32 0, .int .u32 0, .slice none 0 0] 57 (0, 0)) := by
    have := heap_alloc_last (w.alloc (.cells #[.int .i64 k, .int .i64 a, .int .i64 b, .string s] 37)) (.cells #[.int .u32 0, .int .u32 0, .slice none 0 0] 57)
    rw [show (w.alloc (.cells #[.int .i64 k, .int .i64 a, .int .i64 b, .string s] 37)).heap.size = w.heap.size + 1 by simp] at this
    rw [hw1]; exact this
  have hBf : Below w1.heap.size w1 (wf w1.drew) := ((Below.refl _ w1).drew).trans (hR2 w1.drew)
  have cells4 : ∀ W, Below w1.heap.size w1 W → W.cell? ⟨w.heap.size, 1, none⟩ = some (.int .i64 a) ∧ W.cell? ⟨w.heap.size, 2, none⟩ = some (.int .i64 b) ∧ W.cell? ⟨w.heap.size, 3, none⟩ = some (.string s) := fun W hW => by
    have h := (hW.block _ (by omega)).trans hP0
    refine ⟨?_, ?_, ?_⟩ <;> rw [cell_of_row _ _ _ _ _ _ h] <;> rfl
  obtain ⟨r1, r2, r3⟩ := cells4 w1 (Below.refl _ _)
  obtain ⟨t1, t2, t3⟩ := cells4 _ hBf
  have Rf := own_pack (base := w.heap.size) ((hBf.block _ (by omega)).trans hP1) (by omega)
  have R1 := own_pack (base := w.heap.size) hP1 (by omega)
  obtain ⟨q0, q1, q2⟩ := pack_row_cells Rf
  have f0 := Rf.frozenAt 0
  have f1 := Rf.frozenAt 1
  have f2 := Rf.frozenAt 2
  have HRs : Hid (∀ X Y : Nat, let W := (((wf w1.drew).setCell ⟨w.heap.size + 1, 0, none⟩ (.int .u32 (X : Int))).setCell ⟨w.heap.size + 1, 1, none⟩ (.int .u32 (Y : Int))).setCell ⟨w.heap.size + 1, 2, none⟩ (.slice (some ⟨w1.drew.heap.size, 0, none⟩) m (cf w1.drew))
      W.ownsRow w.heap.size 57 1 (.slice (some ⟨w.heap.size + 1, 0, none⟩) 3 3) 3 [.int .u32 (X : Int), .int .u32 (Y : Int), .slice (some ⟨w1.drew.heap.size, 0, none⟩) m (cf w1.drew)] ∧ BytesAt W W.heap.size (some ⟨w1.drew.heap.size, 0, none⟩) m (Pk.rawB s) ∧ Below w.heap.size w W) := Lib.hid (fun X Y => by
    refine ⟨pack_set Rf _ _ _, ?_, (((hA.trans (hBf.mono (by omega))).setCell (by show w.heap.size ≤ w.heap.size + 1; omega) _).setCell (by show w.heap.size ≤ w.heap.size + 1; omega) _).setCell (by show w.heap.size ≤ w.heap.size + 1; omega) _⟩
    refine ⟨(HR3.out w1.drew).1, fun hm0 => ?_⟩
    obtain ⟨b', o', e', hlt, hc⟩ := (HR3.out w1.drew).2 hm0
    cases e'
    refine ⟨_, _, rfl, by simpa using hlt, fun i hi => ?_⟩
    have hne : w1.drew.heap.size ≠ w.heap.size + 1 := by show w1.heap.size ≠ _; omega
    rw [← hc i hi]
    have hother : ∀ (V : World) (j : Nat) (u : Value) (i : Nat), (V.setCell ⟨w.heap.size + 1, j, none⟩ u).cell? ⟨w1.drew.heap.size, i, none⟩ = V.cell? ⟨w1.drew.heap.size, i, none⟩ := fun V j u i => by
      refine World.cell?_of_block (w := V) ?_
      exact heap_setCell_other _ _ _ _ hne
    rw [hother, hother, hother])
  have HSS : Hid (∀ (W : World) p q r, (W.cell? ⟨w.heap.size, 1, none⟩ = some (.int .i64 a) ∧ W.cell? ⟨w.heap.size, 2, none⟩ = some (.int .i64 b) ∧ W.cell? ⟨w.heap.size, 3, none⟩ = some (.string s)) → ((((W.setCell ⟨w.heap.size + 1, 0, none⟩ p).setCell ⟨w.heap.size + 1, 1, none⟩ q).setCell ⟨w.heap.size + 1, 2, none⟩ r).cell? ⟨w.heap.size, 1, none⟩ = some (.int .i64 a) ∧ (((W.setCell ⟨w.heap.size + 1, 0, none⟩ p).setCell ⟨w.heap.size + 1, 1, none⟩ q).setCell ⟨w.heap.size + 1, 2, none⟩ r).cell? ⟨w.heap.size, 2, none⟩ = some (.int .i64 b) ∧ (((W.setCell ⟨w.heap.size + 1, 0, none⟩ p).setCell ⟨w.heap.size + 1, 1, none⟩ q).setCell ⟨w.heap.size + 1, 2, none⟩ r).cell? ⟨w.heap.size, 3, none⟩ = some (.string s))) := Lib.hid (fun W p q r h => by
    have hother : ∀ (V : World) (j : Nat) (u : Value) (i : Nat), (V.setCell ⟨w.heap.size + 1, j, none⟩ u).cell? ⟨w.heap.size, i, none⟩ = V.cell? ⟨w.heap.size, i, none⟩ := fun V j u i => by
      refine World.cell?_of_block (w := V) ?_
      exact heap_setCell_other _ _ _ _ (by show w.heap.size ≠ w.heap.size + 1; omega)
    simp only [hother]
    exact h)
  have hS1 : (w1.drew.cell? ⟨w.heap.size, 1, none⟩ = some (.int .i64 a) ∧ w1.drew.cell? ⟨w.heap.size, 2, none⟩ = some (.int .i64 b) ∧ w1.drew.cell? ⟨w.heap.size, 3, none⟩ = some (.string s)) := cells4 w1.drew (Below.refl _ _).drew
  have hSf : ((wf w1.drew).cell? ⟨w.heap.size, 1, none⟩ = some (.int .i64 a) ∧ (wf w1.drew).cell? ⟨w.heap.size, 2, none⟩ = some (.int .i64 b) ∧ (wf w1.drew).cell? ⟨w.heap.size, 3, none⟩ = some (.string s)) := ⟨t1, t2, t3⟩
  clear r1 r2 r3 t1 t2 t3
  have HW := Lib.hid hw1
  clear hTe hTs HR hm hP0 hP1 hBf cells4 Rf R1 hA hz1 hw1
  unfold rawV
  rcases hx with rfl | rfl
  · have Hs : Hid (Pk.rawS 0 a = 167837696 + pick a 65536) := Lib.hid rfl
    have Hd : Hid (Pk.rawD 0 b = 167903232 + pick b 65536) := Lib.hid rfl
    generalize pick a 65536 = A at *
    generalize pick b 65536 = B at *
    have wA : IntKind.u32.wrap (A : Int) = (A : Int) := by rw [IntKind.wrap_u32]; omega
    have wB : IntKind.u32.wrap (B : Int) = (B : Int) := by rw [IntKind.wrap_u32]; omega
    have sA : IntKind.u32.wrap ((167837696 : Int) + (A : Int)) = ((167837696 + A : Nat) : Int) := by rw [IntKind.wrap_u32]; omega
    have sB : IntKind.u32.wrap ((167903232 : Int) + (B : Int)) = ((167903232 + B : Nat) : Int) := by rw [IntKind.wrap_u32]; omega
    obtain ⟨X, hX⟩ : ∃ X, X = 167837696 + A := ⟨_, rfl⟩
    obtain ⟨Y, hY⟩ : ∃ Y, Y = 167903232 + B := ⟨_, rfl⟩
    rw [← hX] at sA Hs
    rw [← hY] at sB Hd
    clear hX hY
    go_enter Try.func35, Try.ntmps35
    go_upto_region 4 with fail
    rw [← HW.out]
    go_region_held (fun W => W.cell? ⟨w.heap.size, 1, none⟩ = some (.int .i64 a) ∧ W.cell? ⟨w.heap.size, 2, none⟩ = some (.int .i64 b) ∧ W.cell? ⟨w.heap.size, 3, none⟩ = some (.string s)) (first | assumption | (exact HSS.out _ _ _ _ (by assumption)))
      (first
        | (go_at_call_of 42 (Value.int IntKind.i64 a); refine (HA.out _).mono ?_; rintro e w' ⟨rfl, rfl⟩)
        | (go_at_call_of 42 (Value.int IntKind.i64 b); refine (HB.out _).mono ?_; rintro e w' ⟨rfl, rfl⟩))
    all_goals
      go_wp2_with fail
      exact bodyPost_ret (pack_ret1 Try.results35 rfl (HRs.out X Y).1) rfl ⟨_, m, _, by rw [Hs.out, Hd.out]; rfl, (HRs.out X Y).2.1, (fun h => by cases h), (HRs.out X Y).2.2⟩
  · have Hs : Hid (Pk.rawS 1 a = 167903232 + pick a 65536) := Lib.hid rfl
    have Hd : Hid (Pk.rawD 1 b = 167837696 + pick b 65536) := Lib.hid rfl
    generalize pick a 65536 = A at *
    generalize pick b 65536 = B at *
    have wA : IntKind.u32.wrap (A : Int) = (A : Int) := by rw [IntKind.wrap_u32]; omega
    have wB : IntKind.u32.wrap (B : Int) = (B : Int) := by rw [IntKind.wrap_u32]; omega
    have sA : IntKind.u32.wrap ((167903232 : Int) + (A : Int)) = ((167903232 + A : Nat) : Int) := by rw [IntKind.wrap_u32]; omega
    have sB : IntKind.u32.wrap ((167837696 : Int) + (B : Int)) = ((167837696 + B : Nat) : Int) := by rw [IntKind.wrap_u32]; omega
    obtain ⟨X, hX⟩ : ∃ X, X = 167903232 + A := ⟨_, rfl⟩
    obtain ⟨Y, hY⟩ : ∃ Y, Y = 167837696 + B := ⟨_, rfl⟩
    rw [← hX] at sA Hs
    rw [← hY] at sB Hd
    clear hX hY
    go_enter Try.func35, Try.ntmps35
    go_upto_region 4 with fail
    rw [← HW.out]
    go_region_held (fun W => W.cell? ⟨w.heap.size, 1, none⟩ = some (.int .i64 a) ∧ W.cell? ⟨w.heap.size, 2, none⟩ = some (.int .i64 b) ∧ W.cell? ⟨w.heap.size, 3, none⟩ = some (.string s)) (first | assumption | (exact HSS.out _ _ _ _ (by assumption)))
      (first
        | (go_at_call_of 42 (Value.int IntKind.i64 a); refine (HA.out _).mono ?_; rintro e w' ⟨rfl, rfl⟩)
        | (go_at_call_of 42 (Value.int IntKind.i64 b); refine (HB.out _).mono ?_; rintro e w' ⟨rfl, rfl⟩))
    all_goals
      go_wp2_with fail
      exact bodyPost_ret (pack_ret1 Try.results35 rfl (HRs.out X Y).1) rfl ⟨_, m, _, by rw [Hs.out, Hd.out]; rfl, (HRs.out X Y).2.1, (fun h => by cases h), (HRs.out X Y).2.2⟩
end Go.Proofs.Ytfipnkledifilaa
