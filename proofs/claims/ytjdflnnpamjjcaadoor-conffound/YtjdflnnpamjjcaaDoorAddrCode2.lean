/- The contract of strings.SplitN at one byte and five pieces at most, for texts of any size, in the shape that addr.Parse uses. -/
import Derived.Test.YtjdflnnpamjjcaaDoorRows
import Derived.Test.YtjdflnnpamjjcaaDoorMem
import Derived.Test.YtjdflnnpamjjcaaDoorAddrPlain3
import Derived.Test.YtjdflnnpamjjcaaDoorShelfNums
import Derived.Lib.Strings
import Derived.Laws.Strings3
import Derived.Deep.OwnRows
import Derived.Deep.LoopGhost
import Derived.Lib.Split
import Derived.Shelf.RegionOpenPlain
import Derived.Deep.WholeRow
namespace Go.Proofs.YtjdflnnpamjjcaaDoor
open Go.RowKit

theorem index_B (x : ByteArray) (c : UInt8) (W : World) :
    Calls Tryd.prog 35 #[.string x, .string ⟨#[c]⟩] W fun e w' => e = .returned (.int .i64 (Lib.indexB x ⟨#[c]⟩)) ∧ w' = W := by
  have e : Lib.indexB x ⟨#[c]⟩ = Lib.indexByte x.data.toList c := Lib.index_one _ _
  rw [e]
  exact Tryd.strings_Index_one x c W

theorem splitB_size (sep : ByteArray) (save : Nat) : ∀ (k : Nat) (s : ByteArray), ∀ p ∈ Lib.splitB sep save k s, p.size ≤ s.size := by
  intro k
  induction k with
  | zero => intro s p hp; rw [Lib.splitB_zero, List.mem_singleton] at hp; rw [hp]; exact Nat.le_refl _
  | succ k ih =>
    intro s p hp
    unfold Lib.splitB at hp
    split at hp
    · rw [List.mem_singleton] at hp; rw [hp]; exact Nat.le_refl _
    · rcases List.mem_cons.1 hp with rfl | hp
      · rw [ByteArray.size_extract]; omega
      · have := ih _ _ hp
        rw [ByteArray.size_extract] at this
        omega
set_option maxHeartbeats 4000000 in
set_option maxRecDepth 1000000 in
theorem lib_genSplit5 (s : ByteArray) (c : UInt8) (N : Nat) (w : World) (hs : s.size ≤ 281474976710656) (hN : N = min 5 (s.size + 1)) :
    Calls Tryd.prog 88 #[.string s, .string ⟨#[c]⟩, .int .i64 0, .int .i64 5] w fun e w' =>
      e = .returned (.slice (some ⟨w.heap.size, 0, none⟩) (Lib.splitB ⟨#[c]⟩ 0 (N - 1) s).length N) ∧ w' = w.alloc (.cells (Lib.cellsOf (Lib.splitB ⟨#[c]⟩ 0 (N - 1) s) N) 9) := by
  have hse : (⟨#[c]⟩ : ByteArray).toList.isEmpty = false := by rw [Lib.toList_data]; rfl
  have hN1 : 1 ≤ N := by omega
  have hN5 : N ≤ 5 := by omega
  have eN : min (5 : Int) ((s.size : Int) + 1) = (N : Int) := by omega
  have HI := Lib.hid (fun x W => index_B x c W)
  have hmk := run_make_row' (P := Tryd.prog) 51 9 (.string ByteArray.empty) 16 Tryd.underlying51 (by kernel_rfl) rfl .i64 .i64 N (by omega) (by omega)
  have hsz : (⟨#[c]⟩ : ByteArray).size = 1 := rfl
  generalize (⟨#[c]⟩ : ByteArray) = sep at *
  clear hN
  go_enter Tryd.func88, Tryd.ntmps88
  go_wp2
  clear hmk
  go_loopg [0, 10] (N - 1) (fun g s0 s10 wr => ∃ (done : List ByteArray) (rest : ByteArray), s0 = .string rest ∧ s10 = .int .i64 done.length ∧ done.length ≤ N - 1 ∧ g = N - 1 - done.length ∧ rest.size ≤ s.size ∧
    wr = w.alloc (.cells (Lib.cellsOf done N) 9) ∧ done ++ Lib.splitB sep 0 (N - 1 - done.length) rest = Lib.splitB sep 0 (N - 1) s)
  case atStart => exact ⟨[], s, rfl, rfl, Nat.zero_le _, rfl, Nat.le_refl _, by rw [Lib.cellsOf_nil], rfl⟩
  case round =>
    obtain ⟨done, rest, rfl, rfl, hd, rfl, hrs, rfl, hsp⟩ := hrel
    have hnext : (Lib.cellsOf done N)[done.length]? = some (.string ByteArray.empty) := Lib.cellsOf_next (by omega)
    have HS := Lib.hid hsp
    clear hsp
    have fin : Lib.splitB sep 0 (N - 1 - done.length) rest = [rest] → (Lib.splitB sep 0 (N - 1) s).length = done.length + 1 ∧ (Lib.cellsOf done N).setIfInBounds done.length (.string rest) = Lib.cellsOf (Lib.splitB sep 0 (N - 1) s) N := fun h => by
      have e := HS.out
      rw [h] at e
      rw [← e]
      exact ⟨by simp, Lib.cellsOf_set (by omega) rest⟩
    have Hf := Lib.hid fin
    clear fin
    by_cases hlt : done.length < N - 1
    · have hltz : ((done.length : Nat) : Int) < (N : Int) - 1 := by omega
      rcases Lib.indexB_cases rest sep with hix | ⟨i, hix, hroom⟩
      · have Hix := Lib.hid hix
        clear hix
        go_wp2_with fail
        refine (HI.out rest _).mono ?_
        rintro e w' ⟨rfl, hw⟩
        subst hw
        rw [Hix.out]
        go_wp2
        go_ret
        obtain ⟨f1, f2⟩ := Hf.out (Lib.splitB_miss sep 0 _ rest Hix.out)
        rw [f1, ← f2]
        exact ⟨by first | rfl | (congr 2 <;> omega), rfl⟩
      · have c0 : ¬ ((i : Int) < 0) := by omega
        have c2 : (i : Int) ≤ rest.size := by omega
        have c4 : ((i : Int) + 1) ≤ rest.size := by omega
        have Hix := Lib.hid hix
        clear hix
        go_wp2_with fail
        refine (HI.out rest _).mono ?_
        rintro e w' ⟨rfl, hw⟩
        subst hw
        rw [Hix.out]
        go_wp2
        go_roundg (N - 1 - (done.length + 1))
        case measure => omega
        case rel =>
          refine ⟨done ++ [rest.extract 0 (i + 0)], rest.extract (i + sep.size) rest.size, by rw [hsz], by simp, by simp; omega, by simp, by rw [ByteArray.size_extract]; omega, by rw [← Lib.cellsOf_set (by omega)]; rfl, ?_⟩
          rw [← HS.out, show N - 1 - done.length = (N - 1 - (done.length + 1)) + 1 by omega, Lib.splitB_hit sep 0 _ rest i Hix.out]
          simp
    · have hltz : ¬ (((done.length : Nat) : Int) < (N : Int) - 1) := by omega
      go_wp2
      go_ret
      obtain ⟨f1, f2⟩ := Hf.out (by rw [show N - 1 - done.length = 0 by omega]; rfl)
      rw [f1, ← f2]
      exact ⟨by first | rfl | (congr 2 <;> omega), rfl⟩

set_option maxHeartbeats 400000 in
/-- strings.SplitN(s, c, 5): the pieces in a new slice. -/
theorem lib_SplitN5 (s : ByteArray) (c : UInt8) (w : World) (hs : s.size ≤ 281474976710656) :
    Calls Tryd.prog 76 #[.string s, .string ⟨#[c]⟩, .int .i64 5] w fun e w' => ∃ (ps : List ByteArray) (N : Nat), e = .returned (.slice (some ⟨w.heap.size, 0, none⟩) ps.length N) ∧ Hid (ps.map (·.data.toList) = Lib.splitK [c] 0 (N - 1) s.data.toList) ∧ N = min 5 (s.size + 1) ∧
      (∀ p ∈ ps, p.size ≤ s.size) ∧ (∀ k (h : k < ps.length), w'.cell? ⟨w.heap.size, k, none⟩ = some (.string ps[k])) ∧ w'.heap.size = w.heap.size + 1 ∧ Below w.heap.size w w' := by
  have HG := lib_genSplit5 s c _ w hs rfl
  go_enter Tryd.func76, Tryd.ntmps76
  go_wp2_with fail
  refine HG.mono ?_
  rintro e w' ⟨rfl, hw⟩
  clear HG
  have hd := Lib.splitB_data (⟨#[c]⟩ : ByteArray) 0 (min 5 (s.size + 1) - 1) s
  have hle := Lib.splitB_length_le (⟨#[c]⟩ : ByteArray) 0 (min 5 (s.size + 1) - 1) s
  have hsl : s.data.toList.length = s.size := by simp
  have Hw := Lib.hid hw
  have Hd := Lib.hid hd
  have hpl : ∀ p ∈ Lib.splitB (⟨#[c]⟩ : ByteArray) 0 (min 5 (s.size + 1) - 1) s, p.size ≤ s.size := splitB_size _ _ _ _
  clear hw hd
  obtain ⟨ps, hps⟩ : ∃ ps, ps = Lib.splitB (⟨#[c]⟩ : ByteArray) 0 (min 5 (s.size + 1) - 1) s := ⟨_, rfl⟩
  rw [← hps] at Hw Hd hle hpl ⊢
  clear hps
  obtain ⟨N, hN⟩ : ∃ N, N = min 5 (s.size + 1) := ⟨_, rfl⟩
  rw [← hN] at Hw Hd hle ⊢
  have HN := Lib.hid hN
  have hN1 : 1 ≤ N := by omega
  clear hN
  go_wp2
  go_ret
  refine ⟨ps, N, rfl, Hd, HN.out, hpl, ?_, by rw [Hw.out]; simp, by rw [Hw.out]; exact (Below.refl _ _).alloc (Nat.le_refl _) _⟩
  intro k h
  rw [Hw.out, cell_of_row _ _ k _ _ _ (heap_alloc_last w _)]
  unfold Lib.cellsOf
  rw [List.getElem?_toArray, List.getElem?_append_left (by simpa using h), List.getElem?_map, List.getElem?_eq_getElem h]
  rfl
end Go.Proofs.YtjdflnnpamjjcaaDoor
