/- copy(b, s) of a string onto the bytes of a block. -/
import Derived.Test.YtfgkodgdoplpbabMem2
import Derived.Laws.CopyRow
namespace Go.Proofs.Ytfgkodgdoplpbab
open Go.RowKit

theorem copy_text (w : World) (g n c : Nat) (s : ByteArray) (old : List UInt8) (t ty : TypeId) (hg : w.heap[g]? = some (.cells (bcells old).toArray t (0, 0))) (hl : old.length = n) :
    (Builtin.copy_ #[22, 9] ty #[.slice (some ⟨g, 0, none⟩) n c, .string s]).run Try.prog w = .ok (goInt ((min s.size n : Nat) : Int)) (w.setRow g (bcells (s.data.toList.take n ++ old.drop s.size)).toArray) := by
  obtain ⟨i, hi, hz0, hz1, hz2⟩ := info_u8
  obtain ⟨m, hm⟩ : ∃ m, m = min s.size n := ⟨_, rfl⟩
  have hml : (bcells (s.data.toList.take m)).length = m := by
    rw [bcells_length, List.length_take]
    simp
    omega
  have hst := run_storeCells_at (P := Try.prog) g 0 t (bcells (s.data.toList.take m)) 0 (bcells old).toArray w hg (by rw [hml]; simp [bcells_length, hl]; omega) (by
    intro v hv
    simp only [bcells, List.mem_map] at hv
    obtain ⟨x, _, rfl⟩ := hv
    rfl)
  rw [hml] at hst
  have e : ((bcells old).toArray.toList.take (0 + 0) ++ bcells (s.data.toList.take m) ++ (bcells old).toArray.toList.drop (0 + 0 + m)) = bcells (s.data.toList.take n ++ old.drop s.size) := by
    have hs : s.data.toList.length = s.size := by simp
    simp only [Nat.add_zero, Nat.zero_add, List.take_zero, List.nil_append, bcells_append]
    rcases Nat.le_total s.size n with h | h
    · rw [hm, Nat.min_eq_left h, List.take_of_length_le (by omega), List.take_of_length_le (by omega)]
      simp [bcells, List.map_drop]
    · rw [hm, Nat.min_eq_right h, List.drop_eq_nil_of_le (by simp [bcells_length, hl]), List.drop_eq_nil_of_le (by omega)]
      simp [bcells]
  rw [e] at hst
  have hb : (bcells (s.data.toList.take m)) = List.take m (List.map (fun b : UInt8 => Value.int IntKind.u8 (b.toNat : Int)) s.data.toList) := by
    simp [bcells, List.map_take]
  rw [hb] at hst
  rw [← hm]
  simp [Builtin.copy_, run_underlying Try.underlying22, Builtin.lenOf, Builtin.firstCells, sizeOf, typeInfo, hi]
  have hmm : Nat.min s.size n = m := hm.symm
  simp only [hmm]
  rw [hst]
  simp [Result.andThen]
end Go.Proofs.Ytfgkodgdoplpbab
