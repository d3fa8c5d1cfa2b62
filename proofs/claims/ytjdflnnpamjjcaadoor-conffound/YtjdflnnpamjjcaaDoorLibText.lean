/- The library's functions on texts, in the shape that my walks use; bytealg's limit. ShelfNums holds ONE SEAT's numbers. -/
import Derived.Test.YtjdflnnpamjjcaaDoorShelfNums
import Derived.Test.YtjdflnnpamjjcaaDoorMem
import Derived.Test.YtjdflnnpamjjcaaDoorAddrPlain2
import Derived.Lib.ConvBytes
import Derived.Deep.WholeRow
namespace Go.Proofs.YtjdflnnpamjjcaaDoor
open Go.RowKit

/-- bytealg's limit is some int. -/
def MaxTab (w : World) : Prop := ∃ m, w.cell? ⟨0, 0, none⟩ = some (.int .i64 m)
theorem cell_below {w w' : World} {b i : Nat} {v : Value} (hb : Below w.heap.size w w') (h : w.cell? ⟨b, i, none⟩ = some v) : w'.cell? ⟨b, i, none⟩ = some v := by
  rw [hb.cell (World.block_lt_of_cell? _ _ h)]
  exact h
theorem MaxTab.below {w w' : World} (h : MaxTab w) (hb : Below w.heap.size w w') : MaxTab w' := by
  obtain ⟨m, h1⟩ := h
  exact ⟨m, cell_below hb h1⟩
theorem Ad.parts_le (c : UInt8) : ∀ (l p : List UInt8), p ∈ Ad.parts c l → p.length ≤ l.length := by
  intro l
  induction l with
  | nil => intro p hp; simp [Ad.parts] at hp; rw [hp]; exact Nat.le_refl _
  | cons x r ih =>
    intro p hp
    rw [Ad.parts] at hp
    split at hp
    · rcases List.mem_cons.1 hp with rfl | hp
      · simp
      · have := ih p hp; simp; omega
    · split at hp
      · simp at hp; rw [hp]; simp
      · rename_i q ps hq
        rcases List.mem_cons.1 hp with rfl | hp
        · have := ih q (by rw [hq]; simp)
          simp; omega
        · have := ih p (by rw [hq]; simp [hp])
          simp; omega
/-- strings.Split at one byte. -/
theorem lib_Split (s : ByteArray) (c : UInt8) (w : World) (hs : s.size < 4294967281) (hT : MaxTab w) :
    Calls Tryd.prog 61 #[.string s, .string ⟨#[c]⟩] w fun e w' => ∃ ps : List ByteArray, e = .returned (.slice (some ⟨w.heap.size, 0, none⟩) ps.length ps.length) ∧ Hid (ps.map (·.data.toList) = Ad.parts c s.data.toList) ∧ ps.length ≤ s.size + 1 ∧
      (∀ p ∈ ps, p.size ≤ s.size) ∧ (∀ k (h : k < ps.length), w'.cell? ⟨w.heap.size, k, none⟩ = some (.string ps[k])) ∧ w'.heap.size = w.heap.size + 1 ∧ Below w.heap.size w w' := by
  obtain ⟨m, hm⟩ := hT
  refine (Tryd.strings_Split s ⟨#[c]⟩ m w hs hm (Nat.le_refl _)).mono ?_
  rintro e w' ⟨rfl, rfl⟩
  have hl := Lib.splitB_all (⟨#[c]⟩ : ByteArray) (Nat.le_refl _) 0 _ s rfl
  have hc := Lib.countB_le (⟨#[c]⟩ : ByteArray) (Nat.le_refl _) s.size s (Nat.le_refl _)
  have hd := Lib.splitB_data (⟨#[c]⟩ : ByteArray) 0 (Lib.countB s ⟨#[c]⟩) s
  have hp : (Lib.splitB (⟨#[c]⟩ : ByteArray) 0 (Lib.countB s ⟨#[c]⟩) s).map (·.data.toList) = Ad.parts c s.data.toList := by
    rw [hd, ← Ad.split_parts]
    rfl
  refine ⟨_, by rw [hl], Lib.hid hp, by rw [hl]; omega, ?_, ?_, by simp, (Below.refl _ _).alloc (Nat.le_refl _) _⟩
  · intro p hp'
    have hm := List.mem_map_of_mem (f := fun (x : ByteArray) => x.data.toList) hp'
    rw [hp] at hm
    have := Ad.parts_le c _ _ hm
    simpa using this
  · intro k h
    rw [cell_of_row _ _ k _ _ _ (heap_alloc_last w _), List.getElem?_toArray, List.getElem?_map, List.getElem?_eq_getElem h]
    rfl

/-- strings.Index at one byte. -/
theorem lib_Index (s : ByteArray) (c : UInt8) (w : World) :
    Calls Tryd.prog 35 #[.string s, .string ⟨#[c]⟩] w fun e w' => e = .returned (.int .i64 (Lib.indexByte s.data.toList c)) ∧ w' = w := Tryd.strings_Index_one s c w

/-- A text parted at a byte. -/
theorem cut_none (c : UInt8) (l : List UInt8) (h : Lib.indexByte l c < 0) : Lib.cut l [c] = (l, [], false) := by
  unfold Lib.cut
  rw [Lib.index_one, if_neg (by omega)]
theorem cut_some (c : UInt8) (l : List UInt8) (h : 0 ≤ Lib.indexByte l c) : Lib.cut l [c] = (l.take (Lib.indexByte l c).toNat, l.drop ((Lib.indexByte l c).toNat + 1), true) := by
  unfold Lib.cut
  rw [Lib.index_one, if_pos h]
  rfl
end Go.Proofs.YtjdflnnpamjjcaaDoor
