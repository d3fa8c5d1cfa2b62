/- The contract of the reference's ShaPad. -/
import Derived.Test.YthknkfiofdfogaaDoorRows
import Derived.Test.YthknkfiofdfogaaDoorShaPlain
import Derived.Test.YthknkfiofdfogaaDoorMem2
namespace Go.Proofs.YthknkfiofdfogaaDoor
open Go.RowKit

def Gath (bs : List UInt8) (w : World) (k : Nat) (v : Value) (wr : World) : Prop :=
  ∃ a n c, v = .slice a n c ∧ n = bs.length + 1 + k ∧ wr.ownsRow w.heap.size 5 1 (.slice a n c) n (bcells (Sh.gather bs k))
theorem gath_cells_start (bs : List UInt8) : bcells bs ++ [Value.int .u8 128] = bcells (Sh.gather bs 0) := by
  simp [bcells, Sh.gather]
theorem gath_cells_step (bs : List UInt8) (k : Nat) : bcells (Sh.gather bs k) ++ [Value.int .u8 0] = bcells (Sh.gather bs (k + 1)) := by
  rw [← Sh.gather_snoc, bcells_append]; rfl
theorem gath_cells_end (bs : List UInt8) (n : Nat) (hl : bs.length = n) (h : n ≤ 1000) : bcells (Sh.gather bs (Sh.zeros n)) ++ [.int .u8 0, .int .u8 0, .int .u8 0, .int .u8 0, .int .u8 ((n : Int) * 8 / 16777216), .int .u8 ((n : Int) * 8 / 65536), .int .u8 ((n : Int) * 8 / 256), .int .u8 ((n : Int) * 8 % 256)] = bcells (Sh.pad bs) := by
  subst hl
  rw [← Sh.gather_end bs h, bcells_append]
  congr 1
  simp only [bcells, List.map_cons, List.map_nil, UInt8.toNat_ofNat', Int.natCast_emod, Int.natCast_ediv, Int.natCast_mul, Int.natCast_pow]
  have e : ∀ x y : Int, x = y → Value.int .u8 x = Value.int .u8 y := fun x y h => by rw [h]
  refine List.cons_eq_cons.2 ⟨rfl, List.cons_eq_cons.2 ⟨rfl, List.cons_eq_cons.2 ⟨rfl, List.cons_eq_cons.2 ⟨rfl, List.cons_eq_cons.2 ⟨e _ _ ?_, List.cons_eq_cons.2 ⟨e _ _ ?_, List.cons_eq_cons.2 ⟨e _ _ ?_, List.cons_eq_cons.2 ⟨e _ _ ?_, rfl⟩⟩⟩⟩⟩⟩⟩⟩ <;> simp <;> omega

set_option maxHeartbeats 400000 in
theorem ref_ShaPad (a : Option Addr) (n c : Nat) (bs : List UInt8) (w : World) (h : BytesAt w w.heap.size a n bs) (hnil : a = none → n = 0 ∧ c = 0) (hn : n ≤ maxLen) :
    Calls Tryd.prog 47 #[.slice a n c] w (SlicePost (Sh.padErr bs) (Sh.padOut bs) w) := by
  have hl := h.1
  unfold maxLen at hn
  by_cases h1 : 1000 < n
  · have He := Lib.hid (show Sh.padErr bs = 1 ∧ Sh.padOut bs = [] by unfold Sh.padErr Sh.padOut; rw [if_pos (by omega), if_pos (by omega)]; exact ⟨rfl, rfl⟩)
    clear h hl
    go_enter Tryd.func47, Tryd.ntmps47
    go_wp2
    go_ret2
    rw [He.out.1, He.out.2]
    exact slicePost_none (Below.refl _ _)
  · have He := Lib.hid (show Sh.padErr bs = 0 ∧ Sh.padOut bs = Sh.pad bs by unfold Sh.padErr Sh.padOut; rw [if_neg (by omega), if_neg (by omega)]; exact ⟨rfl, rfl⟩)
    have Hl := Lib.hid hl
    have Hb := Lib.hid h
    have Hn := Lib.hid hnil
    clear hl h hnil
    go_enter Tryd.func47, Tryd.ntmps47
    go_wp2_with (at_builtin; refine wpL_append8 _ rfl _ _ rfl w.heap.size _ 0 _ [] rfl ?c0 _ n _ (bcells bs) rfl ?c1 ?c2 ?c3 (bcells_one _) ?c4 ?c6 ?_)
    case c0 => exact own_block (heap_alloc_last w _) (Nat.le_refl _) rfl (by decide)
    case c1 => rw [bcells_length]; exact Hl.out
    case c2 => exact Hn.out
    case c3 => exact (Hb.out.below ((Below.refl _ _).alloc (Nat.le_refl _) _)).news
    case c4 => omega
    case c6 => simp
    intro a1 c1 w1 ho1 hg1
    have hb1 : Below w.heap.size w w1 := below_own ((Below.refl _ _).alloc (Nat.le_refl _) _) (own_block (heap_alloc_last w _) (Nat.le_refl w.heap.size) rfl (by decide)) hg1 (Nat.le_refl _) (by simp)
    have hz1 := hb1.size
    clear hg1
    go_wp2_with (at_builtin; refine wpL_append8 _ rfl _ _ rfl w.heap.size _ n _ _ rfl (ho1.alloc _) _ 1 _ [.int .u8 128] rfl rfl ?d2 (news_new _ _ _) (one_one _ _) ?d4 ?d6 ?_)
    case d2 => intro h; cases h
    case d4 => omega
    case d6 => simp; omega
    intro a2 c2 w2 ho2 hg2
    have hb2 : Below w.heap.size w w2 := below_own (hb1.alloc hz1 _) (ho1.alloc _) hg2 (Nat.le_refl _) (by simp; omega)
    rw [gath_cells_start] at ho2
    have hG : Gath bs w 0 (.slice a2 (n + 1) c2) w2 := ⟨_, _, _, rfl, by have := Hl.out; omega, ho2⟩
    clear hg2 ho1 ho2 hb1 hz1
    go_wp2
    go_loopw [4] (fun v wr => ∃ k : Nat, k ≤ Sh.zeros n ∧ Gath bs w k v wr ∧ Below w.heap.size w wr) (fun v _ => n + 1 + Sh.zeros n - (lenV v))
    case atStart => exact ⟨0, Nat.zero_le _, hG, hb2⟩
    case round =>
      obtain ⟨k, hk, ⟨a3, n3, c3, rfl, hn3, ho3⟩, hb3⟩ := hrel
      have hz3 := hb3.size
      have Hn3 := Lib.hid (show n3 = n + 1 + k by rw [hn3, Hl.out])
      have hzr : Sh.zeros n < 64 := by unfold Sh.zeros; omega
      have hn3' : n3 ≤ 2000 := by have := Hn3.out; omega
      clear hn3
      by_cases hlt : k < Sh.zeros n
      · have ht : (((n3 : Int) + 8) % 64 != 0) = true := by have := Hn3.out; rw [bne_iff_ne]; unfold Sh.zeros at hlt; omega
        go_wp2_with (at_builtin; refine wpL_append8 _ rfl _ _ rfl w.heap.size _ n3 _ _ rfl (ho3.alloc _) _ 1 _ [.int .u8 0] rfl rfl ?e2 (news_new _ _ _) (one_one _ _) ?e4 ?e6 ?_)
        case e2 => intro h; cases h
        case e4 => omega
        case e6 => simp; omega
        intro a4 c4 w4 ho4 hg4
        have hb4 : Below w.heap.size w w4 := below_own (hb3.alloc hz3 _) (ho3.alloc _) hg4 (Nat.le_refl _) (by simp; omega)
        rw [gath_cells_step] at ho4
        have hG4 : Gath bs w (k + 1) (.slice a4 (n3 + 1) c4) w4 := ⟨_, _, _, rfl, by have := Hl.out; have := Hn3.out; omega, ho4⟩
        clear hg4 ho3 ho4 hb3 ht
        go_wp2
        go_roundw
        case rel => exact ⟨k + 1, by omega, hG4, hb4⟩
        case measure => simp only [lenV]; have := Hn3.out; omega
      · have hke : k = Sh.zeros n := by omega
        have ht : (((n3 : Int) + 8) % 64 != 0) = false := by have := Hn3.out; rw [bne_eq_false_iff_eq]; unfold Sh.zeros at hke; omega
        have Hk := Lib.hid hke
        clear hke
        go_wp2_with (at_builtin; refine wpL_append8 _ rfl _ _ rfl w.heap.size _ n3 _ _ rfl (ho3.alloc _) _ 8 _ [_, _, _, _, _, _, _, _] rfl rfl ?f2 (news_new _ _ _) ?f3 ?f4 ?f6 ?_)
        case f2 => intro h; cases h
        case f3 => intro u hu; simp at hu; rcases hu with rfl | rfl | rfl | rfl | rfl <;> rfl
        case f4 => omega
        case f6 => simp; omega
        intro a5 c5 w5 ho5 hg5
        have hb5 : Below w.heap.size w w5 := below_own (hb3.alloc hz3 _) (ho3.alloc _) hg5 (Nat.le_refl _) (by simp; omega)
        rw [Hk.out, gath_cells_end bs n Hl.out (by omega)] at ho5
        clear hg5 ho3
        go_wp2
        go_ret2
        rw [He.out.1, He.out.2]
        exact slicePost_own ho5 hb5
end Go.Proofs.YthknkfiofdfogaaDoor
