/- The contract of slices.Equal at slices of lines. -/
import Derived.Test.YtldfamdjdkaloabDoorLineMem
import Derived.Test.YtldfamdjdkaloabDoorMem2
import Derived.BigQuiet
import Derived.Laws.StructEq
namespace Go.Proofs.YtldfamdjdkaloabDoor
open Go.RowKit

theorem text_eq (x y : ByteArray) : x = y ∨ (x.toList == y.toList) = false := by
  by_cases h : x = y
  · exact .inl h
  · refine .inr (beq_eq_false_iff_ne.2 fun e => h ?_)
    rw [ByteArray.toList_eq, ByteArray.toList_eq] at e
    exact WideShapes.bytes_inj e
theorem line_parts (xa ya xb yb : ByteArray) : (xa = ya ∧ xb = yb) ∨ (xa.toList == ya.toList) = false ∨ (xa = ya ∧ (xb.toList == yb.toList) = false) := by
  rcases text_eq xa ya with h | h
  · rcases text_eq xb yb with g | g
    · exact .inl ⟨h, g⟩
    · exact .inr (.inr ⟨h, g⟩)
  · exact .inr (.inl h)
set_option maxRecDepth 20000 in
set_option maxHeartbeats 3200000 in
theorem lines_Equal (a b : Option Addr) (n m c d : Nat) (l k : List Ln.L) (w : World) (hl : LinesAt w w.heap.size a n l) (hk : LinesAt w w.heap.size b m k) (hn : n ≤ 4398046511104) :
    Calls Tryd.prog 13 #[.slice a n c, .slice b m d] w fun e w' => ∃ r : Bool, e = .returned (.bool r) ∧ (r = true ↔ l = k) ∧ Below w.heap.size w w' := by
  have Hl := Lib.hid hl
  have Hk := Lib.hid hk
  have hl1 := hl.1
  have hk1 := hk.1
  clear hl hk
  by_cases hnm : n = m
  · subst hnm
    go_enter Tryd.func13, Tryd.ntmps13
    go_wp2
    go_loopw [13] (fun i wr => ∃ j : Nat, j ≤ n ∧ i = .int .i64 j ∧ Hid (l.take j = k.take j) ∧ Below w.heap.size w wr) (fun i _ => n - (intOf i).toNat)
    case atStart => exact ⟨0, Nat.zero_le _, rfl, Lib.hid rfl, Below.refl _ _⟩
    case round =>
      obtain ⟨j, hj, rfl, Ht, hB⟩ := hrel
      by_cases hlt : j < n
      · obtain ⟨b1, o1, rfl, _, hc1⟩ := (Hl.out.below hB).2 (by omega)
        obtain ⟨b2, o2, rfl, _, hc2⟩ := (Hk.out.below hB).2 (by omega)
        obtain ⟨x0, x1⟩ := hc1 j (by omega)
        obtain ⟨y0, y1⟩ := hc2 j (by omega)
        clear hc1 hc2
        generalize hX : l[j] = X at *
        generalize hY : k[j] = Y at *
        have HX := Lib.hid hX
        have HY := Lib.hid hY
        clear hX hY
        obtain ⟨xa, xb⟩ := X
        obtain ⟨ya, yb⟩ := Y
        have i1 : (j : Int) < (n : Int) := by omega
        have hjl : j < l.length := by omega
        have hjk : j < k.length := by omega
        rcases line_parts xa ya xb yb with ⟨rfl, rfl⟩ | q0 | ⟨rfl, q0⟩
        · go_wp2_with fail
          go_quiet (fail)
          go_wp2
          go_roundw
          case rel => exact ⟨j + 1, by omega, by go_num, Lib.hid (by rw [List.take_succ_eq_append_getElem hjl, List.take_succ_eq_append_getElem hjk, Ht.out, HX.out, HY.out]), below_drewN hB _⟩
          case measure => simp [intOf]; omega
        · have hne : l ≠ k := fun e => by subst e; have h := HX.out.symm.trans HY.out; injection h with h1 h2; simp [h1] at q0
          clear HX HY Ht
          go_wp2_with fail
          go_quiet (fail)
          go_wp2
          go_ret
          exact ⟨_, rfl, ⟨fun h => (by cases h), fun h => absurd h hne⟩, below_drewN hB _⟩
        · have hne : l ≠ k := fun e => by subst e; have h := HX.out.symm.trans HY.out; injection h with h1 h2; simp [h2] at q0
          clear HX HY Ht
          go_wp2_with fail
          go_quiet (fail)
          go_wp2
          go_ret
          exact ⟨_, rfl, ⟨fun h => (by cases h), fun h => absurd h hne⟩, below_drewN hB _⟩
      · obtain rfl : j = n := by omega
        have hlk : l = k := by have h := Ht.out; rwa [List.take_of_length_le (by omega), List.take_of_length_le (by omega)] at h
        clear Ht Hl Hk
        go_wp2
        go_ret
        exact ⟨_, rfl, ⟨fun _ => hlk, fun _ => rfl⟩, hB⟩
  · have hne : ((n : Int) != (m : Int)) = true := by simp; omega
    have hlk : l ≠ k := fun e => hnm (by rw [← hl1, ← hk1, e])
    clear Hl Hk
    go_enter Tryd.func13, Tryd.ntmps13
    go_wp2
    go_ret
    exact ⟨_, rfl, ⟨fun h => (by cases h), fun h => absurd h hlk⟩, Below.refl _ _⟩
end Go.Proofs.YtldfamdjdkaloabDoor
