/- The contract of slices.Equal at slices of nodes. -/
import Derived.Test.YtldfamdjdkaloaaNodeMem2
import Derived.Test.YtldfamdjdkaloaaNetCode1
import Derived.BigQuiet
import Derived.Laws.StructEq
namespace Go.Proofs.Ytldfamdjdkaloaa
open Go.RowKit

theorem node_parts (xa ya : Nat) (xb yb xs ys : Int) (xo yo : ByteArray) : (xa = ya ∧ xb = yb ∧ xo = yo ∧ xs = ys) ∨ ((xa : Int) == (ya : Int)) = false ∨ (xa = ya ∧ (xb == yb) = false) ∨ (xa = ya ∧ xb = yb ∧ (xo.toList == yo.toList) = false) ∨ (xa = ya ∧ xb = yb ∧ xo = yo ∧ (xs == ys) = false) := by
  by_cases h1 : xa = ya
  · by_cases h2 : xb = yb
    · by_cases h3 : xo = yo
      · by_cases h4 : xs = ys
        · exact .inl ⟨h1, h2, h3, h4⟩
        · exact .inr (.inr (.inr (.inr ⟨h1, h2, h3, beq_eq_false_iff_ne.2 h4⟩)))
      · refine .inr (.inr (.inr (.inl ⟨h1, h2, beq_eq_false_iff_ne.2 fun h => h3 ?_⟩)))
        rw [ByteArray.toList_eq, ByteArray.toList_eq] at h
        exact WideShapes.bytes_inj h
    · exact .inr (.inr (.inl ⟨h1, beq_eq_false_iff_ne.2 h2⟩))
  · exact .inr (.inl (beq_eq_false_iff_ne.2 (by omega)))
set_option maxRecDepth 20000 in
set_option maxHeartbeats 3200000 in
theorem nodes_Equal (a b : Option Addr) (n m c d : Nat) (l k : List Tr.Node) (w : World) (hl : NodesAt w w.heap.size a n l) (hk : NodesAt w w.heap.size b m k) (hn : n ≤ 3518437208883) :
    Calls Try.prog 34 #[.slice a n c, .slice b m d] w fun e w' => ∃ r : Bool, e = .returned (.bool r) ∧ (r = true ↔ l = k) ∧ Below w.heap.size w w' := by
  have Hl := Lib.hid hl
  have Hk := Lib.hid hk
  have hl1 := hl.1
  have hk1 := hk.1
  clear hl hk
  by_cases hnm : n = m
  · subst hnm
    go_enter Try.func34, Try.ntmps34
    go_wp2
    go_loopw [13] (fun i wr => ∃ j : Nat, j ≤ n ∧ i = .int .i64 j ∧ Hid (l.take j = k.take j) ∧ Below w.heap.size w wr) (fun i _ => n - (intOf i).toNat)
    case atStart => exact ⟨0, Nat.zero_le _, rfl, Lib.hid rfl, Below.refl _ _⟩
    case round =>
      obtain ⟨j, hj, rfl, Ht, hB⟩ := hrel
      by_cases hlt : j < n
      · obtain ⟨b1, o1, rfl, _, hc1⟩ := (Hl.out.below hB).2 (by omega)
        obtain ⟨b2, o2, rfl, _, hc2⟩ := (Hk.out.below hB).2 (by omega)
        obtain ⟨x0, x1, x2, x3⟩ := hc1 j (by omega)
        obtain ⟨y0, y1, y2, y3⟩ := hc2 j (by omega)
        clear hc1 hc2
        generalize hX : l[j] = X at *
        generalize hY : k[j] = Y at *
        have HX := Lib.hid hX
        have HY := Lib.hid hY
        clear hX hY
        obtain ⟨xa, xb, xo, xs⟩ := X
        obtain ⟨ya, yb, yo, ys⟩ := Y
        have i1 : (j : Int) < (n : Int) := by omega
        have hjl : j < l.length := by omega
        have hjk : j < k.length := by omega
        rcases node_parts xa ya xb yb xs ys xo yo with ⟨rfl, rfl, rfl, rfl⟩ | q0 | ⟨rfl, q0⟩ | ⟨rfl, rfl, q0⟩ | ⟨rfl, rfl, rfl, q0⟩
        · go_wp2_with fail
          go_quiet (fail)
          go_wp2
          go_roundw
          case rel => exact ⟨j + 1, by omega, by go_num, Lib.hid (by rw [List.take_succ_eq_append_getElem hjl, List.take_succ_eq_append_getElem hjk, Ht.out, HX.out, HY.out]), belowDrewN hB _⟩
          case measure => simp [intOf]; omega
        · have hne : l ≠ k := fun e => by subst e; have h := HX.out.symm.trans HY.out; injection h with h1 h2 h3 h4; simp [h1] at q0
          clear HX HY Ht
          go_wp2_with fail
          go_quiet (fail)
          go_wp2
          go_ret
          exact ⟨_, rfl, ⟨fun h => (by cases h), fun h => absurd h hne⟩, belowDrewN hB _⟩
        · have hne : l ≠ k := fun e => by subst e; have h := HX.out.symm.trans HY.out; injection h with h1 h2 h3 h4; simp [h2] at q0
          clear HX HY Ht
          go_wp2_with fail
          go_quiet (fail)
          go_wp2
          go_ret
          exact ⟨_, rfl, ⟨fun h => (by cases h), fun h => absurd h hne⟩, belowDrewN hB _⟩
        · have hne : l ≠ k := fun e => by subst e; have h := HX.out.symm.trans HY.out; injection h with h1 h2 h3 h4; simp [h3] at q0
          clear HX HY Ht
          go_wp2_with fail
          go_quiet (fail)
          go_wp2
          go_ret
          exact ⟨_, rfl, ⟨fun h => (by cases h), fun h => absurd h hne⟩, belowDrewN hB _⟩
        · have hne : l ≠ k := fun e => by subst e; have h := HX.out.symm.trans HY.out; injection h with h1 h2 h3 h4; simp [h4] at q0
          clear HX HY Ht
          go_wp2_with fail
          go_quiet (fail)
          go_wp2
          go_ret
          exact ⟨_, rfl, ⟨fun h => (by cases h), fun h => absurd h hne⟩, belowDrewN hB _⟩
      · obtain rfl : j = n := by omega
        have hlk : l = k := by have h := Ht.out; rwa [List.take_of_length_le (by omega), List.take_of_length_le (by omega)] at h
        clear Ht Hl Hk
        go_wp2
        go_ret
        exact ⟨_, rfl, ⟨fun _ => hlk, fun _ => rfl⟩, hB⟩
  · have hne : ((n : Int) != (m : Int)) = true := by simp; omega
    have hlk : l ≠ k := fun e => hnm (by rw [← hl1, ← hk1, e])
    clear Hl Hk
    go_enter Try.func34, Try.ntmps34
    go_wp2
    go_ret
    exact ⟨_, rfl, ⟨fun h => (by cases h), fun h => absurd h hlk⟩, Below.refl _ _⟩
end Go.Proofs.Ytldfamdjdkaloaa
