/- The function values that select nodes: the program's and the reference's closures. -/
import Derived.Test.YtldfamdjdkaloaaTrieSel
import Derived.Laws.StructEq
namespace Go.Proofs.Ytldfamdjdkaloaa
open Go.RowKit

theorem lt_cell {w : World} {a : Addr} {v : Value} (h : w.cell? a = some v) : a.block < w.heap.size := by
  rcases Nat.lt_or_ge a.block w.heap.size with hlt | hge
  · exact hlt
  · simp [World.cell?, Array.getElem?_eq_none hge] at h
set_option maxRecDepth 20000 in
set_option maxHeartbeats 800000 in
theorem sel_put (gc N na : Nat) (nb : Int) (w : World) (hN : NetIn w gc na nb) (hg : gc < N) : SelAt 47 gc N (fun nd => decide (Tr.nw nd = (na, nb))) w := by
  refine ⟨enters_of Try.func47 (by kernel_rfl) rfl, fun W hW nd => ?_⟩
  have hN' : NetIn W gc na nb := (hW.block gc hg).trans hN
  obtain ⟨t0, t1⟩ := two_cells hN'.own
  have hgl := hN'.lt
  obtain ⟨xa, xb, xo, xs⟩ := nd
  unfold nodeV
  clear hN hN' hW
  rcases (show (xa = na ∧ xb = nb) ∨ ((xa : Int) == (na : Int)) = false ∨ (xa = na ∧ (xb == nb) = false) by
    by_cases h1 : xa = na
    · by_cases h2 : xb = nb
      · exact .inl ⟨h1, h2⟩
      · exact .inr (.inr ⟨h1, beq_eq_false_iff_ne.2 h2⟩)
    · exact .inr (.inl (beq_eq_false_iff_ne.2 (by omega)))) with ⟨rfl, rfl⟩ | h0 | ⟨rfl, h0⟩
  · have Hd : Hid (decide (Tr.nw ⟨xa, xb, xo, xs⟩ = (xa, xb)) = true) := Lib.hid (decide_eq_true rfl)
    go_enter Try.func47, Try.ntmps47
    go_wp2
    go_ret
    exact ⟨by rw [Hd.out]; rfl, (Below.refl _ _).alloc (Nat.le_refl _) _⟩
  · have Hd : Hid (decide (Tr.nw ⟨xa, xb, xo, xs⟩ = (na, nb)) = false) := Lib.hid (decide_eq_false fun h => by injection h with h1 h2; change xa = na at h1; rw [h1] at h0; simp at h0)
    go_enter Try.func47, Try.ntmps47
    go_wp2
    go_ret
    exact ⟨by rw [Hd.out]; rfl, (Below.refl _ _).alloc (Nat.le_refl _) _⟩
  · have Hd : Hid (decide (Tr.nw ⟨xa, xb, xo, xs⟩ = (xa, nb)) = false) := Lib.hid (decide_eq_false fun h => by injection h with h1 h2; change xb = nb at h2; rw [h2] at h0; simp at h0)
    go_enter Try.func47, Try.ntmps47
    go_wp2
    go_ret
    exact ⟨by rw [Hd.out]; rfl, (Below.refl _ _).alloc (Nat.le_refl _) _⟩
set_option maxRecDepth 20000 in
set_option maxHeartbeats 800000 in
theorem sel_rdrop (gc N na : Nat) (nb : Int) (w : World) (hN : NetIn w gc na nb) (hg : gc < N) : SelAt 50 gc N (fun nd => decide (Tr.nw nd = (na, nb))) w := by
  refine ⟨enters_of Try.func50 (by kernel_rfl) rfl, fun W hW nd => ?_⟩
  have hN' : NetIn W gc na nb := (hW.block gc hg).trans hN
  obtain ⟨t0, t1⟩ := two_cells hN'.own
  have hgl := hN'.lt
  obtain ⟨xa, xb, xo, xs⟩ := nd
  unfold nodeV
  clear hN hN' hW
  rcases (show (xa = na ∧ xb = nb) ∨ ((xa : Int) == (na : Int)) = false ∨ (xa = na ∧ (xb == nb) = false) by
    by_cases h1 : xa = na
    · by_cases h2 : xb = nb
      · exact .inl ⟨h1, h2⟩
      · exact .inr (.inr ⟨h1, beq_eq_false_iff_ne.2 h2⟩)
    · exact .inr (.inl (beq_eq_false_iff_ne.2 (by omega)))) with ⟨rfl, rfl⟩ | h0 | ⟨rfl, h0⟩
  · have Hd : Hid (decide (Tr.nw ⟨xa, xb, xo, xs⟩ = (xa, xb)) = true) := Lib.hid (decide_eq_true rfl)
    go_enter Try.func50, Try.ntmps50
    go_wp2
    go_ret
    exact ⟨by rw [Hd.out]; rfl, (Below.refl _ _).alloc (Nat.le_refl _) _⟩
  · have Hd : Hid (decide (Tr.nw ⟨xa, xb, xo, xs⟩ = (na, nb)) = false) := Lib.hid (decide_eq_false fun h => by injection h with h1 h2; change xa = na at h1; rw [h1] at h0; simp at h0)
    go_enter Try.func50, Try.ntmps50
    go_wp2
    go_ret
    exact ⟨by rw [Hd.out]; rfl, (Below.refl _ _).alloc (Nat.le_refl _) _⟩
  · have Hd : Hid (decide (Tr.nw ⟨xa, xb, xo, xs⟩ = (xa, nb)) = false) := Lib.hid (decide_eq_false fun h => by injection h with h1 h2; change xb = nb at h2; rw [h2] at h0; simp at h0)
    go_enter Try.func50, Try.ntmps50
    go_wp2
    go_ret
    exact ⟨by rw [Hd.out]; rfl, (Below.refl _ _).alloc (Nat.le_refl _) _⟩
set_option maxRecDepth 20000 in
set_option maxHeartbeats 800000 in
theorem sel_drop (gc N na : Nat) (nb : Int) (w : World) (hN : NetIn w gc na nb) (hg : gc < N) : SelAt 49 gc N (fun nd => decide (Tr.nw nd = (na, nb))) w := by
  refine ⟨enters_of Try.func49 (by kernel_rfl) rfl, fun W hW nd => ?_⟩
  have hN' : NetIn W gc na nb := (hW.block gc hg).trans hN
  obtain ⟨t0, t1⟩ := two_cells hN'.own
  have hgl := hN'.lt
  obtain ⟨xa, xb, xo, xs⟩ := nd
  unfold nodeV
  clear hN hN' hW
  rcases (show (xa = na ∧ xb = nb) ∨ ((xa : Int) == (na : Int)) = false ∨ (xa = na ∧ (xb == nb) = false) by
    by_cases h1 : xa = na
    · by_cases h2 : xb = nb
      · exact .inl ⟨h1, h2⟩
      · exact .inr (.inr ⟨h1, beq_eq_false_iff_ne.2 h2⟩)
    · exact .inr (.inl (beq_eq_false_iff_ne.2 (by omega)))) with ⟨rfl, rfl⟩ | h0 | ⟨rfl, h0⟩
  · have Hd : Hid (decide (Tr.nw ⟨xa, xb, xo, xs⟩ = (xa, xb)) = true) := Lib.hid (decide_eq_true rfl)
    go_enter Try.func49, Try.ntmps49
    go_wp2
    go_ret
    exact ⟨by rw [Hd.out]; rfl, (Below.refl _ _).alloc (Nat.le_refl _) _⟩
  · have Hd : Hid (decide (Tr.nw ⟨xa, xb, xo, xs⟩ = (na, nb)) = false) := Lib.hid (decide_eq_false fun h => by injection h with h1 h2; change xa = na at h1; rw [h1] at h0; simp at h0)
    go_enter Try.func49, Try.ntmps49
    go_wp2
    go_ret
    exact ⟨by rw [Hd.out]; rfl, (Below.refl _ _).alloc (Nat.le_refl _) _⟩
  · have Hd : Hid (decide (Tr.nw ⟨xa, xb, xo, xs⟩ = (xa, nb)) = false) := Lib.hid (decide_eq_false fun h => by injection h with h1 h2; change xb = nb at h2; rw [h2] at h0; simp at h0)
    go_enter Try.func49, Try.ntmps49
    go_wp2
    go_ret
    exact ⟨by rw [Hd.out]; rfl, (Below.refl _ _).alloc (Nat.le_refl _) _⟩
set_option maxRecDepth 20000 in
set_option maxHeartbeats 800000 in
theorem sel_rowner (gc N : Nat) (o : ByteArray) (w : World) (hN : w.cell? ⟨gc, 0, none⟩ = some (.string o)) (hg : gc < N) : SelAt 52 gc N (fun nd => decide (nd.o = o)) w := by
  refine ⟨enters_of Try.func52 (by kernel_rfl) rfl, fun W hW nd => ?_⟩
  have t0 : W.cell? ⟨gc, 0, none⟩ = some (.string o) := by rw [hW.cell (p := ⟨gc, 0, none⟩) hg]; exact hN
  have hgl := lt_cell t0
  obtain ⟨xa, xb, xo, xs⟩ := nd
  unfold nodeV
  clear hN hW
  by_cases h1 : xo = o
  · subst h1
    have Hd : Hid (decide (xo = xo) = true) := Lib.hid (decide_eq_true rfl)
    go_enter Try.func52, Try.ntmps52
    go_wp2
    go_ret
    exact ⟨by simp, (Below.refl _ _).alloc (Nat.le_refl _) _⟩
  · have h0 : (xo.toList == o.toList) = false := beq_eq_false_iff_ne.2 fun h => h1 (by rw [ByteArray.toList_eq, ByteArray.toList_eq] at h; exact WideShapes.bytes_inj h)
    have Hd : Hid (decide (xo = o) = false) := Lib.hid (decide_eq_false h1)
    clear h1
    go_enter Try.func52, Try.ntmps52
    go_wp2
    go_ret
    exact ⟨by show Ending.returned _ = .returned (.bool (decide (xo = o))); rw [Hd.out]; rfl, (Below.refl _ _).alloc (Nat.le_refl _) _⟩
set_option maxRecDepth 20000 in
set_option maxHeartbeats 800000 in
theorem sel_owner (gc N : Nat) (o : ByteArray) (w : World) (hN : w.cell? ⟨gc, 0, none⟩ = some (.string o)) (hg : gc < N) : SelAt 51 gc N (fun nd => decide (nd.o = o)) w := by
  refine ⟨enters_of Try.func51 (by kernel_rfl) rfl, fun W hW nd => ?_⟩
  have t0 : W.cell? ⟨gc, 0, none⟩ = some (.string o) := by rw [hW.cell (p := ⟨gc, 0, none⟩) hg]; exact hN
  have hgl := lt_cell t0
  obtain ⟨xa, xb, xo, xs⟩ := nd
  unfold nodeV
  clear hN hW
  by_cases h1 : xo = o
  · subst h1
    have Hd : Hid (decide (xo = xo) = true) := Lib.hid (decide_eq_true rfl)
    go_enter Try.func51, Try.ntmps51
    go_wp2
    go_ret
    exact ⟨by simp, (Below.refl _ _).alloc (Nat.le_refl _) _⟩
  · have h0 : (xo.toList == o.toList) = false := beq_eq_false_iff_ne.2 fun h => h1 (by rw [ByteArray.toList_eq, ByteArray.toList_eq] at h; exact WideShapes.bytes_inj h)
    have Hd : Hid (decide (xo = o) = false) := Lib.hid (decide_eq_false h1)
    clear h1
    go_enter Try.func51, Try.ntmps51
    go_wp2
    go_ret
    exact ⟨by show Ending.returned _ = .returned (.bool (decide (xo = o))); rw [Hd.out]; rfl, (Below.refl _ _).alloc (Nat.le_refl _) _⟩
end Go.Proofs.Ytldfamdjdkaloaa
