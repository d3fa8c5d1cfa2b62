/- Words of our own for slices of int in memory. -/
import Derived.Test.YtgcaapehfnmelaaRows
import Derived.Test.YtgcaapehfnmelaaMem
import Derived.Deep.AppendLies
import Derived.Deep.WholeRow
namespace Go.Proofs.Ytgcaapehfnmelaa
open Go.RowKit

def icells (zs : List Int) : List Value := zs.map fun x => .int .i64 x
theorem icells_length (zs : List Int) : (icells zs).length = zs.length := by simp [icells]
theorem icells_append (a b : List Int) : icells (a ++ b) = icells a ++ icells b := by simp [icells]
theorem icells_get (zs : List Int) (i : Nat) (h : i < zs.length) : (icells zs)[i]? = some (.int .i64 zs[i]) := by simp [icells, h]
theorem icells_one (zs : List Int) : ∀ v ∈ icells zs, v.oneCell' = true := by
  intro v hv; simp only [icells, List.mem_map] at hv; obtain ⟨c, _, rfl⟩ := hv; rfl
/-- A slice value of n numbers reads as the list zs, its cells in blocks below B. -/
def IntsAt (w : World) (B : Nat) (a : Option Addr) (n : Nat) (zs : List Int) : Prop :=
  zs.length = n ∧ (0 < n → ∃ b off, a = some ⟨b, off, none⟩ ∧ b < B ∧ ∀ i (h : i < zs.length), w.cell? ⟨b, off + i, none⟩ = some (.int .i64 zs[i]))
theorem IntsAt.below {w w' : World} {B n : Nat} {a : Option Addr} {zs : List Int} (h : IntsAt w B a n zs) (hb : Below B w w') : IntsAt w' B a n zs :=
  ⟨h.1, fun hn => by
    obtain ⟨b, off, e, hlt, hc⟩ := h.2 hn
    exact ⟨b, off, e, hlt, fun i hi => (hb.cell (p := ⟨b, off + i, none⟩) hlt).trans (hc i hi)⟩⟩
theorem IntsAt.up {w : World} {B B' n : Nat} {a : Option Addr} {zs : List Int} (h : IntsAt w B a n zs) (hB : B ≤ B') : IntsAt w B' a n zs :=
  ⟨h.1, fun hn => by obtain ⟨b, off, e, hlt, hc⟩ := h.2 hn; exact ⟨b, off, e, Nat.lt_of_lt_of_le hlt hB, hc⟩⟩
theorem IntsAt.own {w : World} {base e n c : Nat} {a : Option Addr} {zs : List Int} (h : w.ownsRow base e 1 (.slice a n c) zs.length (icells zs)) : IntsAt w w.heap.size a n zs := by
  rcases h.2 with ⟨hv, h0⟩ | ⟨g, cap, cur, hv, _, hh, _⟩
  · injection hv with h1 h2 h3
    subst h2
    exact ⟨h0, fun hn => absurd hn (by omega)⟩
  · injection hv with h1 h2 h3
    subst h1; subst h2
    refine ⟨rfl, fun _ => ⟨g, 0, rfl, (h.lt g rfl).2, fun i hi => ?_⟩⟩
    rw [Nat.zero_add, h.cellAt i (by omega), icells_get zs i hi]
theorem ints_lt {w : World} {B n : Nat} {a : Option Addr} {zs : List Int} (h : IntsAt w B a n zs) {k : Nat} (hk : k < n) : ∃ b off, a = some ⟨b, off, none⟩ ∧ w.cell? ⟨b, off + k, none⟩ = some (.int .i64 (zs.getD k 0)) := by
  obtain ⟨b, off, e, _, hc⟩ := h.2 (by omega)
  have hk' : k < zs.length := by rw [h.1]; exact hk
  exact ⟨b, off, e, by rw [hc k hk', List.getD_eq_getElem?_getD, List.getElem?_eq_getElem hk']; rfl⟩
/-- All its cells, as the library's contracts ask for them. -/
theorem ints_all {w : World} {B n : Nat} {a : Option Addr} {zs : List Int} (h : IntsAt w B a n zs) (hn : 0 < n) : ∃ b off, a = some ⟨b, off, none⟩ ∧ ∀ j, j < zs.length → w.cell? ⟨b, off + j, none⟩ = some (.int .i64 (zs.getD j 0)) := by
  obtain ⟨b, off, e, _, hc⟩ := h.2 hn
  exact ⟨b, off, e, fun j hj => by rw [hc j hj, List.getD_eq_getElem?_getD, List.getElem?_eq_getElem hj]; rfl⟩
theorem info_i64 : ∃ i, Try.prog.info? 3 = some i ∧ i.zero = some (.int .i64 0) ∧ i.size = 1 ∧ i.bytes = 8 := info_parts (by kernel_rfl)
end Go.Proofs.Ytgcaapehfnmelaa
