/- Lines in memory: a slice of lines, two cells each. -/
import Derived.Test.YthlagpmacnijfaaGreatDoorRows
import Derived.Test.YthlagpmacnijfaaGreatDoorMem
import Derived.Test.YthlagpmacnijfaaGreatDoorLinePlain
import Derived.Deep.WholeRow
import Derived.Deep.AppendLies
import Derived.Laws.CopyOwn
namespace Go.Proofs.YthlagpmacnijfaaGreatDoor
open Go.RowKit

namespace Ln
def lineC (x : L) : List Value := [.string x.k, .string x.v]
def linesC (l : List L) : List Value := l.flatMap lineC
theorem linesC_append (l m : List L) : linesC (l ++ m) = linesC l ++ linesC m := by unfold linesC; rw [List.flatMap_append]
theorem linesC_length (l : List L) : (linesC l).length = l.length * 2 := by
  unfold linesC
  induction l with
  | nil => rfl
  | cons x r ih => rw [List.flatMap_cons, List.length_append, ih, List.length_cons]; show 2 + _ = _; omega
theorem linesC_one (l : List L) : ∀ v ∈ linesC l, v.oneCell' = true := by
  intro v hv
  unfold linesC at hv
  obtain ⟨n, _, hm⟩ := List.mem_flatMap.1 hv
  simp only [lineC, List.mem_cons, List.not_mem_nil, or_false] at hm
  rcases hm with rfl | rfl <;> rfl
theorem linesC_get : ∀ (l : List L) (i j : Nat) (h : i < l.length), j < 2 → (linesC l)[i * 2 + j]? = (lineC l[i])[j]? := by
  intro l
  induction l with
  | nil => intro i j h _; simp at h
  | cons x r ih =>
    intro i j h hj
    unfold linesC
    rw [List.flatMap_cons]
    cases i with
    | zero => rw [Nat.zero_mul, Nat.zero_add, List.getElem?_append_left (by show j < 2; exact hj)]; rfl
    | succ i =>
      rw [List.getElem?_append_right (by show 2 ≤ _; omega), show (i + 1) * 2 + j - (lineC x).length = i * 2 + j by show (i + 1) * 2 + j - 2 = _; omega]
      exact ih i j (by simpa using h) hj
end Ln
def lineV (x : Ln.L) : Value := .agg #[.string x.k, .string x.v]
/-- The lines l lie in memory, behind the slice (a, n). -/
def LinesAt (w : World) (B : Nat) (a : Option Addr) (n : Nat) (l : List Ln.L) : Prop :=
  l.length = n ∧ (0 < n → ∃ b off, a = some ⟨b, off, none⟩ ∧ b < B ∧ ∀ i (h : i < l.length), w.cell? ⟨b, off + i * 2, none⟩ = some (.string l[i].k) ∧ w.cell? ⟨b, off + i * 2 + 1, none⟩ = some (.string l[i].v))
theorem LinesAt.nil (w : World) (B : Nat) (a : Option Addr) : LinesAt w B a 0 [] := ⟨rfl, fun h => absurd h (by decide)⟩
theorem LinesAt.below {w w' : World} {B n : Nat} {a : Option Addr} {l : List Ln.L} (h : LinesAt w B a n l) (hb : Below B w w') : LinesAt w' B a n l :=
  ⟨h.1, fun hn => by
    obtain ⟨b, off, e, hlt, hc⟩ := h.2 hn
    exact ⟨b, off, e, hlt, fun i hi => by
      rw [hb.cell (p := ⟨b, off + i * 2, none⟩) hlt, hb.cell (p := ⟨b, off + i * 2 + 1, none⟩) hlt]
      exact hc i hi⟩⟩
theorem LinesAt.more {w : World} {B B' n : Nat} {a : Option Addr} {l : List Ln.L} (h : LinesAt w B a n l) (hB : B ≤ B') : LinesAt w B' a n l :=
  ⟨h.1, fun hn => by
    obtain ⟨b, off, e, hlt, hc⟩ := h.2 hn
    exact ⟨b, off, e, Nat.lt_of_lt_of_le hlt hB, hc⟩⟩
theorem LinesAt.kept {w w' : World} {n : Nat} {a : Option Addr} {l : List Ln.L} (h : LinesAt w w.heap.size a n l) (hb : Below w.heap.size w w') : LinesAt w' w'.heap.size a n l := (h.below hb).more hb.size
theorem info_line : ∃ i, Tryz.prog.info? 23 = some i ∧ i.zero = some (.agg #[.string ByteArray.empty, .string ByteArray.empty]) ∧ i.size = 2 ∧ i.bytes = 32 := info_parts (by kernel_rfl)
/-- The lines so far, in a row of the call's own. -/
def OwnL (w : World) (B : Nat) (v : Value) (l : List Ln.L) : Prop := ∃ a c, v = .slice a l.length c ∧ w.ownsRow B 23 2 (.slice a l.length c) l.length (Ln.linesC l)
theorem OwnL.nil (w : World) (B : Nat) : OwnL w B (.slice none 0 0) [] := ⟨none, 0, rfl, World.ownsRow_nil _ _ _ _⟩
theorem news_line (w : World) (n : Ln.L) (t : TypeId) : ∀ j u, (Ln.lineC n)[j]? = some u → (w.alloc (.cells (Ln.lineC n).toArray t)).cell? ((⟨w.heap.size, 0, none⟩ : Addr).add j) = some u := by
  intro j u hj
  rw [Addr.add_lit, Nat.zero_add, cell_of_row _ _ j _ _ _ (heap_alloc_last w _), List.getElem?_toArray]
  exact hj
theorem own_toL {w : World} {B n : Nat} {v : Value} {xs : List Value} (h : w.ownsRow B 23 2 v n xs) : ∃ a c, v = .slice a n c := by
  rcases h.2 with ⟨rfl, rfl⟩ | ⟨g, cap, cur, rfl, _⟩
  · exact ⟨none, 0, rfl⟩
  · exact ⟨_, cap, rfl⟩
theorem OwnL.alloc {w : World} {B : Nat} {v : Value} {l : List Ln.L} (h : OwnL w B v l) (o : Obj) : OwnL (w.alloc o) B v l := by
  obtain ⟨a, c, e, ho⟩ := h
  exact ⟨a, c, e, ho.alloc o⟩
theorem wpL_append_line (w : World) {ops : Array Oper} {rest : List Oper} {o : Oper} {a : Act} {Q : Exit → Act → World → Prop} (hgd : o.guard = none) (s x : Operand)
    (ho : o.op = .call { callee := .builtin .append, args := #[s, x], argTypes := #[52, 52] }) (B : Nat) (v : Value) (l : List Ln.L) (hs : a.eval s = v) (hO : OwnL w B v l)
    (ad : Addr) (m c : Nat) (news : List Ln.L) (hx : a.eval x = .slice (some ad) m c) (hm : news.length = m) (hnews : ∀ j u, (Ln.linesC news)[j]? = some u → w.cell? (ad.add j) = some u) (hmax : l.length + m ≤ 3518437208883) (hB : B ≤ w.heap.size)
    (h : ∀ v' w', OwnL w' B v' (l ++ news) → Below B w w' → wpList Tryz.prog ops Q rest (a.put o.dst v') w') : wpList Tryz.prog ops Q (o :: rest) a w := by
  obtain ⟨i, hi, hz0, hz1, hz2⟩ := info_line
  obtain ⟨av, cv, rfl, hown⟩ := hO
  refine wpList_append_own w hgd s x 52 ho B 23 i _ 2 32 Tryz.underlying52 hi hz0 hz1 hz2 rfl (by decide) _ l.length _ hs hown ad m c (Ln.linesC news) hx (by rw [Ln.linesC_length, hm]) hnews (Ln.linesC_one _) (by unfold maxLen; omega) (by omega) hB ?_
  intro v' w' ho' hg _
  obtain ⟨a', c', rfl⟩ := own_toL ho'
  refine h _ w' ⟨a', c', by rw [List.length_append, hm], ?_⟩ ((Below.refl B _).grown hg hB (fun k hk => (hown.lt k hk).1))
  rw [List.length_append, hm, Ln.linesC_append]
  exact ho'
theorem lines_of_row {w : World} {g : Nat} {l : List Ln.L} {t : TypeId} (h : w.heap[g]? = some (.cells (Ln.linesC l).toArray t (0, 0))) : LinesAt w w.heap.size (some ⟨g, 0, none⟩) l.length l :=
  ⟨rfl, fun _ => ⟨g, 0, rfl, (Array.getElem?_eq_some_iff.1 h).1, fun i hi => by
    have h0 := Ln.linesC_get l i 0 hi (by decide)
    have h1 := Ln.linesC_get l i 1 hi (by decide)
    rw [cell_of_row _ _ _ _ _ _ h, cell_of_row _ _ _ _ _ _ h, List.getElem?_toArray, List.getElem?_toArray, Nat.zero_add]
    exact ⟨h0, h1⟩⟩⟩
theorem OwnL.below {w w' : World} {B : Nat} {v : Value} {l : List Ln.L} (h : OwnL w B v l) (hb : Below w.heap.size w w') : OwnL w' B v l := by
  obtain ⟨a, c, e, ho⟩ := h
  exact ⟨a, c, e, ho.kept (row := none) ⟨hb.os, hb.tape, hb.output, hb.size, fun j hj _ => hb.block j hj⟩ (by cases hv : (Value.slice a l.length c).ownBlock <;> simp)⟩
theorem OwnL.at {w : World} {B : Nat} {v : Value} {l : List Ln.L} (h : OwnL w B v l) : ∃ a c, v = .slice a l.length c ∧ LinesAt w w.heap.size a l.length l := by
  obtain ⟨a, c, rfl, ho⟩ := h
  refine ⟨a, c, rfl, rfl, fun hn => ?_⟩
  rcases ho.2 with ⟨_, hz⟩ | ⟨g, cap, cur, hv, hb, hg, hk, hm, hs, ht⟩
  · omega
  · injection hv with h1 _ _
    subst h1
    have hlt : g < w.heap.size := by
      by_cases hc : g < w.heap.size
      · exact hc
      · rw [Array.getElem?_eq_none (by omega)] at hg; cases hg
    refine ⟨g, 0, rfl, hlt, fun i hi => ?_⟩
    have key : ∀ j, j < 2 → w.cell? ⟨g, 0 + i * 2 + j, none⟩ = (Ln.lineC l[i])[j]? := by
      intro j hj
      rw [cell_of_row _ _ _ _ _ _ hg, Nat.zero_add]
      have hx : i * 2 + j < l.length * 2 := by omega
      have e1 : cur[i * 2 + j]? = (cur.toList.take (l.length * 2))[i * 2 + j]? := by rw [List.getElem?_take_of_lt hx, Array.getElem?_toList]
      rw [e1, ht]
      exact Ln.linesC_get l i j hi hj
    exact ⟨key 0 (by decide), key 1 (by decide)⟩
end Go.Proofs.YthlagpmacnijfaaGreatDoor
