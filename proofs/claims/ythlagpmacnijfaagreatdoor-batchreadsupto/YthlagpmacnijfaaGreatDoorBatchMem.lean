/- Settings in memory: a slice of settings, five cells each. -/
import Derived.Test.YthlagpmacnijfaaGreatDoorRows
import Derived.Test.YthlagpmacnijfaaGreatDoorMem
import Derived.Test.YthlagpmacnijfaaGreatDoorBatchPlain
import Derived.Deep.WholeRow
import Derived.Deep.AppendLies
import Derived.Laws.CopyOwn
namespace Go.Proofs.YthlagpmacnijfaaGreatDoor
open Go.RowKit

namespace Bt
def setC (x : S) : List Value := [.int .i64 x.k, .string x.t, .int .i64 x.n, .int .u32 (x.a : Int), .int .i64 x.b]
def setsC (l : List S) : List Value := l.flatMap setC
theorem setsC_append (l m : List S) : setsC (l ++ m) = setsC l ++ setsC m := by unfold setsC; rw [List.flatMap_append]
theorem setsC_length (l : List S) : (setsC l).length = l.length * 5 := by
  unfold setsC
  induction l with
  | nil => rfl
  | cons x r ih => rw [List.flatMap_cons, List.length_append, ih, List.length_cons]; show 5 + _ = _; omega
theorem setsC_one (l : List S) : ∀ v ∈ setsC l, v.oneCell' = true := by
  intro v hv
  unfold setsC at hv
  obtain ⟨n, _, hm⟩ := List.mem_flatMap.1 hv
  simp only [setC, List.mem_cons, List.not_mem_nil, or_false] at hm
  rcases hm with rfl | rfl | rfl | rfl | rfl <;> rfl
theorem setsC_get : ∀ (l : List S) (i j : Nat) (h : i < l.length), j < 5 → (setsC l)[i * 5 + j]? = (setC l[i])[j]? := by
  intro l
  induction l with
  | nil => intro i j h _; simp at h
  | cons x r ih =>
    intro i j h hj
    unfold setsC
    rw [List.flatMap_cons]
    cases i with
    | zero => rw [Nat.zero_mul, Nat.zero_add, List.getElem?_append_left (by show j < 5; exact hj)]; rfl
    | succ i =>
      rw [List.getElem?_append_right (by show 5 ≤ _; omega), show (i + 1) * 5 + j - (setC x).length = i * 5 + j by show (i + 1) * 5 + j - 5 = _; omega]
      exact ih i j (by simpa using h) hj
end Bt
def setV (x : Bt.S) : Value := .agg #[.int .i64 x.k, .string x.t, .int .i64 x.n, .int .u32 (x.a : Int), .int .i64 x.b]
/-- The lines l lie in memory, behind the slice (a, n). -/
def SetsAt (w : World) (B : Nat) (a : Option Addr) (n : Nat) (l : List Bt.S) : Prop :=
  l.length = n ∧ (0 < n → ∃ b off, a = some ⟨b, off, none⟩ ∧ b < B ∧ ∀ i (h : i < l.length), w.cell? ⟨b, off + i * 5, none⟩ = some (.int .i64 l[i].k) ∧ w.cell? ⟨b, off + i * 5 + 1, none⟩ = some (.string l[i].t) ∧ w.cell? ⟨b, off + i * 5 + 2, none⟩ = some (.int .i64 l[i].n) ∧ w.cell? ⟨b, off + i * 5 + 3, none⟩ = some (.int .u32 (l[i].a : Int)) ∧ w.cell? ⟨b, off + i * 5 + 4, none⟩ = some (.int .i64 l[i].b))
theorem SetsAt.nil (w : World) (B : Nat) (a : Option Addr) : SetsAt w B a 0 [] := ⟨rfl, fun h => absurd h (by decide)⟩
theorem SetsAt.below {w w' : World} {B n : Nat} {a : Option Addr} {l : List Bt.S} (h : SetsAt w B a n l) (hb : Below B w w') : SetsAt w' B a n l :=
  ⟨h.1, fun hn => by
    obtain ⟨b, off, e, hlt, hc⟩ := h.2 hn
    exact ⟨b, off, e, hlt, fun i hi => by
      rw [hb.cell (p := ⟨b, off + i * 5, none⟩) hlt, hb.cell (p := ⟨b, off + i * 5 + 1, none⟩) hlt, hb.cell (p := ⟨b, off + i * 5 + 2, none⟩) hlt, hb.cell (p := ⟨b, off + i * 5 + 3, none⟩) hlt, hb.cell (p := ⟨b, off + i * 5 + 4, none⟩) hlt]
      exact hc i hi⟩⟩
theorem SetsAt.more {w : World} {B B' n : Nat} {a : Option Addr} {l : List Bt.S} (h : SetsAt w B a n l) (hB : B ≤ B') : SetsAt w B' a n l :=
  ⟨h.1, fun hn => by
    obtain ⟨b, off, e, hlt, hc⟩ := h.2 hn
    exact ⟨b, off, e, Nat.lt_of_lt_of_le hlt hB, hc⟩⟩
theorem SetsAt.kept {w w' : World} {n : Nat} {a : Option Addr} {l : List Bt.S} (h : SetsAt w w.heap.size a n l) (hb : Below w.heap.size w w') : SetsAt w' w'.heap.size a n l := (h.below hb).more hb.size
theorem info_set : ∃ i, Tryz.prog.info? 28 = some i ∧ i.zero = some (.agg #[.int .i64 0, .string ByteArray.empty, .int .i64 0, .int .u32 0, .int .i64 0]) ∧ i.size = 5 ∧ i.bytes = 48 := info_parts (by kernel_rfl)
/-- The lines so far, in a row of the call's own. -/
def OwnS (w : World) (B : Nat) (v : Value) (l : List Bt.S) : Prop := ∃ a c, v = .slice a l.length c ∧ w.ownsRow B 28 5 (.slice a l.length c) l.length (Bt.setsC l)
theorem OwnS.nil (w : World) (B : Nat) : OwnS w B (.slice none 0 0) [] := ⟨none, 0, rfl, World.ownsRow_nil _ _ _ _⟩
theorem news_set (w : World) (n : Bt.S) (t : TypeId) : ∀ j u, (Bt.setC n)[j]? = some u → (w.alloc (.cells (Bt.setC n).toArray t)).cell? ((⟨w.heap.size, 0, none⟩ : Addr).add j) = some u := by
  intro j u hj
  rw [Addr.add_lit, Nat.zero_add, cell_of_row _ _ j _ _ _ (heap_alloc_last w _), List.getElem?_toArray]
  exact hj
theorem own_toS {w : World} {B n : Nat} {v : Value} {xs : List Value} (h : w.ownsRow B 28 5 v n xs) : ∃ a c, v = .slice a n c := by
  rcases h.2 with ⟨rfl, rfl⟩ | ⟨g, cap, cur, rfl, _⟩
  · exact ⟨none, 0, rfl⟩
  · exact ⟨_, cap, rfl⟩
theorem OwnS.alloc {w : World} {B : Nat} {v : Value} {l : List Bt.S} (h : OwnS w B v l) (o : Obj) : OwnS (w.alloc o) B v l := by
  obtain ⟨a, c, e, ho⟩ := h
  exact ⟨a, c, e, ho.alloc o⟩
theorem wpL_append_set (w : World) {ops : Array Oper} {rest : List Oper} {o : Oper} {a : Act} {Q : Exit → Act → World → Prop} (hgd : o.guard = none) (s x : Operand)
    (ho : o.op = .call { callee := .builtin .append, args := #[s, x], argTypes := #[33, 33] }) (B : Nat) (v : Value) (l : List Bt.S) (hs : a.eval s = v) (hO : OwnS w B v l)
    (ad : Addr) (m c : Nat) (news : List Bt.S) (hx : a.eval x = .slice (some ad) m c) (hm : news.length = m) (hnews : ∀ j u, (Bt.setsC news)[j]? = some u → w.cell? (ad.add j) = some u) (hmax : l.length + m ≤ 2518437208883) (hB : B ≤ w.heap.size)
    (h : ∀ v' w', OwnS w' B v' (l ++ news) → Below B w w' → wpList Tryz.prog ops Q rest (a.put o.dst v') w') : wpList Tryz.prog ops Q (o :: rest) a w := by
  obtain ⟨i, hi, hz0, hz1, hz2⟩ := info_set
  obtain ⟨av, cv, rfl, hown⟩ := hO
  refine wpList_append_own w hgd s x 33 ho B 28 i _ 5 48 Tryz.underlying33 hi hz0 hz1 hz2 rfl (by decide) _ l.length _ hs hown ad m c (Bt.setsC news) hx (by rw [Bt.setsC_length, hm]) hnews (Bt.setsC_one _) (by unfold maxLen; omega) (by omega) hB ?_
  intro v' w' ho' hg _
  obtain ⟨a', c', rfl⟩ := own_toS ho'
  refine h _ w' ⟨a', c', by rw [List.length_append, hm], ?_⟩ ((Below.refl B _).grown hg hB (fun k hk => (hown.lt k hk).1))
  rw [List.length_append, hm, Bt.setsC_append]
  exact ho'
theorem sets_of_row {w : World} {g : Nat} {l : List Bt.S} {t : TypeId} (h : w.heap[g]? = some (.cells (Bt.setsC l).toArray t (0, 0))) : SetsAt w w.heap.size (some ⟨g, 0, none⟩) l.length l :=
  ⟨rfl, fun _ => ⟨g, 0, rfl, (Array.getElem?_eq_some_iff.1 h).1, fun i hi => by
    have key : ∀ j, j < 5 → w.cell? ⟨g, 0 + i * 5 + j, none⟩ = (Bt.setC l[i])[j]? := by
      intro j hj
      rw [cell_of_row _ _ _ _ _ _ h, List.getElem?_toArray, Nat.zero_add]
      exact Bt.setsC_get l i j hi hj
    exact ⟨key 0 (by decide), key 1 (by decide), key 2 (by decide), key 3 (by decide), key 4 (by decide)⟩⟩⟩
theorem OwnS.below {w w' : World} {B : Nat} {v : Value} {l : List Bt.S} (h : OwnS w B v l) (hb : Below w.heap.size w w') : OwnS w' B v l := by
  obtain ⟨a, c, e, ho⟩ := h
  exact ⟨a, c, e, ho.kept (row := none) ⟨hb.os, hb.tape, hb.output, hb.size, fun j hj _ => hb.block j hj⟩ (by cases hv : (Value.slice a l.length c).ownBlock <;> simp)⟩
theorem OwnS.at {w : World} {B : Nat} {v : Value} {l : List Bt.S} (h : OwnS w B v l) : ∃ a c, v = .slice a l.length c ∧ SetsAt w w.heap.size a l.length l := by
  obtain ⟨a, c, rfl, ho⟩ := h
  refine ⟨a, c, rfl, rfl, fun hn => ?_⟩
  rcases ho.2 with ⟨_, hz⟩ | ⟨g, cap, cur, hv, hb, hg, hk, hm, hs, ht⟩
  · omega
  · injection hv with h1 _ _
    subst h1
    have hlt : g < w.heap.size := by
      by_cases hc : g < w.heap.size
      · exact hc
      · rw [Array.getElem?_eq_none (by omega)] at hg; cases hg
    refine ⟨g, 0, rfl, hlt, fun i hi => ?_⟩
    have key : ∀ j, j < 5 → w.cell? ⟨g, 0 + i * 5 + j, none⟩ = (Bt.setC l[i])[j]? := by
      intro j hj
      rw [cell_of_row _ _ _ _ _ _ hg, Nat.zero_add]
      have hx : i * 5 + j < l.length * 5 := by omega
      have e1 : cur[i * 5 + j]? = (cur.toList.take (l.length * 5))[i * 5 + j]? := by rw [List.getElem?_take_of_lt hx, Array.getElem?_toList]
      rw [e1, ht]
      exact Bt.setsC_get l i j hi hj
    exact ⟨key 0 (by decide), key 1 (by decide), key 2 (by decide), key 3 (by decide), key 4 (by decide)⟩
end Go.Proofs.YthlagpmacnijfaaGreatDoor
