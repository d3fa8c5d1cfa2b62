/- Nodes in memory, more: rows of nodes that stand apart, appends of any slice, rows read as slices. -/
import Derived.Test.YtldfamdjdkaloaaNodeMem
import Derived.Test.YtldfamdjdkaloaaMemG
import Derived.Maps.AppendAt
namespace Go.Proofs.Ytldfamdjdkaloaa
open Go.RowKit

theorem OwnN.below {w w' : World} {B : Nat} {v : Value} {l : List Tr.Node} (h : OwnN w B v l) (hb : Below w.heap.size w w') : OwnN w' B v l := by
  obtain ⟨a, c, e, ho⟩ := h
  exact ⟨a, c, e, ho.kept (row := none) ⟨hb.os, hb.tape, hb.output, hb.size, fun j hj _ => hb.block j hj⟩ (by cases hv : (Value.slice a l.length c).ownBlock <;> simp)⟩
theorem OwnN.base {w : World} {B B' : Nat} {v : Value} {l : List Tr.Node} (h : OwnN w B v l) (hb : B' ≤ B) : OwnN w B' v l := by
  obtain ⟨a, c, e, ho⟩ := h
  exact ⟨a, c, e, ownsRow_base4 ho hb⟩
/-- Rows of the call's own apart: no block bears both. -/
def Apart (v u : Value) : Prop := ∀ g, v.ownBlock = some g → u.ownBlock ≠ some g
theorem Apart.symm {v u : Value} (h : Apart v u) : Apart u v := fun g hu hv => h g hv hu
/-- What changes one row's block alone leaves a row that stands apart. -/
theorem OwnN.kept {w w' : World} {B : Nat} {v u : Value} {l : List Tr.Node} (h : OwnN w B u l) (hg : w.grownBy w' v.ownBlock) (hap : Apart v u) : OwnN w' B u l := by
  obtain ⟨a, c, rfl, ho⟩ := h
  refine ⟨a, c, rfl, ho.kept hg ?_⟩
  cases hb : (Value.slice a l.length c).ownBlock with
  | none => exact .inl rfl
  | some g => exact .inr fun hc => hap g hc.symm hb
theorem OwnN.lt {w : World} {B : Nat} {v : Value} {l : List Tr.Node} (h : OwnN w B v l) : ∀ g, v.ownBlock = some g → B ≤ g ∧ g < w.heap.size := by
  obtain ⟨a, c, rfl, ho⟩ := h
  exact ho.lt
/-- A row of nodes read as a slice. -/
theorem OwnN.at {w : World} {B : Nat} {v : Value} {l : List Tr.Node} (h : OwnN w B v l) : ∃ a c, v = .slice a l.length c ∧ (a = none → l.length = 0 ∧ c = 0) ∧ NodesAt w w.heap.size a l.length l := by
  obtain ⟨a, c, rfl, ho⟩ := h
  refine ⟨a, c, rfl, ?_, rfl, fun hn => ?_⟩
  · intro ha
    subst ha
    rcases ho.2 with ⟨hv, hz⟩ | ⟨g, cap, cur, hv, _⟩
    · injection hv with _ h2 h3; exact ⟨hz, h3⟩
    · cases hv
  · rcases ho.2 with ⟨_, hz⟩ | ⟨g, cap, cur, hv, hb, hg, hk, hm, hs, ht⟩
    · omega
    · injection hv with h1 _ _
      subst h1
      have hlt : g < w.heap.size := by
        by_cases hc : g < w.heap.size
        · exact hc
        · rw [Array.getElem?_eq_none (by omega)] at hg; cases hg
      refine ⟨g, 0, rfl, hlt, fun i hi => ?_⟩
      have key : ∀ j, j < 4 → w.cell? ⟨g, 0 + i * 4 + j, none⟩ = (Tr.nodeC l[i])[j]? := by
        intro j hj
        rw [cell_of_row _ _ _ _ _ _ hg, Nat.zero_add]
        have hx : i * 4 + j < l.length * 4 := by omega
        have e1 : cur[i * 4 + j]? = (cur.toList.take (l.length * 4))[i * 4 + j]? := by rw [List.getElem?_take_of_lt hx, Array.getElem?_toList]
        rw [e1, ht]
        exact Tr.nodesC_get l i j hi hj
      exact ⟨key 0 (by decide), key 1 (by decide), key 2 (by decide), key 3 (by decide)⟩
theorem NodesAt.news {w : World} {B n : Nat} {a : Option Addr} {l : List Tr.Node} (h : NodesAt w B a n l) : ∀ ad, a = some ad → ∀ j u, (Tr.nodesC l)[j]? = some u → w.cell? (ad.add j) = some u := by
  intro ad ha j u hu
  have hj : j < l.length * 4 := by have := (List.getElem?_eq_some_iff.1 hu).1; rwa [Tr.nodesC_length] at this
  obtain ⟨b, off, e, _, hc⟩ := h.2 (by have := h.1; omega)
  rw [ha] at e
  injection e with e
  subst e
  have hi : j / 4 < l.length := by omega
  have hg := Tr.nodesC_get l (j / 4) (j % 4) hi (by omega)
  rw [show j / 4 * 4 + j % 4 = j by omega, hu] at hg
  obtain ⟨c0, c1, c2, c3⟩ := hc (j / 4) hi
  rw [Addr.add_lit]
  have hm : j % 4 = 0 ∨ j % 4 = 1 ∨ j % 4 = 2 ∨ j % 4 = 3 := by omega
  rcases hm with hm | hm | hm | hm
  · rw [hm] at hg
    rw [show off + j = off + j / 4 * 4 by omega, c0]
    exact hg.symm
  · rw [hm] at hg
    rw [show off + j = off + j / 4 * 4 + 1 by omega, c1]
    exact hg.symm
  · rw [hm] at hg
    rw [show off + j = off + j / 4 * 4 + 2 by omega, c2]
    exact hg.symm
  · rw [hm] at hg
    rw [show off + j = off + j / 4 * 4 + 3 by omega, c3]
    exact hg.symm
/-- append of any slice of nodes (nil too) onto a row of the call's own; and where the new row lies. -/
theorem wpL_append_nodes (w : World) {ops : Array Oper} {rest : List Oper} {o : Oper} {a : Act} {Q : Exit → Act → World → Prop} (hgd : o.guard = none) (s x : Operand)
    (ho : o.op = .call { callee := .builtin .append, args := #[s, x], argTypes := #[22, 22] }) (B : Nat) (v : Value) (l : List Tr.Node) (hs : a.eval s = v) (hO : OwnN w B v l)
    (ao : Option Addr) (m cx : Nat) (news : List Tr.Node) (hx : a.eval x = .slice ao m cx) (hnil : ao = none → m = 0 ∧ cx = 0) (hat : NodesAt w w.heap.size ao m news) (hmax : l.length + m ≤ 3518437208883) (hB : B ≤ w.heap.size)
    (h : ∀ v' w', OwnN w' B v' (l ++ news) → w.grownBy w' v.ownBlock → Hid (v'.ownBlock = v.ownBlock ∨ v'.ownBlock = some w.heap.size) → wpList Try.prog ops Q rest (a.put o.dst v') w') : wpList Try.prog ops Q (o :: rest) a w := by
  obtain ⟨i, hi, hz0, hz1, hz2⟩ := info_node
  obtain ⟨av, cv, rfl, hown⟩ := hO
  have hm := hat.1
  cases ao with
  | some ad =>
    obtain ⟨v', w', hr, h2, h3, _, h5⟩ := run_append_own_at (P := Try.prog) w B 22 o.type 56 i _ 4 40 Try.underlying22 hi hz0 hz1 hz2 rfl (by decide) _ l.length _ hown ad m cx (Tr.nodesC news) (by rw [Tr.nodesC_length, hm]) (hat.news ad rfl) (Tr.nodesC_one _) (by unfold maxLen; omega) (by omega) hB
    obtain ⟨a', c', rfl⟩ := own_to h2
    refine wpList_plain hgd fun K hK => ?_
    unfold Oper.wp execOp
    simp only [ho, resolve, invoke, builtin, Sem.run_bind, Sem.run_pure, Result.andThen_ok, List.map_toArray, List.map_cons, List.map_nil, hs, hx, hr]
    refine hK _ _ (h _ w' ⟨a', c', by rw [List.length_append, hm], ?_⟩ h3 (Lib.hid h5))
    rw [List.length_append, hm, Tr.nodesC_append]
    exact h2
  | none =>
    obtain ⟨rfl, rfl⟩ := hnil rfl
    obtain rfl : news = [] := List.eq_nil_of_length_eq_zero hm
    have hr := run_append_owned_none (P := Try.prog) (w := w) B 22 o.type 56 i 4 Try.underlying22 hi _ l.length _ hown
    refine wpList_plain hgd fun K hK => ?_
    unfold Oper.wp execOp
    simp only [ho, resolve, invoke, builtin, Sem.run_bind, Sem.run_pure, Result.andThen_ok, List.map_toArray, List.map_cons, List.map_nil, hs, hx, hr]
    exact hK _ _ (h _ w ⟨av, cv, by simp, by simpa using hown⟩ (World.grownBy.refl _ _) (Lib.hid (.inl rfl)))
theorem OwnN.at' {w : World} {B : Nat} {a : Option Addr} {c : Nat} {l : List Tr.Node} (h : OwnN w B (.slice a l.length c) l) : (a = none → l.length = 0 ∧ c = 0) ∧ NodesAt w w.heap.size a l.length l := by
  obtain ⟨a', c', e, h1, h2⟩ := h.at
  injection e with e1 _ e3
  subst e1 e3
  exact ⟨h1, h2⟩
theorem NodesAt.up {w : World} {B B' n : Nat} {a : Option Addr} {l : List Tr.Node} (h : NodesAt w B a n l) (hB : B ≤ B') : NodesAt w B' a n l :=
  ⟨h.1, fun hn => by obtain ⟨b, off, e, hlt, hc⟩ := h.2 hn; exact ⟨b, off, e, by omega, hc⟩⟩
/-- A node lies in a block. -/
def NodeIn (w : World) (g : Nat) (n : Tr.Node) : Prop := w.heap[g]? = some (.cells #[.int .u32 (n.a : Int), .int .i64 n.b, .string n.o, .int .i64 n.s] 56 (0, 0))
theorem NodeIn.lt {w : World} {g : Nat} {n : Tr.Node} (h : NodeIn w g n) : g < w.heap.size := by
  by_cases hc : g < w.heap.size
  · exact hc
  · unfold NodeIn at h; rw [Array.getElem?_eq_none (by omega)] at h; cases h
theorem NodeIn.low {w w' : World} {B g : Nat} {n : Tr.Node} (h : NodeIn w g n) (hb : Below B w w') (hg : g < B) : NodeIn w' g n := (hb.block g hg).trans h
theorem NodeIn.cells {w : World} {g : Nat} {n : Tr.Node} (h : NodeIn w g n) : w.cell? ⟨g, 0, none⟩ = some (.int .u32 (n.a : Int)) ∧ w.cell? ⟨g, 1, none⟩ = some (.int .i64 n.b) ∧ w.cell? ⟨g, 2, none⟩ = some (.string n.o) ∧ w.cell? ⟨g, 3, none⟩ = some (.int .i64 n.s) :=
  ⟨(cell_of_row _ _ 0 _ _ _ h).trans rfl, (cell_of_row _ _ 1 _ _ _ h).trans rfl, (cell_of_row _ _ 2 _ _ _ h).trans rfl, (cell_of_row _ _ 3 _ _ _ h).trans rfl⟩
theorem NodeIn.frozen {w : World} {g : Nat} {n : Tr.Node} (h : NodeIn w g n) (i : Nat) : w.frozen? ⟨g, i, none⟩ = false := by unfold NodeIn at h; simp [World.frozen?, h]
theorem NodeIn.owner {w : World} {g : Nat} {n : Tr.Node} (h : NodeIn w g n) (o : ByteArray) : NodeIn (w.setCell ⟨g, 2, none⟩ (.string o)) g { n with o := o } := by
  unfold NodeIn at *
  rw [heap_setCell_same _ _ _ _ _ _ h]
  rfl
theorem NodeIn.size {w : World} {g : Nat} {n : Tr.Node} (h : NodeIn w g n) (s : Int) : NodeIn (w.setCell ⟨g, 3, none⟩ (.int .i64 s)) g { n with s := s } := by
  unfold NodeIn at *
  rw [heap_setCell_same _ _ _ _ _ _ h]
  rfl
theorem OwnN.other {w : World} {B g i : Nat} {v x : Value} {l : List Tr.Node} (h : OwnN w B v l) (hg : g < B) : OwnN (w.setCell ⟨g, i, none⟩ x) B v l := by
  obtain ⟨a, c, e, ho⟩ := h
  refine ⟨a, c, e, ho.1, ?_⟩
  rcases ho.2 with hn | ⟨k, cap, cur, hv, hb, hk, r⟩
  · exact .inl hn
  · exact .inr ⟨k, cap, cur, hv, hb, (heap_setCell_other w ⟨g, i, none⟩ k x (by show k ≠ g; omega)).trans hk, r⟩
theorem OwnN.newer {w : World} {B g i : Nat} {v x : Value} {l : List Tr.Node} (h : OwnN w B v l) (hg : ∀ b, v.ownBlock = some b → b ≠ g) : OwnN (w.setCell ⟨g, i, none⟩ x) B v l := by
  obtain ⟨a, c, rfl, ho⟩ := h
  refine ⟨a, c, rfl, ho.1, ?_⟩
  rcases ho.2 with hn | ⟨k, cap, cur, hv, hb, hk, r⟩
  · exact .inl hn
  · have hne : k ≠ g := hg k (by rw [hv]; rfl)
    exact .inr ⟨k, cap, cur, hv, hb, (heap_setCell_other w ⟨g, i, none⟩ k x hne).trans hk, r⟩
theorem nodesAt_new (w : World) (n : Tr.Node) : NodesAt (w.alloc (.cells #[.int .u32 (n.a : Int), .int .i64 n.b, .string n.o, .int .i64 n.s] 56)) (w.alloc (.cells #[.int .u32 (n.a : Int), .int .i64 n.b, .string n.o, .int .i64 n.s] 56)).heap.size (some ⟨w.heap.size, 0, none⟩) 1 [n] := by
  refine ⟨rfl, fun _ => ⟨w.heap.size, 0, rfl, by simp, fun i hi => ?_⟩⟩
  obtain rfl : i = 0 := by simpa using hi
  have hg : NodeIn (w.alloc (.cells #[.int .u32 (n.a : Int), .int .i64 n.b, .string n.o, .int .i64 n.s] 56)) w.heap.size n := heap_alloc_last w _
  exact hg.cells
theorem own_new (w : World) (B : Nat) (n : Tr.Node) (hB : B ≤ w.heap.size) : OwnN (w.alloc (.cells #[.int .u32 (n.a : Int), .int .i64 n.b, .string n.o, .int .i64 n.s] 56)) B (.slice (some ⟨w.heap.size, 0, none⟩) 1 1) [n] :=
  ⟨_, 1, rfl, rfl, .inr ⟨w.heap.size, 1, _, rfl, hB, heap_alloc_last w _, Nat.le_refl _, by decide, rfl, rfl⟩⟩
theorem apart_grownN {w : World} {B : Nat} {v v' u : Value} {l : List Tr.Node} (hu : OwnN w B u l) (hap : Apart v u) (hat : v'.ownBlock = v.ownBlock ∨ v'.ownBlock = some w.heap.size) : Apart v' u := by
  intro g hg hb
  rcases hat with hat | hat
  · exact hap g (hat ▸ hg) hb
  · rw [hat] at hg
    injection hg with hg
    have := (hu.lt g hb).2
    omega
theorem apart_grownN' {w : World} {B N : Nat} {v v' u : Value} {l : List Tr.Node} (hu : OwnN w B u l) (hap : Apart v u) (hat : v'.ownBlock = v.ownBlock ∨ v'.ownBlock = some N) (hN : w.heap.size ≤ N) : Apart v' u := by
  intro g hg hb
  rcases hat with hat | hat
  · exact hap g (hat ▸ hg) hb
  · rw [hat] at hg
    injection hg with hg
    have := (hu.lt g hb).2
    omega
theorem below_grownN {w w' : World} {B : Nat} {v : Value} {l : List Tr.Node} (ho : OwnN w B v l) (hg : w.grownBy w' v.ownBlock) (hB : B ≤ w.heap.size) : Below B w w' := (Below.refl B _).grown hg hB (fun k hk => (ho.lt k hk).1)
end Go.Proofs.Ytldfamdjdkaloaa
