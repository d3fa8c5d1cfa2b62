/- The plain words of chapter 8, more: nodes in order part at a place; the errors of Check; how many networks there are. -/
import Derived.Test.YtjdflnnpamjjcaaGreatDoorSz11
import Derived.Test.YtjdflnnpamjjcaaGreatDoorSz02
import Derived.Maps.AppendAt
namespace Go.Proofs.YtjdflnnpamjjcaaGreatDoor
open Go.RowKit

theorem OwnN.below {w w' : World} {B : Nat} {v : Value} {l : List Tr.Node} (h : OwnN w B v l) (hb : Below w.heap.size w w') : OwnN w' B v l := by
  obtain ⟨a, c, e, ho⟩ := h
  exact ⟨a, c, e, ho.kept (row := none) ⟨hb.os, hb.tape, hb.output, hb.size, fun j hj _ => hb.block j hj⟩ (by cases hv : (Value.slice a l.length c).ownBlock <;> simp)⟩
theorem OwnN.base {w : World} {B B' : Nat} {v : Value} {l : List Tr.Node} (h : OwnN w B v l) (hb : B' ≤ B) : OwnN w B' v l := by
  obtain ⟨a, c, e, ho⟩ := h
  exact ⟨a, c, e, ownsRow_base4 ho hb⟩
/-- Rows of the call's own apart: no block bears both. -/
def Apart (v u : Value) : Prop := ∀ g, v.ownBlock = some g → u.ownBlock ≠ some g
theorem Apart.symm {v u : Value} (h : Apart v u) : Apart u v := fun g hu hv => h g hv hu
/-- What changes one row's block alone leaves a row that stands apart. -/
theorem OwnN.kept {w w' : World} {B : Nat} {v u : Value} {l : List Tr.Node} (h : OwnN w B u l) (hg : w.grownBy w' v.ownBlock) (hap : Apart v u) : OwnN w' B u l := by
  obtain ⟨a, c, rfl, ho⟩ := h
  refine ⟨a, c, rfl, ho.kept hg ?_⟩
  cases hb : (Value.slice a l.length c).ownBlock with
  | none => exact .inl rfl
  | some g => exact .inr fun hc => hap g hc.symm hb
theorem OwnN.lt {w : World} {B : Nat} {v : Value} {l : List Tr.Node} (h : OwnN w B v l) : ∀ g, v.ownBlock = some g → B ≤ g ∧ g < w.heap.size := by
  obtain ⟨a, c, rfl, ho⟩ := h
  exact ho.lt
/-- A row of nodes read as a slice. -/
theorem OwnN.at {w : World} {B : Nat} {v : Value} {l : List Tr.Node} (h : OwnN w B v l) : ∃ a c, v = .slice a l.length c ∧ (a = none → l.length = 0 ∧ c = 0) ∧ NodesAt w w.heap.size a l.length l := by
  obtain ⟨a, c, rfl, ho⟩ := h
  refine ⟨a, c, rfl, ?_, rfl, fun hn => ?_⟩
  · intro ha
    subst ha
    rcases ho.2 with ⟨hv, hz⟩ | ⟨g, cap, cur, hv, _⟩
    · injection hv with _ h2 h3; exact ⟨hz, h3⟩
    · cases hv
  · rcases ho.2 with ⟨_, hz⟩ | ⟨g, cap, cur, hv, hb, hg, hk, hm, hs, ht⟩
    · omega
    · injection hv with h1 _ _
      subst h1
      have hlt : g < w.heap.size := by
        by_cases hc : g < w.heap.size
        · exact hc
        · rw [Array.getElem?_eq_none (by omega)] at hg; cases hg
      refine ⟨g, 0, rfl, hlt, fun i hi => ?_⟩
      have key : ∀ j, j < 4 → w.cell? ⟨g, 0 + i * 4 + j, none⟩ = (Tr.nodeC l[i])[j]? := by
        intro j hj
        rw [cell_of_row _ _ _ _ _ _ hg, Nat.zero_add]
        have hx : i * 4 + j < l.length * 4 := by omega
        have e1 : cur[i * 4 + j]? = (cur.toList.take (l.length * 4))[i * 4 + j]? := by rw [List.getElem?_take_of_lt hx, Array.getElem?_toList]
        rw [e1, ht]
        exact Tr.nodesC_get l i j hi hj
      exact ⟨key 0 (by decide), key 1 (by decide), key 2 (by decide), key 3 (by decide)⟩
theorem NodesAt.news {w : World} {B n : Nat} {a : Option Addr} {l : List Tr.Node} (h : NodesAt w B a n l) : ∀ ad, a = some ad → ∀ j u, (Tr.nodesC l)[j]? = some u → w.cell? (ad.add j) = some u := by
  intro ad ha j u hu
  have hj : j < l.length * 4 := by have := (List.getElem?_eq_some_iff.1 hu).1; rwa [Tr.nodesC_length] at this
  obtain ⟨b, off, e, _, hc⟩ := h.2 (by have := h.1; omega)
  rw [ha] at e
  injection e with e
  subst e
  have hi : j / 4 < l.length := by omega
  have hg := Tr.nodesC_get l (j / 4) (j % 4) hi (by omega)
  rw [show j / 4 * 4 + j % 4 = j by omega, hu] at hg
  obtain ⟨c0, c1, c2, c3⟩ := hc (j / 4) hi
  rw [Addr.add_lit]
  have hm : j % 4 = 0 ∨ j % 4 = 1 ∨ j % 4 = 2 ∨ j % 4 = 3 := by omega
  rcases hm with hm | hm | hm | hm
  · rw [hm] at hg
    rw [show off + j = off + j / 4 * 4 by omega, c0]
    exact hg.symm
  · rw [hm] at hg
    rw [show off + j = off + j / 4 * 4 + 1 by omega, c1]
    exact hg.symm
  · rw [hm] at hg
    rw [show off + j = off + j / 4 * 4 + 2 by omega, c2]
    exact hg.symm
  · rw [hm] at hg
    rw [show off + j = off + j / 4 * 4 + 3 by omega, c3]
    exact hg.symm
/-- append of any slice of nodes (nil too) onto a row of the call's own; and where the new row lies. -/
theorem wpL_append_nodes (w : World) {ops : Array Oper} {rest : List Oper} {o : Oper} {a : Act} {Q : Exit → Act → World → Prop} (hgd : o.guard = none) (s x : Operand)
    (ho : o.op = .call { callee := .builtin .append, args := #[s, x], argTypes := #[33, 33] }) (B : Nat) (v : Value) (l : List Tr.Node) (hs : a.eval s = v) (hO : OwnN w B v l)
    (ao : Option Addr) (m cx : Nat) (news : List Tr.Node) (hx : a.eval x = .slice ao m cx) (hnil : ao = none → m = 0 ∧ cx = 0) (hat : NodesAt w w.heap.size ao m news) (hmax : l.length + m ≤ 3518437208883) (hB : B ≤ w.heap.size)
    (h : ∀ v' w', OwnN w' B v' (l ++ news) → w.grownBy w' v.ownBlock → Hid (v'.ownBlock = v.ownBlock ∨ v'.ownBlock = some w.heap.size) → wpList Tryz.prog ops Q rest (a.put o.dst v') w') : wpList Tryz.prog ops Q (o :: rest) a w := by
  obtain ⟨i, hi, hz0, hz1, hz2⟩ := info_node
  obtain ⟨av, cv, rfl, hown⟩ := hO
  have hm := hat.1
  cases ao with
  | some ad =>
    obtain ⟨v', w', hr, h2, h3, _, h5⟩ := run_append_own_at (P := Tryz.prog) w B 33 o.type 53 i _ 4 40 Tryz.underlying33 hi hz0 hz1 hz2 rfl (by decide) _ l.length _ hown ad m cx (Tr.nodesC news) (by rw [Tr.nodesC_length, hm]) (hat.news ad rfl) (Tr.nodesC_one _) (by unfold maxLen; omega) (by omega) hB
    obtain ⟨a', c', rfl⟩ := own_to h2
    refine wpList_plain hgd fun K hK => ?_
    unfold Oper.wp execOp
    simp only [ho, resolve, invoke, builtin, Sem.run_bind, Sem.run_pure, Result.andThen_ok, List.map_toArray, List.map_cons, List.map_nil, hs, hx, hr]
    refine hK _ _ (h _ w' ⟨a', c', by rw [List.length_append, hm], ?_⟩ h3 (Lib.hid h5))
    rw [List.length_append, hm, Tr.nodesC_append]
    exact h2
  | none =>
    obtain ⟨rfl, rfl⟩ := hnil rfl
    obtain rfl : news = [] := List.eq_nil_of_length_eq_zero hm
    have hr := run_append_owned_none (P := Tryz.prog) (w := w) B 33 o.type 53 i 4 Tryz.underlying33 hi _ l.length _ hown
    refine wpList_plain hgd fun K hK => ?_
    unfold Oper.wp execOp
    simp only [ho, resolve, invoke, builtin, Sem.run_bind, Sem.run_pure, Result.andThen_ok, List.map_toArray, List.map_cons, List.map_nil, hs, hx, hr]
    exact hK _ _ (h _ w ⟨av, cv, by simp, by simpa using hown⟩ (World.grownBy.refl _ _) (Lib.hid (.inl rfl)))
theorem OwnN.at' {w : World} {B : Nat} {a : Option Addr} {c : Nat} {l : List Tr.Node} (h : OwnN w B (.slice a l.length c) l) : (a = none → l.length = 0 ∧ c = 0) ∧ NodesAt w w.heap.size a l.length l := by
  obtain ⟨a', c', e, h1, h2⟩ := h.at
  injection e with e1 _ e3
  subst e1 e3
  exact ⟨h1, h2⟩
theorem NodesAt.up {w : World} {B B' n : Nat} {a : Option Addr} {l : List Tr.Node} (h : NodesAt w B a n l) (hB : B ≤ B') : NodesAt w B' a n l :=
  ⟨h.1, fun hn => by obtain ⟨b, off, e, hlt, hc⟩ := h.2 hn; exact ⟨b, off, e, by omega, hc⟩⟩
/-- A node lies in a block. -/
def NodeIn (w : World) (g : Nat) (n : Tr.Node) : Prop := w.heap[g]? = some (.cells #[.int .u32 (n.a : Int), .int .i64 n.b, .string n.o, .int .i64 n.s] 53 (0, 0))
theorem NodeIn.lt {w : World} {g : Nat} {n : Tr.Node} (h : NodeIn w g n) : g < w.heap.size := by
  by_cases hc : g < w.heap.size
  · exact hc
  · unfold NodeIn at h; rw [Array.getElem?_eq_none (by omega)] at h; cases h
theorem NodeIn.low {w w' : World} {B g : Nat} {n : Tr.Node} (h : NodeIn w g n) (hb : Below B w w') (hg : g < B) : NodeIn w' g n := (hb.block g hg).trans h
theorem NodeIn.cells {w : World} {g : Nat} {n : Tr.Node} (h : NodeIn w g n) : w.cell? ⟨g, 0, none⟩ = some (.int .u32 (n.a : Int)) ∧ w.cell? ⟨g, 1, none⟩ = some (.int .i64 n.b) ∧ w.cell? ⟨g, 2, none⟩ = some (.string n.o) ∧ w.cell? ⟨g, 3, none⟩ = some (.int .i64 n.s) :=
  ⟨(cell_of_row _ _ 0 _ _ _ h).trans rfl, (cell_of_row _ _ 1 _ _ _ h).trans rfl, (cell_of_row _ _ 2 _ _ _ h).trans rfl, (cell_of_row _ _ 3 _ _ _ h).trans rfl⟩
theorem NodeIn.frozen {w : World} {g : Nat} {n : Tr.Node} (h : NodeIn w g n) (i : Nat) : w.frozen? ⟨g, i, none⟩ = false := by unfold NodeIn at h; simp [World.frozen?, h]
theorem NodeIn.owner {w : World} {g : Nat} {n : Tr.Node} (h : NodeIn w g n) (o : ByteArray) : NodeIn (w.setCell ⟨g, 2, none⟩ (.string o)) g { n with o := o } := by
  unfold NodeIn at *
  rw [heap_setCell_same _ _ _ _ _ _ h]
  rfl
theorem NodeIn.size {w : World} {g : Nat} {n : Tr.Node} (h : NodeIn w g n) (s : Int) : NodeIn (w.setCell ⟨g, 3, none⟩ (.int .i64 s)) g { n with s := s } := by
  unfold NodeIn at *
  rw [heap_setCell_same _ _ _ _ _ _ h]
  rfl
theorem OwnN.other {w : World} {B g i : Nat} {v x : Value} {l : List Tr.Node} (h : OwnN w B v l) (hg : g < B) : OwnN (w.setCell ⟨g, i, none⟩ x) B v l := by
  obtain ⟨a, c, e, ho⟩ := h
  refine ⟨a, c, e, ho.1, ?_⟩
  rcases ho.2 with hn | ⟨k, cap, cur, hv, hb, hk, r⟩
  · exact .inl hn
  · exact .inr ⟨k, cap, cur, hv, hb, (heap_setCell_other w ⟨g, i, none⟩ k x (by show k ≠ g; omega)).trans hk, r⟩
theorem OwnN.newer {w : World} {B g i : Nat} {v x : Value} {l : List Tr.Node} (h : OwnN w B v l) (hg : ∀ b, v.ownBlock = some b → b ≠ g) : OwnN (w.setCell ⟨g, i, none⟩ x) B v l := by
  obtain ⟨a, c, rfl, ho⟩ := h
  refine ⟨a, c, rfl, ho.1, ?_⟩
  rcases ho.2 with hn | ⟨k, cap, cur, hv, hb, hk, r⟩
  · exact .inl hn
  · have hne : k ≠ g := hg k (by rw [hv]; rfl)
    exact .inr ⟨k, cap, cur, hv, hb, (heap_setCell_other w ⟨g, i, none⟩ k x hne).trans hk, r⟩
theorem nodesAt_new (w : World) (n : Tr.Node) : NodesAt (w.alloc (.cells #[.int .u32 (n.a : Int), .int .i64 n.b, .string n.o, .int .i64 n.s] 53)) (w.alloc (.cells #[.int .u32 (n.a : Int), .int .i64 n.b, .string n.o, .int .i64 n.s] 53)).heap.size (some ⟨w.heap.size, 0, none⟩) 1 [n] := by
  refine ⟨rfl, fun _ => ⟨w.heap.size, 0, rfl, by simp, fun i hi => ?_⟩⟩
  obtain rfl : i = 0 := by simpa using hi
  have hg : NodeIn (w.alloc (.cells #[.int .u32 (n.a : Int), .int .i64 n.b, .string n.o, .int .i64 n.s] 53)) w.heap.size n := heap_alloc_last w _
  exact hg.cells
theorem own_new (w : World) (B : Nat) (n : Tr.Node) (hB : B ≤ w.heap.size) : OwnN (w.alloc (.cells #[.int .u32 (n.a : Int), .int .i64 n.b, .string n.o, .int .i64 n.s] 53)) B (.slice (some ⟨w.heap.size, 0, none⟩) 1 1) [n] :=
  ⟨_, 1, rfl, rfl, .inr ⟨w.heap.size, 1, _, rfl, hB, heap_alloc_last w _, Nat.le_refl _, by decide, rfl, rfl⟩⟩
theorem apart_grownN {w : World} {B : Nat} {v v' u : Value} {l : List Tr.Node} (hu : OwnN w B u l) (hap : Apart v u) (hat : v'.ownBlock = v.ownBlock ∨ v'.ownBlock = some w.heap.size) : Apart v' u := by
  intro g hg hb
  rcases hat with hat | hat
  · exact hap g (hat ▸ hg) hb
  · rw [hat] at hg
    injection hg with hg
    have := (hu.lt g hb).2
    omega
theorem apart_grownN' {w : World} {B N : Nat} {v v' u : Value} {l : List Tr.Node} (hu : OwnN w B u l) (hap : Apart v u) (hat : v'.ownBlock = v.ownBlock ∨ v'.ownBlock = some N) (hN : w.heap.size ≤ N) : Apart v' u := by
  intro g hg hb
  rcases hat with hat | hat
  · exact hap g (hat ▸ hg) hb
  · rw [hat] at hg
    injection hg with hg
    have := (hu.lt g hb).2
    omega
theorem below_grownN {w w' : World} {B : Nat} {v : Value} {l : List Tr.Node} (ho : OwnN w B v l) (hg : w.grownBy w' v.ownBlock) (hB : B ≤ w.heap.size) : Below B w w' := (Below.refl B _).grown hg hB (fun k hk => (ho.lt k hk).1)
end Go.Proofs.YtjdflnnpamjjcaaGreatDoor

namespace Go.Proofs.YtjdflnnpamjjcaaGreatDoor.Tr
open Nt

/-- The order of networks. -/
def lt (x y : Nw) : Prop := x.1 < y.1 ∨ x.1 = y.1 ∧ x.2 < y.2
instance (x y : Nw) : Decidable (lt x y) := by unfold lt; exact inferInstance
theorem lt_irrefl (x : Nw) : ¬ lt x x := by unfold lt; omega
theorem lt_trans {x y z : Nw} (h1 : lt x y) (h2 : lt y z) : lt x z := by unfold lt at *; omega
theorem lt_asymm {x y : Nw} (h1 : lt x y) : ¬ lt y x := by unfold lt at *; omega
theorem lt_or {x y : Nw} (h : ¬ lt x y) (hne : x ≠ y) : lt y x := by
  unfold lt at *
  have : x.1 ≠ y.1 ∨ x.2 ≠ y.2 := by
    by_cases h1 : x.1 = y.1
    · exact .inr fun h2 => hne (Prod.ext h1 h2)
    · exact .inl h1
  omega
theorem order_lt {x y : Nw} : order x.1 x.2 y.1 y.2 < 0 ↔ lt x y := by
  unfold order lt
  split
  · next h => exact ⟨fun _ => h, fun _ => by decide⟩
  · next h => exact ⟨fun h' => by split at h' <;> omega, fun h' => absurd h' h⟩
theorem order_zero {x y : Nw} : order x.1 x.2 y.1 y.2 = 0 ↔ x = y := by
  unfold order
  constructor
  · intro h
    split at h
    · omega
    · split at h
      · next h2 => exact Prod.ext h2.1 h2.2
      · omega
  · rintro rfl
    rw [if_neg (by omega), if_pos ⟨rfl, rfl⟩]
/-- A network is ahead of what it holds. -/
theorem lt_of_H {t n : Nw} (h : H t n) (hne : n ≠ t) : lt t n := by
  obtain ⟨l1, _, _⟩ := longer h hne
  obtain ⟨_, _, _, h4⟩ := holds_iff.1 h
  have := cut_le n.1 t.2.toNat
  unfold lt
  omega
theorem half_bits {t x : Nw} {k : Nat} (h : H (half t k) x) : t.2 + 1 ≤ x.2 := (holds_iff.1 h).2.1
/-- The halves of a network lie one behind the other. -/
theorem lt_halves {t x y : Nw} (ht : 0 ≤ t.2) (h0 : H (half t 0) x) (h1 : H (half t 1) y) : lt x y := by
  obtain ⟨a1, a2, a3, a4⟩ := holds_iff.1 h0
  obtain ⟨b1, b2, b3, b4⟩ := holds_iff.1 h1
  obtain ⟨tn, htn⟩ : ∃ tn : Nat, t.2 = (tn : Int) := ⟨t.2.toNat, by omega⟩
  have e : ∀ k, (half t k).2.toNat = tn + 1 := by intro k; unfold half; rw [htn]; omega
  have hb := (err_zero b3).2.1
  have hlt : tn < 32 := by have : (half t 1).2 = (tn : Int) + 1 := by unfold half; rw [htn]
                           omega
  rw [e] at a4 b4
  have c0 : cut x.1 (tn + 1) = t.1 := by rw [a4]; unfold half; simp
  have c1 : cut y.1 (tn + 1) = t.1 + 2 ^ (31 - tn) := by rw [b4]; unfold half; rw [htn, Int.toNat_natCast]; simp
  have g1 := cut_le y.1 (tn + 1)
  have g0 : x.1 < cut x.1 (tn + 1) + 2 ^ (31 - tn) := by
    unfold cut
    rw [show 32 - (tn + 1) = 31 - tn by omega]
    have := Nat.div_add_mod x.1 (2 ^ (31 - tn))
    have h2 := Nat.mod_lt x.1 (Nat.two_pow_pos (31 - tn))
    rw [Nat.mul_comm] at this
    omega
  unfold lt
  left
  omega
theorem cut_le_cut {a b : Nat} (h : a ≤ b) (n : Nat) : cut a n ≤ cut b n := Nat.mul_le_mul_right _ (Nat.div_le_div_right h)

theorem left_half {l : List Node} (h : ∀ n ∈ l, good (nw n)) : ∀ n ∈ leftOf (topN l) l, H (half (topN l) 0) (nw n) := by
  intro n hn
  unfold leftOf at hn
  rw [List.mem_filter, Bool.and_eq_true, decide_eq_true_eq, decide_eq_true_eq] at hn
  have := half_holds (topN_holds h n hn.1) hn.2.1
  rw [show bitAt (nw n).1 (topN l).2.toNat = 0 from hn.2.2] at this
  exact this
theorem right_half {l : List Node} (h : ∀ n ∈ l, good (nw n)) : ∀ n ∈ rightOf (topN l) l, H (half (topN l) 1) (nw n) := by
  intro n hn
  unfold rightOf at hn
  rw [List.mem_filter, Bool.and_eq_true, decide_eq_true_eq, decide_eq_true_eq] at hn
  have := half_holds (topN_holds h n hn.1) hn.2.1
  rw [show bitAt (nw n).1 (topN l).2.toNat = 1 from (bit_two _ _).resolve_left hn.2.2] at this
  exact this
/-- All nodes of a trie lie within what holds all its networks. -/
theorem grown_in : ∀ (f : Nat) (l : List Node) (p : Nw), (∀ n ∈ l, good (nw n)) → (∀ n ∈ l, H p (nw n)) → ∀ n ∈ grown f l, H p (nw n) := by
  intro f
  induction f with
  | zero => intro l p _ _ n hn; unfold grown at hn; cases hn
  | succ f ih =>
    intro l p hg hp n hn
    cases l with
    | nil => unfold grown at hn; cases hn
    | cons x r =>
      unfold grown at hn
      rcases List.mem_cons.1 hn with rfl | hn
      · exact topN_least (by simp) hp
      · rcases List.mem_append.1 hn with hn | hn
        · exact ih _ p (left_good hg) (fun m hm => hp m (List.mem_filter.1 hm).1) n hn
        · exact ih _ p (right_good hg) (fun m hm => hp m (List.mem_filter.1 hm).1) n hn
theorem grown_good (f : Nat) (l : List Node) (hg : ∀ n ∈ l, good (nw n)) : ∀ n ∈ grown f l, good (nw n) := by
  revert l
  induction f with
  | zero => intro l _ n hn; unfold grown at hn; cases hn
  | succ f ih =>
    intro l hg n hn
    cases l with
    | nil => unfold grown at hn; cases hn
    | cons x r =>
      unfold grown at hn
      rcases List.mem_cons.1 hn with rfl | hn
      · exact topN_good (by simp) hg
      · rcases List.mem_append.1 hn with hn | hn
        · exact ih _ (left_good hg) n hn
        · exact ih _ (right_good hg) n hn
/-- In order, each greater than those ahead of it. -/
def sorted (l : List Node) : Prop := l.Pairwise fun n m => lt (nw n) (nw m)
theorem grown_sorted : ∀ (f : Nat) (l : List Node), (∀ n ∈ l, good (nw n)) → sorted (grown f l) := by
  intro f
  induction f with
  | zero => intro l _; unfold grown; exact List.Pairwise.nil
  | succ f ih =>
    intro l hg
    cases l with
    | nil => unfold grown; exact List.Pairwise.nil
    | cons x r =>
      have gt := topN_good (l := x :: r) (by simp) hg
      have t0 := (err_zero gt.2).1
      have hl := grown_in f _ _ (left_good hg) (left_half hg)
      have hr := grown_in f _ _ (right_good hg) (right_half hg)
      have gl := grown_in f (leftOf (topN (x :: r)) (x :: r)) (topN (x :: r)) (left_good hg) (fun m hm => topN_holds hg m (List.mem_filter.1 hm).1)
      have gr := grown_in f (rightOf (topN (x :: r)) (x :: r)) (topN (x :: r)) (right_good hg) (fun m hm => topN_holds hg m (List.mem_filter.1 hm).1)
      unfold grown
      refine List.Pairwise.cons ?_ (List.pairwise_append.2 ⟨ih _ (left_good hg), ih _ (right_good hg), fun n hn m hm => lt_halves t0 (hl n hn) (hr m hm)⟩)
      intro n hn
      show lt (topN (x :: r)) (nw n)
      rcases List.mem_append.1 hn with hn | hn
      · refine lt_of_H (gl n hn) fun e => ?_
        have := half_bits (hl n hn)
        rw [e] at this
        omega
      · refine lt_of_H (gr n hn) fun e => ?_
        have := half_bits (hr n hn)
        rw [e] at this
        omega
theorem owned_sorted {l : List Node} (h : sorted l) : sorted (owned l) := by
  unfold owned sorted
  rw [List.pairwise_map]
  exact (List.Pairwise.filter _ h).imp fun h => h
theorem owned_good {l : List Node} (h : ∀ n ∈ l, good (nw n)) : ∀ n ∈ owned l, good (nw n) := by
  intro n hn
  unfold owned at hn
  obtain ⟨m, hm, rfl⟩ := List.mem_map.1 hn
  exact h m (List.mem_filter.1 hm).1
/-- Of nodes in order the top is the join of the first and the last. -/
theorem top_ends {l : List Node} (hg : ∀ n ∈ l, good (nw n)) (hs : sorted l) {x z : Node} (hx : l.head? = some x) (hz : l.getLast? = some z) : topN l = join (nw x) (nw z) := by
  have hne : l ≠ [] := by intro h; rw [h] at hx; cases hx
  have mx : x ∈ l := List.mem_of_mem_head? (by rw [hx]; rfl)
  have mz : z ∈ l := List.mem_of_getLast? hz
  have gx := hg x mx
  have gz := hg z mz
  have hle : ∀ n ∈ l, (n = x ∨ lt (nw x) (nw n)) ∧ (n = z ∨ lt (nw n) (nw z)) := by
    intro n hn
    constructor
    · match l, hx, hs with
      | y :: r, hx, hs =>
        injection hx with hx
        subst hx
        rcases List.mem_cons.1 hn with h | h
        · exact .inl h
        · exact .inr ((List.pairwise_cons.1 hs).1 n h)
    · obtain ⟨r, rfl⟩ := List.getLast?_eq_some_iff.1 hz
      rcases List.mem_append.1 hn with h | h
      · exact .inr ((List.pairwise_append.1 hs).2.2 n h z (by simp))
      · exact .inl (by simpa using h)
  refine H_anti ?_ ?_
  · exact join_min (topN_holds hg x mx) (topN_holds hg z mz)
  · refine topN_least hne fun n hn => ?_
    obtain ⟨h1, h2⟩ := hle n hn
    have gn := hg n hn
    have jx := join_l gx gz
    have jz := join_r gx gz
    rcases h1 with rfl | h1
    · exact jx
    rcases h2 with rfl | h2
    · exact jz
    have gj := join_good' gx gz
    generalize join (nw x) (nw z) = j at *
    obtain ⟨x1, x2, x3, x4⟩ := holds_iff.1 jx
    obtain ⟨z1, z2, z3, z4⟩ := holds_iff.1 jz
    obtain ⟨j0, j1, j2⟩ := err_zero gj.2
    obtain ⟨n0, n1, n2⟩ := err_zero gn.2
    have hxn : (nw x).1 ≤ (nw n).1 := by unfold lt at h1; omega
    have hnz : (nw n).1 ≤ (nw z).1 := by unfold lt at h2; omega
    have hc : cut (nw n).1 j.2.toNat = j.1 := by
      have c1 := cut_le_cut hxn j.2.toNat
      have c2 := cut_le_cut hnz j.2.toNat
      omega
    refine holds_iff.2 ⟨gn.2, ?_, gj.2, hc⟩
    apply Decidable.byContradiction
    intro hlt
    have hk : (nw n).2.toNat ≤ j.2.toNat := by omega
    have e1 := cut_cut (nw n).1 hk
    have e2 := cut_cut (nw x).1 hk
    have e3 := cut_self n2
    have e4 := cut_le (nw x).1 (nw n).2.toNat
    rw [hc] at e1
    rw [x4] at e2
    unfold lt at h1
    omega
end Go.Proofs.YtjdflnnpamjjcaaGreatDoor.Tr

namespace Go.Proofs.YtjdflnnpamjjcaaGreatDoor.Tr
open Nt

/-- Each network once. -/
def once (l : List Node) : Prop := l.Pairwise fun n m => nw n ≠ nw m
theorem sorted_once {l : List Node} (h : sorted l) : once l := List.Pairwise.imp (R := fun n m => lt (nw n) (nw m)) (fun {a b} (h : lt (nw a) (nw b)) (e : nw a = nw b) => lt_irrefl (nw b) (by rw [e] at h; exact h)) h
theorem owner_none {t : Nw} : ∀ {l : List Node}, (∀ n ∈ l, nw n ≠ t) → ∀ o, l.foldl (fun o n => if nw n = t then n.o else o) o = o := by
  intro l
  induction l with
  | nil => intro _ o; rfl
  | cons x r ih =>
    intro h o
    rw [List.foldl_cons, if_neg (h x (List.mem_cons_self ..))]
    exact ih (fun n hn => h n (List.mem_cons_of_mem _ hn)) o
theorem owner_mem {t : Nw} : ∀ {l : List Node}, once l → ∀ {n : Node}, n ∈ l → nw n = t → ∀ o, l.foldl (fun o n => if nw n = t then n.o else o) o = n.o := by
  intro l
  induction l with
  | nil => intro _ n hn; cases hn
  | cons x r ih =>
    intro h n hn e o
    obtain ⟨h1, h2⟩ := List.pairwise_cons.1 h
    rw [List.foldl_cons]
    rcases List.mem_cons.1 hn with rfl | hn
    · rw [if_pos e]
      exact owner_none (fun m hm hc => h1 m hm (e.trans hc.symm)) _
    · exact ih h2 hn e _
theorem once_perm {l m : List Node} (h : l.Perm m) (ho : once l) : once m := (h.pairwise_iff (fun {_ _} h => Ne.symm h)).1 ho
theorem owner_perm {l m : List Node} (h : l.Perm m) (ho : once l) (t : Nw) : ownerOf t l = ownerOf t m := by
  unfold ownerOf
  by_cases hc : ∃ n ∈ l, nw n = t
  · obtain ⟨n, hn, e⟩ := hc
    rw [owner_mem ho hn e, owner_mem (once_perm h ho) (h.mem_iff.1 hn) e]
  · rw [owner_none (fun n hn e => hc ⟨n, hn, e⟩), owner_none (fun n hn e => hc ⟨n, h.mem_iff.2 hn, e⟩)]
theorem top_perm {l m : List Node} (h : l.Perm m) (hg : ∀ n ∈ l, good (nw n)) : topN l = topN m := by
  by_cases hl : l = []
  · subst hl; rw [List.nil_perm.1 h]
  · have hm : m ≠ [] := fun e => hl (by rw [e] at h; exact List.perm_nil.1 h)
    have hg' : ∀ n ∈ m, good (nw n) := fun n hn => hg n (h.mem_iff.2 hn)
    exact H_anti (topN_least hm fun n hn => topN_holds hg n (h.mem_iff.2 hn)) (topN_least hl fun n hn => topN_holds hg' n (h.mem_iff.1 hn))
/-- The trie does not depend on the order of the networks. -/
theorem grown_perm : ∀ (f : Nat) {l m : List Node}, l.Perm m → once l → (∀ n ∈ l, good (nw n)) → grown f l = grown f m := by
  intro f
  induction f with
  | zero => intro l m _ _ _; unfold grown; rfl
  | succ f ih =>
    intro l m h ho hg
    cases l with
    | nil => rw [List.nil_perm.1 h]
    | cons x r =>
      cases m with
      | nil => exact absurd h.length_eq (by simp)
      | cons y q =>
        have ht := top_perm h hg
        have e1 := ih (h.filter fun n => decide (nw n ≠ topN (y :: q)) && decide (bitAt n.a (topN (y :: q)).2.toNat = 0)) (ho.filter _) (left_good hg)
        have e2 := ih (h.filter fun n => decide (nw n ≠ topN (y :: q)) && decide (bitAt n.a (topN (y :: q)).2.toNat ≠ 0)) (ho.filter _) (right_good hg)
        unfold grown
        rw [ht, owner_perm h ho]
        unfold leftOf rightOf
        rw [e1, e2]
/-- What is a top, and the halves: all there is. -/
theorem parts_perm (t : Nw) (l : List Node) : ((l.filter fun n => decide (nw n = t)) ++ (leftOf t l ++ rightOf t l)).Perm l := by
  have h1 := List.filter_append_perm (fun n => decide (nw n = t)) l
  have h2 := List.filter_append_perm (fun n => decide (bitAt n.a t.2.toNat = 0)) (l.filter fun n => !decide (nw n = t))
  refine List.Perm.trans ?_ h1
  refine List.Perm.append_left _ ?_
  refine List.Perm.trans ?_ h2
  unfold leftOf rightOf
  rw [List.filter_filter, List.filter_filter]
  refine List.Perm.of_eq ?_
  congr 1
  · apply List.filter_congr; intro n _; by_cases h : nw n = t <;> by_cases h' : bitAt n.a t.2.toNat = 0 <;> simp [h, h']
  · apply List.filter_congr; intro n _; by_cases h : nw n = t <;> by_cases h' : bitAt n.a t.2.toNat = 0 <;> simp [h, h']
theorem tops_once {t : Nw} {l : List Node} (ho : once l) : (l.filter fun n => decide (nw n = t)) = [] ∨ ∃ n ∈ l, nw n = t ∧ (l.filter fun n => decide (nw n = t)) = [n] := by
  cases h : l.filter fun n => decide (nw n = t) with
  | nil => exact .inl rfl
  | cons x r =>
    right
    have hx : x ∈ l.filter fun n => decide (nw n = t) := by rw [h]; exact List.mem_cons_self ..
    have ex : nw x = t := by simpa using (List.mem_filter.1 hx).2
    refine ⟨x, (List.mem_filter.1 hx).1, ex, ?_⟩
    have hp : once (x :: r) := by rw [← h]; exact ho.filter _
    cases r with
    | nil => rfl
    | cons y q =>
      have hy : y ∈ l.filter fun n => decide (nw n = t) := by rw [h]; simp
      have ey : nw y = t := by simpa using (List.mem_filter.1 hy).2
      exact absurd (ex.trans ey.symm) ((List.pairwise_cons.1 hp).1 y (List.mem_cons_self ..))
/-- Nodes that have owners, as if each were alone. -/
def single (l : List Node) : Prop := ∀ n ∈ l, 0 < n.o.size ∧ n.s = 1
theorem owned_single (l : List Node) : single (owned l) := by
  intro n hn
  unfold owned at hn
  obtain ⟨m, hm, rfl⟩ := List.mem_map.1 hn
  exact ⟨by simpa using (List.mem_filter.1 hm).2, rfl⟩
theorem owned_append (l m : List Node) : owned (l ++ m) = owned l ++ owned m := by unfold owned; rw [List.filter_append, List.map_append]
theorem owned_of_single {l : List Node} (h : single l) : owned l = l := by
  unfold owned
  rw [List.filter_eq_self.2 (fun n hn => by simpa using (h n hn).1)]
  refine (List.map_congr_left (g := id) fun n hn => ?_).trans (List.map_id l)
  obtain ⟨a, b, o, s⟩ := n
  have := (h _ hn).2
  simp at this
  subst this
  rfl
/-- The nodes of a trie that have owners are those that it was made of. -/
theorem owned_grown : ∀ (f : Nat) (l : List Node), (∀ n ∈ l, good (nw n)) → once l → single l → (l ≠ [] → 33 ≤ f + (topN l).2.toNat) → (owned (grown f l)).Perm l := by
  intro f
  induction f with
  | zero =>
    intro l hg _ _ hd
    cases l with
    | nil => exact List.Perm.refl _
    | cons x r =>
      exfalso
      have h1 := hd (by simp)
      have h2 := err_zero (topN_good (l := x :: r) (by simp) hg).2
      omega
  | succ f ih =>
    intro l hg ho hs hd
    cases l with
    | nil => exact List.Perm.refl _
    | cons x r =>
      have hd' := hd (by simp)
      have t0 := err_zero (topN_good (l := x :: r) (by simp) hg).2
      have hl := ih (leftOf (topN (x :: r)) (x :: r)) (left_good hg) (ho.filter _) (fun n hn => hs n (List.mem_filter.1 hn).1) (fun hne => by have := left_top hg hne; omega)
      have hr := ih (rightOf (topN (x :: r)) (x :: r)) (right_good hg) (ho.filter _) (fun n hn => hs n (List.mem_filter.1 hn).1) (fun hne => by have := right_top hg hne; omega)
      unfold grown
      rw [← List.singleton_append, owned_append, owned_append]
      refine List.Perm.trans (List.Perm.append ?_ (List.Perm.append hl hr)) (parts_perm (topN (x :: r)) (x :: r))
      rcases tops_once (t := topN (x :: r)) ho with h | ⟨n, hn, e, h⟩
      · rw [h]
        have hno : ∀ n ∈ x :: r, nw n ≠ topN (x :: r) := fun n hn e => by
          have : n ∈ (x :: r).filter fun n => decide (nw n = topN (x :: r)) := List.mem_filter.2 ⟨hn, by simpa using e⟩
          rw [h] at this; cases this
        rw [show ownerOf (topN (x :: r)) (x :: r) = ByteArray.empty from owner_none hno _]
        exact List.Perm.refl _
      · rw [h, show ownerOf (topN (x :: r)) (x :: r) = n.o from owner_mem ho hn e _]
        obtain ⟨h1, h2⟩ := hs n hn
        unfold owned
        rw [List.filter_cons_of_pos (by simpa using h1), ← e]
        refine List.Perm.of_eq ?_
        obtain ⟨a, b, o, s⟩ := n
        simp at h2
        subst h2
        rfl
theorem sorted_perm_eq : ∀ {l m : List Node}, l.Perm m → sorted l → sorted m → l = m := by
  intro l
  induction l with
  | nil => intro m h _ _; exact (List.nil_perm.1 h).symm
  | cons x r ih =>
    intro m h hl hm
    cases m with
    | nil => exact absurd h.length_eq (by simp)
    | cons y q =>
      obtain ⟨l1, l2⟩ := List.pairwise_cons.1 hl
      obtain ⟨m1, m2⟩ := List.pairwise_cons.1 hm
      have hxy : x = y := by
        rcases List.mem_cons.1 (h.mem_iff.1 (List.mem_cons_self ..)) with e | hx
        · exact e
        · rcases List.mem_cons.1 (h.mem_iff.2 (List.mem_cons_self ..)) with e | hy
          · exact e.symm
          · exact absurd (m1 x hx) (lt_asymm (l1 y hy))
      subst hxy
      rw [ih (List.Perm.cons_inv h) l2 m2]
/-- So of nodes in order they are these, in order. -/
theorem owned_grown_eq {f : Nat} {l : List Node} (hg : ∀ n ∈ l, good (nw n)) (hs : sorted l) (h1 : single l) (hd : l ≠ [] → 33 ≤ f + (topN l).2.toNat) : owned (grown f l) = l :=
  sorted_perm_eq (owned_grown f l hg (sorted_once hs) h1 hd) (owned_sorted (grown_sorted f l hg)) hs
/-- A trie has fewer than twice as many nodes as networks. -/
theorem grown_small : ∀ (f : Nat) (l : List Node), (∀ n ∈ l, good (nw n)) → l ≠ [] → (grown f l).length + 1 ≤ 2 * l.length := by
  intro f
  induction f with
  | zero => intro l _ hl; unfold grown; have := List.length_pos_iff.2 hl; simp; omega
  | succ f ih =>
    intro l hg hl
    cases l with
    | nil => exact absurd rfl hl
    | cons x r =>
      have hh := halves_le (topN (x :: r)) (x :: r)
      have hpos : 1 ≤ (x :: r).length := by simp
      have hbits := topN_holds hg
      have il := ih _ (left_good (t := topN (x :: r)) hg)
      have ir := ih _ (right_good (t := topN (x :: r)) hg)
      have tl := left_top hg
      have tr := right_top hg
      have sl : leftOf (topN (x :: r)) (x :: r) = x :: r → False := fun e => by have := tl (by rw [e]; simp); rw [e] at this; omega
      have sr : rightOf (topN (x :: r)) (x :: r) = x :: r → False := fun e => by have := tr (by rw [e]; simp); rw [e] at this; omega
      have ll : (leftOf (topN (x :: r)) (x :: r)).length < (x :: r).length := by
        refine Nat.lt_of_le_of_ne (List.length_filter_le _ _) fun e => sl ?_
        exact List.filter_eq_self.2 (List.length_filter_eq_length_iff.1 e)
      have rl : (rightOf (topN (x :: r)) (x :: r)).length < (x :: r).length := by
        refine Nat.lt_of_le_of_ne (List.length_filter_le _ _) fun e => sr ?_
        exact List.filter_eq_self.2 (List.length_filter_eq_length_iff.1 e)
      unfold grown
      generalize leftOf (topN (x :: r)) (x :: r) = L at *
      generalize rightOf (topN (x :: r)) (x :: r) = R at *
      generalize (x :: r).length = N at *
      rw [List.length_cons, List.length_append]
      have gnil : (grown f ([] : List Node)).length = 0 := by cases f <;> rfl
      by_cases h1 : L = []
      · by_cases h2 : R = []
        · rw [h1, h2, gnil]; omega
        · rw [h1, gnil]; have := ir h2; omega
      · by_cases h2 : R = []
        · rw [h2, gnil]; have := il h1; omega
        · have := il h1; have := ir h2; omega
theorem grown_two (f : Nat) (l : List Node) (hg : ∀ n ∈ l, good (nw n)) : (grown f l).length ≤ 2 * l.length := by
  by_cases h : l = []
  · subst h; cases f <;> simp [grown]
  · have := grown_small f l hg h; omega
end Go.Proofs.YtjdflnnpamjjcaaGreatDoor.Tr

namespace Go.Proofs.YtjdflnnpamjjcaaGreatDoor.Tr
open Nt

theorem sorted_take {l : List Node} (h : sorted l) (k : Nat) : sorted (l.take k) := List.Pairwise.sublist (List.take_sublist k l) h
theorem sorted_drop {l : List Node} (h : sorted l) (k : Nat) : sorted (l.drop k) := List.Pairwise.sublist (List.drop_sublist k l) h
theorem sorted_get {l : List Node} (h : sorted l) {i j : Nat} (hi : i < j) (hj : j < l.length) : lt (nw (l[i]'(by omega))) (nw l[j]) := List.pairwise_iff_getElem.1 h i j (by omega) hj hi
/-- Nodes within a network and behind it. -/
structure Within (t : Nw) (l : List Node) : Prop where
  t0 : 0 ≤ t.2
  holds : ∀ n ∈ l, H t (nw n)
  ne : ∀ n ∈ l, nw n ≠ t
theorem Within.mono {t : Nw} {l : List Node} (h : Within t l) (hs : sorted l) {i j : Nat} (hi : i ≤ j) (hj : j < l.length) (h1 : bitAt (l[i]'(by omega)).a t.2.toNat = 1) : bitAt l[j].a t.2.toNat = 1 := by
  rcases Nat.eq_or_lt_of_le hi with rfl | hi
  · exact h1
  · rcases bit_two l[j].a t.2.toNat with hb | hb
    · exfalso
      have e1 := half_holds (h.holds _ (List.getElem_mem (show i < l.length by omega))) (h.ne _ (List.getElem_mem _))
      have e2 := half_holds (h.holds _ (List.getElem_mem hj)) (h.ne _ (List.getElem_mem _))
      rw [show bitAt (nw (l[i]'(by omega))).1 t.2.toNat = 1 from h1] at e1
      rw [show bitAt (nw l[j]).1 t.2.toNat = 0 from hb] at e2
      exact lt_asymm (sorted_get hs hi hj) (lt_halves h.t0 e2 e1)
    · exact hb
/-- Where the ones begin. -/
def Ones (t : Nw) (l : List Node) (k : Nat) : Prop := k ≤ l.length ∧ (∀ i (_ : i < k) (h : i < l.length), bitAt l[i].a t.2.toNat = 0) ∧ ∀ i (_ : k ≤ i) (h : i < l.length), bitAt l[i].a t.2.toNat = 1
theorem Ones.left {t : Nw} {l : List Node} {k : Nat} (h : Ones t l k) (hw : ∀ n ∈ l, nw n ≠ t) : leftOf t l = l.take k := by
  conv => lhs; rw [← List.take_append_drop k l]
  unfold leftOf
  rw [List.filter_append]
  rw [List.filter_eq_self.2, List.filter_eq_nil_iff.2, List.append_nil]
  · intro n hn
    obtain ⟨i, hi, rfl⟩ := List.mem_iff_getElem.1 hn
    rw [List.getElem_drop]
    rw [List.length_drop] at hi
    rw [h.2.2 (k + i) (by omega) (by omega)]
    simp
  · intro n hn
    obtain ⟨i, hi, rfl⟩ := List.mem_iff_getElem.1 hn
    rw [List.length_take] at hi
    rw [List.getElem_take, h.2.1 i (by omega) (by omega)]
    simpa using hw _ (List.getElem_mem _)
theorem Ones.right {t : Nw} {l : List Node} {k : Nat} (h : Ones t l k) (hw : ∀ n ∈ l, nw n ≠ t) : rightOf t l = l.drop k := by
  conv => lhs; rw [← List.take_append_drop k l]
  unfold rightOf
  rw [List.filter_append]
  rw [List.filter_eq_nil_iff.2, List.filter_eq_self.2, List.nil_append]
  · intro n hn
    obtain ⟨i, hi, rfl⟩ := List.mem_iff_getElem.1 hn
    rw [List.getElem_drop]
    rw [List.length_drop] at hi
    rw [h.2.2 (k + i) (by omega) (by omega)]
    simpa using hw _ (List.getElem_mem _)
  · intro n hn
    obtain ⟨i, hi, rfl⟩ := List.mem_iff_getElem.1 hn
    rw [List.length_take] at hi
    rw [List.getElem_take, h.2.1 i (by omega) (by omega)]
    simp
/-- What is left behind the top. -/
def rest (l : List Node) : List Node := match l with
  | [] => []
  | x :: r => if nw x = topN (x :: r) then r else x :: r
theorem rest_facts {x : Node} {r : List Node} (hg : ∀ n ∈ x :: r, good (nw n)) (hs : sorted (x :: r)) :
    Within (topN (x :: r)) (rest (x :: r)) ∧ sorted (rest (x :: r)) ∧ ownerOf (topN (x :: r)) (x :: r) = (if nw x = topN (x :: r) then x.o else ByteArray.empty) ∧
      leftOf (topN (x :: r)) (x :: r) = leftOf (topN (x :: r)) (rest (x :: r)) ∧ rightOf (topN (x :: r)) (x :: r) = rightOf (topN (x :: r)) (rest (x :: r)) ∧ (rest (x :: r)).length ≤ (x :: r).length ∧ (∀ n ∈ rest (x :: r), n ∈ x :: r) := by
  have hh := topN_holds hg
  have t0 := (err_zero (topN_good (l := x :: r) (by simp) hg).2).1
  obtain ⟨s1, s2⟩ := List.pairwise_cons.1 hs
  rw [show rest (x :: r) = (if nw x = topN (x :: r) then r else x :: r) from rfl]
  generalize topN (x :: r) = t at *
  by_cases h : nw x = t
  · rw [if_pos h, if_pos h]
    refine ⟨⟨t0, fun n hn => hh n (List.mem_cons_of_mem _ hn), fun n hn e => ?_⟩, s2, ?_, ?_, ?_, by simp, fun n hn => List.mem_cons_of_mem _ hn⟩
    · have := s1 n hn; rw [h, e] at this; exact lt_irrefl _ this
    · exact owner_mem (sorted_once hs) (List.mem_cons_self ..) h _
    · unfold leftOf; rw [List.filter_cons_of_neg (by simp [h])]
    · unfold rightOf; rw [List.filter_cons_of_neg (by simp [h])]
  · have hne : ∀ n ∈ x :: r, nw n ≠ t := by
      intro n hn e
      rcases List.mem_cons.1 hn with rfl | hn
      · exact h e
      · have := s1 n hn
        rw [e] at this
        exact lt_asymm this (lt_of_H (hh x (List.mem_cons_self ..)) h)
    rw [if_neg h, if_neg h]
    exact ⟨⟨t0, hh, hne⟩, hs, owner_none hne _, rfl, rfl, Nat.le_refl _, fun n hn => hn⟩
/-- The first error of the nodes' networks. -/
def errs : List Node → Nat
  | [] => 0
  | x :: r => if err x.a x.b = 0 then errs r else err x.a x.b
theorem errs_zero {l : List Node} : errs l = 0 ↔ ∀ n ∈ l, err n.a n.b = 0 := by
  induction l with
  | nil => exact ⟨fun _ n hn => (List.not_mem_nil hn).elim, fun _ => rfl⟩
  | cons x r ih =>
    unfold errs
    by_cases h : err x.a x.b = 0
    · rw [if_pos h, ih]
      constructor
      · intro h' n hn
        rcases List.mem_cons.1 hn with rfl | hn
        · exact h
        · exact h' n hn
      · exact fun h' n hn => h' n (List.mem_cons_of_mem _ hn)
    · rw [if_neg h]
      exact ⟨fun h' => absurd h' h, fun h' => absurd (h' x (List.mem_cons_self ..)) h⟩
theorem errs_at {l : List Node} {k : Nat} (hk : k < l.length) (h0 : errs (l.take k) = 0) : errs (l.take (k + 1)) = err l[k].a l[k].b ∧ (err l[k].a l[k].b ≠ 0 → errs l = err l[k].a l[k].b) := by
  induction l generalizing k with
  | nil => simp at hk
  | cons x r ih =>
    cases k with
    | zero =>
      refine ⟨?_, ?_⟩
      · show errs [x] = _
        unfold errs
        by_cases h : err x.a x.b = 0
        · rw [if_pos h]; exact h.symm
        · rw [if_neg h]; rfl
      · intro h
        unfold errs
        exact if_neg h
    | succ k =>
      rw [List.take_succ_cons] at h0 ⊢
      have e : ∀ q, errs (x :: q) = if err x.a x.b = 0 then errs q else err x.a x.b := fun q => rfl
      rw [e] at h0
      rw [e, e]
      by_cases h : err x.a x.b = 0
      · rw [if_pos h] at h0
        rw [if_pos h, if_pos h]
        exact ih (by simpa using hk) h0
      · rw [if_neg h] at h0; exact absurd h0 h
abbrev trie (l : List Node) : List Node := grown 33 l
/-- P8.1. -/
def Fits (l : List Node) : Prop := once (owned l) ∧ trie (owned l) = l
theorem fits_sorted {l : List Node} (hg : ∀ n ∈ l, good (nw n)) (h : Fits l) : sorted (owned l) := by
  rw [← h.2]
  exact owned_sorted (grown_sorted _ _ (owned_good hg))
theorem fits_all_sorted {l : List Node} (hg : ∀ n ∈ l, good (nw n)) (h : Fits l) : sorted l := by
  rw [← h.2]
  exact grown_sorted _ _ (owned_good hg)
theorem fits_iff {l : List Node} (hg : ∀ n ∈ l, good (nw n)) : Fits l ↔ sorted (owned l) ∧ trie (owned l) = l :=
  ⟨fun h => ⟨fits_sorted hg h, h.2⟩, fun h => ⟨sorted_once h.1, h.2⟩⟩
open Classical in
noncomputable def fault (l : List Node) : Nat := if errs l = 0 then (if Fits l then 0 else 14) else errs l
theorem deep {l : List Node} : l ≠ [] → 33 ≤ 33 + (topN l).2.toNat := fun _ => by omega
/-- There are not many networks. -/
theorem nodup_le : ∀ (N : Nat) (l : List Nat), l.Nodup → (∀ x ∈ l, x < N) → l.length ≤ N := by
  intro N
  induction N with
  | zero => intro l _ h; cases l with
    | nil => simp
    | cons x r => exact absurd (h x (List.mem_cons_self ..)) (by omega)
  | succ N ih =>
    intro l hd h
    by_cases hc : N ∈ l
    · have h1 := ih (l.erase N) (hd.erase _) (fun x hx => by
        have h2 := h x (List.mem_of_mem_erase hx)
        have h3 : x ≠ N := by rintro rfl; exact (List.Nodup.mem_erase_iff hd).1 hx |>.1 rfl
        omega)
      rw [List.length_erase_of_mem hc] at h1
      omega
    · have := ih l hd (fun x hx => by
        have h2 := h x hx
        have h3 : x ≠ N := by rintro rfl; exact hc hx
        omega)
      omega
theorem once_le {l : List Node} (hg : ∀ n ∈ l, good (nw n)) (ho : once l) : l.length ≤ 141733920768 := by
  have h := nodup_le 141733920768 (l.map fun n => n.a * 33 + n.b.toNat) ?_ ?_
  · rwa [List.length_map] at h
  · refine List.Pairwise.map _ (fun n m h => h) ?_
    refine List.Pairwise.imp_of_mem (R := fun n m => nw n ≠ nw m) (fun {n m} hn hm h e => h ?_) ho
    obtain ⟨n0, n1, _⟩ := err_zero (hg n hn).2
    obtain ⟨m0, m1, _⟩ := err_zero (hg m hm).2
    change 0 ≤ n.b at n0
    change n.b ≤ 32 at n1
    change 0 ≤ m.b at m0
    change m.b ≤ 32 at m1
    exact Prod.ext (show n.a = m.a by omega) (show n.b = m.b by omega)
  · intro x hx
    obtain ⟨n, hn, rfl⟩ := List.mem_map.1 hx
    obtain ⟨n0, n1, _⟩ := err_zero (hg n hn).2
    have := (hg n hn).1
    change n.a < _ at this
    change n.b ≤ 32 at n1
    omega
end Go.Proofs.YtjdflnnpamjjcaaGreatDoor.Tr
