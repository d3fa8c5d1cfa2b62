/- Networks and peers in rows of the call's own. -/
import Derived.Test.YtjdflnnpamjjcaaDoorSF01
import Derived.Laws.Tables
import Derived.Test.YtjdflnnpamjjcaaDoorRows
import Derived.Test.YtjdflnnpamjjcaaDoorMem
import Derived.Test.YtjdflnnpamjjcaaDoorMemG
import Derived.Deep.WholeRow
import Derived.Deep.AppendLies
import Derived.Maps.AppendAt
import Derived.Laws.CopyOwn
import Derived.Laws.MakeOwn
import Derived.Laws.OwnMore
import Derived.Laws.CopyRow
import Derived.Test.YtjdflnnpamjjcaaDoorSF02
namespace Go.Proofs.YtjdflnnpamjjcaaDoor
open Go.RowKit

theorem grown_set_row (w : World) (g : Nat) (cs : Array Value) : w.grownBy (w.setRow g cs) (some g) :=
  ⟨rfl, rfl, rfl, by simp [World.setRow], fun k _ hne => setRow_other w g k cs (fun e => hne (by rw [e]))⟩

/-- A whole struct into its block. -/
theorem wpL_storeBlk {w : World} {ops : Array Oper} {rest : List Oper} {o : Oper} {a : Act} {Q : Exit → Act → World → Prop} (hgd : o.guard = none) (t : TypeId) (x y : Operand) (ho : o.op = .store t x y) (g : Nat) (xs ys : List Value)
    (hx : a.eval x = .pointer (some ⟨g, 0, none⟩)) (hy : a.eval y = .agg ys.toArray) (hg : Blk w g t xs) (hi : (Tryd.prog.info? t).map (·.size) = some xs.length) (hl : ys.length = xs.length) (h1 : ys.all (·.oneCell') = true)
    (h : ∀ w', Blk w' g t ys → w.grownBy w' (some g) → w'.heap.size = w.heap.size → wpList Tryd.prog ops Q rest (a.put o.dst undef) w') : wpList Tryd.prog ops Q (o :: rest) a w := by
  refine wpList_store_row hgd t x y ho g ys.toArray hx hy t xs.toArray hg (by simpa [hl] using hi) (by simp [hl]) (by simpa using h1) (h _ (setRow_heap w g _ _ t _ hg) (grown_set_row w g _) (by simp))
theorem Blk.beside {w w' : World} {g k : Nat} {t : TypeId} {xs : List Value} (h : Blk w k t xs) (hg : w.grownBy w' (some g)) (hne : k ≠ g) : Blk w' k t xs :=
  (hg.block k h.lt (fun e => hne (by injection e))).trans h
/-- Bytes of the call's own beside another block that is written. -/
theorem own_beside_row {w w' : World} {base n c m g : Nat} {a : Option Addr} {xs : List Value} {t : TypeId} (ho : w.ownsRow base t 1 (.slice a n c) m xs) (hg : w.grownBy w' (some g)) (hk : g < base) : w'.ownsRow base t 1 (.slice a n c) m xs :=
  ho.kept hg (by
    cases hb : (Value.slice a n c).ownBlock with
    | none => exact .inl rfl
    | some j => exact .inr (fun e => by injection e with e; have := (ho.lt j hb).1; omega))
theorem below_row {w w' w0 : World} {B g : Nat} (h : Below B w0 w) (hg : w.grownBy w' (some g)) (hB : B ≤ w.heap.size) (hk : B ≤ g) : Below B w0 w' := h.grown hg hB (fun k e => by injection e with e; omega)
end Go.Proofs.YtjdflnnpamjjcaaDoor

namespace Go.Proofs.YtjdflnnpamjjcaaDoor
open Go.RowKit

/-- How the elements of a slice type lie in memory. -/
structure RowTy (α : Type) where
  t : TypeId
  s : TypeId
  k : Nat
  bytes : Nat
  enc : α → List Value
  zero : α
  len : ∀ x, (enc x).length = k
  one : ∀ x, ∀ v ∈ enc x, v.oneCell' = true
  pos : 0 < k
  und : Tryd.prog.underlying s = some (.slice t)
  info : ∃ i z, Tryd.prog.info? t = some i ∧ i.zero = some z ∧ i.size = k ∧ i.bytes = bytes ∧ z.cells = (enc zero).toArray
namespace RowTy
variable {α : Type} (T : RowTy α)
/-- The cells of elements, one after the other. -/
def cs (l : List α) : List Value := l.flatMap T.enc
theorem cs_append (l m : List α) : T.cs (l ++ m) = T.cs l ++ T.cs m := by unfold cs; rw [List.flatMap_append]
theorem cs_cons (x : α) (r : List α) : T.cs (x :: r) = T.enc x ++ T.cs r := by unfold cs; rw [List.flatMap_cons]
theorem cs_nil : T.cs [] = [] := rfl
theorem cs_one (x : α) : T.cs [x] = T.enc x := by unfold cs; simp
theorem cs_length (l : List α) : (T.cs l).length = l.length * T.k := by
  induction l with
  | nil => simp [cs]
  | cons x r ih => rw [cs_cons, List.length_append, ih, T.len, List.length_cons, Nat.succ_mul, Nat.add_comm]
theorem cs_oneCell (l : List α) : ∀ v ∈ T.cs l, v.oneCell' = true := by
  intro v hv
  unfold cs at hv
  obtain ⟨n, _, hm⟩ := List.mem_flatMap.1 hv
  exact T.one n v hm
theorem cs_get : ∀ (l : List α) (i j : Nat) (h : i < l.length), j < T.k → (T.cs l)[i * T.k + j]? = (T.enc l[i])[j]? := by
  intro l
  induction l with
  | nil => intro i j h _; simp at h
  | cons x r ih =>
    intro i j h hj
    rw [cs_cons]
    cases i with
    | zero => rw [Nat.zero_mul, Nat.zero_add, List.getElem?_append_left (by rw [T.len]; exact hj)]; rfl
    | succ i =>
      have e : (i + 1) * T.k + j - (T.enc x).length = i * T.k + j := by rw [T.len, Nat.succ_mul]; omega
      rw [List.getElem?_append_right (by rw [T.len, Nat.succ_mul]; omega), e]
      exact ih i j (by simpa using h) hj
theorem cs_set (L : List α) (i : Nat) (x : α) (h : i < L.length) : (T.cs L).take (i * T.k) ++ T.enc x ++ (T.cs L).drop (i * T.k + (T.enc x).length) = T.cs (L.set i x) := by
  have e : L = L.take i ++ (L[i] :: L.drop (i + 1)) := by simp
  have hk : (T.cs (L.take i)).length = i * T.k := by rw [cs_length, List.length_take, Nat.min_eq_left (by omega)]
  have h1 : T.cs L = T.cs (L.take i) ++ (T.enc L[i] ++ T.cs (L.drop (i + 1))) := by
    conv => lhs; rw [e]
    rw [cs_append, cs_cons]
  have h2 : T.cs (L.set i x) = T.cs (L.take i) ++ (T.enc x ++ T.cs (L.drop (i + 1))) := by
    rw [List.set_eq_take_append_cons_drop, if_pos h, cs_append, cs_cons]
  have h3 : i * T.k + (T.enc x).length = (T.cs (L.take i) ++ T.enc L[i]).length := by rw [List.length_append, hk, T.len, T.len]
  rw [h2, h1, ← hk, List.take_left, List.append_assoc]
  congr 2
  rw [hk, h3, ← List.append_assoc, List.drop_left]
/-- One cell of an element changed. -/
theorem cs_setCell (L : List α) (i j : Nat) (x : α) (v : Value) (h : i < L.length) (hj : j < T.k) (hx : (T.enc L[i]).set j v = T.enc x) : (T.cs L).set (i * T.k + j) v = T.cs (L.set i x) := by
  have e : L = L.take i ++ (L[i] :: L.drop (i + 1)) := by simp
  have hk : (T.cs (L.take i)).length = i * T.k := by rw [cs_length, List.length_take, Nat.min_eq_left (by omega)]
  have h1 : T.cs L = T.cs (L.take i) ++ (T.enc L[i] ++ T.cs (L.drop (i + 1))) := by
    conv => lhs; rw [e]
    rw [cs_append, cs_cons]
  rw [h1, List.set_append_right _ _ (by omega), hk, show i * T.k + j - i * T.k = j by omega, List.set_append_left _ _ (by rw [T.len]; exact hj), hx, List.set_eq_take_append_cons_drop, if_pos h, cs_append, cs_cons]
/-- The elements l lie in memory, behind the slice (a, n). -/
def at_ (w : World) (B : Nat) (a : Option Addr) (n : Nat) (l : List α) : Prop :=
  l.length = n ∧ (0 < n → ∃ b off, a = some ⟨b, off, none⟩ ∧ b < B ∧ ∀ i (h : i < l.length) j u, (T.enc l[i])[j]? = some u → w.cell? ⟨b, off + i * T.k + j, none⟩ = some u)
/-- The elements l in a row of the call's own. -/
def own (w : World) (B : Nat) (v : Value) (l : List α) : Prop := ∃ a c, v = .slice a l.length c ∧ w.ownsRow B T.t T.k (.slice a l.length c) l.length (T.cs l)
end RowTy
section
variable {α : Type} {T : RowTy α}
theorem RowTy.at_.below {w w' : World} {B n : Nat} {a : Option Addr} {l : List α} (h : T.at_ w B a n l) (hb : Below B w w') : T.at_ w' B a n l :=
  ⟨h.1, fun hn => by
    obtain ⟨b, off, e, hlt, hc⟩ := h.2 hn
    exact ⟨b, off, e, hlt, fun i hi j u hu => (hb.cell (p := ⟨b, off + i * T.k + j, none⟩) hlt).trans (hc i hi j u hu)⟩⟩
theorem RowTy.at_.more {w : World} {B B' n : Nat} {a : Option Addr} {l : List α} (h : T.at_ w B a n l) (hB : B ≤ B') : T.at_ w B' a n l :=
  ⟨h.1, fun hn => by
    obtain ⟨b, off, e, hlt, hc⟩ := h.2 hn
    exact ⟨b, off, e, Nat.lt_of_lt_of_le hlt hB, hc⟩⟩
theorem RowTy.own.nil (w : World) (B : Nat) : T.own w B (.slice none 0 0) [] := ⟨none, 0, rfl, World.ownsRow_nil _ _ _ _⟩
theorem RowTy.own.alloc {w : World} {B : Nat} {v : Value} {l : List α} (h : T.own w B v l) (o : Obj) : T.own (w.alloc o) B v l := by
  obtain ⟨a, c, e, ho⟩ := h
  exact ⟨a, c, e, ho.alloc o⟩
theorem RowTy.own.below {w w' : World} {B : Nat} {v : Value} {l : List α} (h : T.own w B v l) (hb : Below w.heap.size w w') : T.own w' B v l := by
  obtain ⟨a, c, e, ho⟩ := h
  exact ⟨a, c, e, ho.kept (row := none) ⟨hb.os, hb.tape, hb.output, hb.size, fun j hj _ => hb.block j hj⟩ (by cases hv : (Value.slice a l.length c).ownBlock <;> simp)⟩
theorem RowTy.own.base {w : World} {B B' : Nat} {v : Value} {l : List α} (h : T.own w B v l) (hb : B' ≤ B) : T.own w B' v l := by
  obtain ⟨a, c, e, ho⟩ := h
  refine ⟨a, c, e, ho.1, ?_⟩
  rcases ho.2 with hn | ⟨g, cap, cur, hv, hg, r⟩
  · exact .inl hn
  · exact .inr ⟨g, cap, cur, hv, Nat.le_trans hb hg, r⟩
/-- What changes another row's block alone leaves a row. -/
theorem RowTy.own.kept {w w' : World} {B : Nat} {u : Value} {l : List α} {row : Option Nat} (h : T.own w B u l) (hg : w.grownBy w' row) (hap : ∀ g, u.ownBlock = some g → row ≠ some g) : T.own w' B u l := by
  obtain ⟨a, c, rfl, ho⟩ := h
  refine ⟨a, c, rfl, ho.kept hg ?_⟩
  cases hb : (Value.slice a l.length c).ownBlock with
  | none => exact .inl rfl
  | some g => exact .inr fun hc => hap g hb hc.symm
theorem RowTy.own.lt {w : World} {B : Nat} {v : Value} {l : List α} (h : T.own w B v l) : ∀ g, v.ownBlock = some g → B ≤ g ∧ g < w.heap.size := by
  obtain ⟨a, c, rfl, ho⟩ := h
  exact ho.lt
theorem RowTy.own.slice {w : World} {B : Nat} {v : Value} {l : List α} (h : T.own w B v l) : ∃ a c, v = .slice a l.length c ∧ (a = none → l.length = 0 ∧ c = 0) ∧ l.length ≤ c ∧ c ≤ maxLen := by
  obtain ⟨a, c, rfl, ho⟩ := h
  rcases ho.2 with ⟨hv, hz⟩ | ⟨g, cap, cur, hv, hb, hg, hk, hm, hs, ht⟩
  · injection hv with h1 h2 h3
    subst h1 h3
    exact ⟨none, 0, rfl, fun _ => ⟨hz, rfl⟩, by omega, Nat.zero_le _⟩
  · injection hv with h1 h2 h3
    subst h1 h3
    exact ⟨_, c, rfl, (fun h => by cases h), hk, hm⟩
/-- A row read as a slice. -/
theorem RowTy.own.at {w : World} {B : Nat} {v : Value} {l : List α} (h : T.own w B v l) : ∃ a c, v = .slice a l.length c ∧ (a = none → l.length = 0 ∧ c = 0) ∧ T.at_ w w.heap.size a l.length l := by
  obtain ⟨a, c, rfl, ho⟩ := h
  refine ⟨a, c, rfl, ?_, rfl, fun hn => ?_⟩
  · intro ha
    subst ha
    rcases ho.2 with ⟨hv, hz⟩ | ⟨g, cap, cur, hv, _⟩
    · injection hv with _ h2 h3; exact ⟨hz, h3⟩
    · cases hv
  · rcases ho.2 with ⟨_, hz⟩ | ⟨g, cap, cur, hv, hb, hg, hk, hm, hs, ht⟩
    · omega
    · injection hv with h1 _ _
      subst h1
      have hlt : g < w.heap.size := by
        by_cases hc : g < w.heap.size
        · exact hc
        · rw [Array.getElem?_eq_none (by omega)] at hg; cases hg
      refine ⟨g, 0, rfl, hlt, fun i hi j u hu => ?_⟩
      have hj : j < T.k := by have := (List.getElem?_eq_some_iff.1 hu).1; rwa [T.len] at this
      have hx : i * T.k + j < l.length * T.k := by
        have : (i + 1) * T.k ≤ l.length * T.k := Nat.mul_le_mul_right _ hi
        rw [Nat.succ_mul] at this
        omega
      rw [cell_of_row _ _ _ _ _ _ hg, Nat.zero_add]
      have e1 : cur[i * T.k + j]? = (cur.toList.take (l.length * T.k))[i * T.k + j]? := by rw [List.getElem?_take_of_lt hx, Array.getElem?_toList]
      rw [e1, ht, T.cs_get l i j hi hj]
      exact hu
theorem RowTy.at_.news {w : World} {B n : Nat} {a : Option Addr} {l : List α} (h : T.at_ w B a n l) : ∀ ad, a = some ad → ∀ j u, (T.cs l)[j]? = some u → w.cell? (ad.add j) = some u := by
  intro ad ha j u hu
  have hp := T.pos
  have hj : j < l.length * T.k := by have := (List.getElem?_eq_some_iff.1 hu).1; rwa [T.cs_length] at this
  have hi : j / T.k < l.length := (Nat.div_lt_iff_lt_mul hp).2 hj
  have hr : j % T.k < T.k := Nat.mod_lt _ hp
  have hjj : j / T.k * T.k + j % T.k = j := by rw [Nat.mul_comm]; exact Nat.div_add_mod _ _
  obtain ⟨b, off, e, _, hc⟩ := h.2 (h.1 ▸ Nat.lt_of_le_of_lt (Nat.zero_le _) hi)
  rw [ha] at e
  injection e with e
  subst e
  have hg := T.cs_get l (j / T.k) (j % T.k) hi hr
  rw [hjj, hu] at hg
  have := hc (j / T.k) hi (j % T.k) u hg.symm
  rw [Addr.add_lit, show off + j = off + j / T.k * T.k + j % T.k by rw [Nat.add_assoc, hjj]]
  exact this
theorem own_toG {w : World} {B n : Nat} {t k : Nat} {v : Value} {xs : List Value} (h : w.ownsRow B t k v n xs) : ∃ a c, v = .slice a n c := by
  rcases h.2 with ⟨rfl, rfl⟩ | ⟨g, cap, cur, rfl, _⟩
  · exact ⟨none, 0, rfl⟩
  · exact ⟨_, cap, rfl⟩
/-- append of any slice (nil too) onto a row of the call's own; and where the new row lies. -/
theorem wpL_append_R (T : RowTy α) (w : World) {ops : Array Oper} {rest : List Oper} {o : Oper} {a : Act} {Q : Exit → Act → World → Prop} (hgd : o.guard = none) (s x : Operand)
    (ho : o.op = .call { callee := .builtin .append, args := #[s, x], argTypes := #[T.s, T.s] }) (B : Nat) (v : Value) (l : List α) (hs : a.eval s = v) (hO : T.own w B v l)
    (ao : Option Addr) (m cx : Nat) (news : List α) (hx : a.eval x = .slice ao m cx) (hnil : ao = none → m = 0 ∧ cx = 0) (hat : T.at_ w w.heap.size ao m news) (hmax : (l.length + m) * T.k ≤ maxLen) (hby : (l.length + m) * T.bytes ≤ 140737488355328) (hB : B ≤ w.heap.size)
    (h : ∀ v' w', T.own w' B v' (l ++ news) → w.grownBy w' v.ownBlock → Hid (v'.ownBlock = v.ownBlock ∨ v'.ownBlock = some w.heap.size) → wpList Tryd.prog ops Q rest (a.put o.dst v') w') : wpList Tryd.prog ops Q (o :: rest) a w := by
  obtain ⟨i, z, hi, hz0, hz1, hz2, hzc⟩ := T.info
  obtain ⟨av, cv, rfl, hown⟩ := hO
  have hm := hat.1
  have hp := T.pos
  cases ao with
  | some ad =>
    have hmx : l.length + m ≤ maxLen := Nat.le_trans (Nat.le_mul_of_pos_right _ hp) hmax
    obtain ⟨v', w', hr, h2, h3, _, h5⟩ := run_append_own_at (P := Tryd.prog) w B T.s o.type T.t i z T.k T.bytes T.und hi hz0 hz1 hz2 (by rw [hzc, List.size_toArray, T.len]) hp _ l.length _ hown ad m cx (T.cs news) (by rw [T.cs_length, hm]) (hat.news ad rfl) (T.cs_oneCell _) hmx hby hB
    obtain ⟨a', c', rfl⟩ := own_toG h2
    refine wpList_plain hgd fun K hK => ?_
    unfold Oper.wp execOp
    simp only [ho, resolve, invoke, builtin, Sem.run_bind, Sem.run_pure, Result.andThen_ok, List.map_toArray, List.map_cons, List.map_nil, hs, hx, hr]
    refine hK _ _ (h _ w' ⟨a', c', by rw [List.length_append, hm], ?_⟩ h3 (Lib.hid h5))
    rw [List.length_append, hm, T.cs_append]
    exact h2
  | none =>
    obtain ⟨rfl, rfl⟩ := hnil rfl
    obtain rfl : news = [] := List.eq_nil_of_length_eq_zero hm
    have hr := run_append_owned_none (P := Tryd.prog) (w := w) B T.s o.type T.t i T.k T.und hi _ l.length _ hown
    refine wpList_plain hgd fun K hK => ?_
    unfold Oper.wp execOp
    simp only [ho, resolve, invoke, builtin, Sem.run_bind, Sem.run_pure, Result.andThen_ok, List.map_toArray, List.map_cons, List.map_nil, hs, hx, hr]
    exact hK _ _ (h _ w ⟨av, cv, by simp, by simpa using hown⟩ (World.grownBy.refl _ _) (Lib.hid (.inl rfl)))
/-- A block of elements is a row. -/
theorem RowTy.own_of_block {w : World} {B g c : Nat} {l : List α} {X : List Value} (hg : w.heap[g]? = some (.cells (T.cs l ++ X).toArray T.t (0, 0))) (hX : X.length = (c - l.length) * T.k) (hc : l.length ≤ c) (hm : c ≤ maxLen) (hB : B ≤ g) : T.own w B (.slice (some ⟨g, 0, none⟩) l.length c) l := by
  refine ⟨_, c, rfl, T.cs_length l, .inr ⟨g, c, _, rfl, hB, hg, hc, hm, ?_, ?_⟩⟩
  · rw [List.size_toArray, List.length_append, T.cs_length, hX, ← Nat.add_mul]
    congr 1
    omega
  · show (T.cs l ++ X).take (l.length * T.k) = _
    rw [← T.cs_length, List.take_left']
    rfl
/-- A row that holds something: its block. -/
theorem RowTy.own.block {w : World} {B : Nat} {v : Value} {l : List α} (h : T.own w B v l) (hl : l ≠ []) : ∃ g c X, v = .slice (some ⟨g, 0, none⟩) l.length c ∧ l.length ≤ c ∧ c ≤ maxLen ∧ B ≤ g ∧ g < w.heap.size ∧ w.heap[g]? = some (.cells (T.cs l ++ X).toArray T.t (0, 0)) ∧ X.length = (c - l.length) * T.k := by
  obtain ⟨a, c, rfl, ho⟩ := h
  have hlt := ho.lt
  rcases ho.2 with ⟨hv, hz⟩ | ⟨g, cap, cur, hv, hB, hg, hk, hm, hs, ht⟩
  · exact absurd (List.eq_nil_of_length_eq_zero hz) hl
  · injection hv with h1 _ h3
    subst h1 h3
    refine ⟨g, c, cur.toList.drop (l.length * T.k), rfl, hk, hm, hB, (hlt g rfl).2, ?_, ?_⟩
    · rw [← ht, List.take_append_drop]
      exact hg
    · rw [List.length_drop, Array.length_toList, hs, Nat.sub_mul]
/-- Room for n elements, all of them zero. -/
theorem RowTy.madeCells_is (T : RowTy α) (n : Nat) : madeCells (T.enc T.zero).toArray (n * T.k) = (T.cs (List.replicate n T.zero)).toArray := by
  have hp := T.pos
  apply Array.toList_inj.1
  apply List.ext_getElem?
  intro j
  unfold madeCells
  by_cases hj : j < n * T.k
  · simp only [Array.toList_map, List.getElem?_map, Array.toList_range, List.getElem?_range hj, Option.map_some]
    have hq : j / T.k < (List.replicate n T.zero).length := by rw [List.length_replicate]; exact (Nat.div_lt_iff_lt_mul hp).2 hj
    have hr : j % T.k < T.k := Nat.mod_lt _ hp
    have e := T.cs_get (List.replicate n T.zero) (j / T.k) (j % T.k) hq hr
    rw [show j / T.k * T.k + j % T.k = j by rw [Nat.mul_comm]; exact Nat.div_add_mod _ _, List.getElem_replicate] at e
    rw [e, List.size_toArray, T.len]
    have hl : j % T.k < (T.enc T.zero).length := by rw [T.len]; exact hr
    rw [List.getElem?_eq_getElem hl]
    congr 1
    simp [hl]
  · rw [List.getElem?_eq_none (by simp; omega), List.getElem?_eq_none (by show (T.cs _).length ≤ j; rw [T.cs_length, List.length_replicate]; omega)]
theorem RowTy.make (T : RowTy α) (n : Nat) (hby : n * T.bytes ≤ 140737488355328) (hsm : n ≤ 140737488355328) : ∀ W, (Instr.makeSlice T.s (.int .i64 (n : Int)) (.int .i64 (n : Int))).run Tryd.prog W = .ok (.slice (some ⟨W.heap.size, 0, none⟩) n n) (W.alloc (.cells (T.cs (List.replicate n T.zero)).toArray T.t)) := fun W => by
  obtain ⟨i, z, hi, hz0, hz1, hz2, hzc⟩ := T.info
  have hr := run_make (P := Tryd.prog) W T.s T.t i z T.und hi hz0 .i64 .i64 n n (by omega) (by omega) (by rw [hz2]; have h := Int.ofNat_le.2 hby; rw [Int.natCast_mul, Int.mul_comm] at h; omega) (by omega)
  simp only [Int.toNat_natCast, hz1, hzc] at hr
  rw [T.madeCells_is n] at hr
  exact hr
/-- One element of a block written whole. -/
theorem wpL_store_R (T : RowTy α) {w : World} {ops : Array Oper} {rest : List Oper} {o : Oper} {a : Act} {Q : Exit → Act → World → Prop} (hgd : o.guard = none) (x y : Operand) (ho : o.op = .store T.t x y) (g k : Nat) (L : List α) (X : List Value) (s : α)
    (hx : a.eval x = .pointer (some ⟨g, k * T.k, none⟩)) (hy : a.eval y = .agg (T.enc s).toArray) (hg : w.heap[g]? = some (.cells (T.cs L ++ X).toArray T.t (0, 0))) (hk : k < L.length)
    (h : ∀ w', w'.heap[g]? = some (.cells (T.cs (L.set k s) ++ X).toArray T.t (0, 0)) → w.grownBy w' (some g) → w'.heap.size = w.heap.size → wpList Tryd.prog ops Q rest (a.put o.dst undef) w') : wpList Tryd.prog ops Q (o :: rest) a w := by
  refine wpList_plain hgd fun K hK => ?_
  obtain ⟨i, z, hi, hz0, hz1, hz2, hzc⟩ := T.info
  have hle : k * T.k + T.k ≤ L.length * T.k := by rw [← Nat.succ_mul]; exact Nat.mul_le_mul_right _ hk
  have hfit : k * T.k + (T.enc s).length ≤ (T.cs L ++ X).length := by rw [List.length_append, T.cs_length, T.len]; omega
  have hst := run_storeCells_at Tryd.prog g (k * T.k) T.t (T.enc s) 0 (T.cs L ++ X).toArray w hg (by simpa using hfit) (T.one s)
  have hr : (storeVar T.t ⟨g, k * T.k, none⟩ (.agg (T.enc s).toArray)).run Tryd.prog w = .ok () (w.setRow g ((T.cs L ++ X).take (k * T.k) ++ T.enc s ++ (T.cs L ++ X).drop (k * T.k + (T.enc s).length)).toArray) := by
    have hs : (T.enc s).length = i.size := by rw [T.len, hz1]
    simp [storeVar, sizeOf, typeInfo, hi, Value.cells, hs, hst]
  have hcut : (T.cs L ++ X).take (k * T.k) ++ T.enc s ++ (T.cs L ++ X).drop (k * T.k + (T.enc s).length) = T.cs (L.set k s) ++ X := by
    rw [← T.cs_set L k s hk, List.take_append_of_le_length (by rw [T.cs_length]; omega), List.drop_append_of_le_length (by rw [T.cs_length, T.len]; omega)]
    simp only [List.append_assoc]
  rw [hcut] at hr
  unfold Oper.wp execOp
  simp only [ho, hx, hy, Instr.storeAt, Instr.sureAddr, Sem.run_bind, Sem.run_pure, Result.andThen_ok, hr]
  exact hK _ _ (h _ (setRow_heap w g _ _ _ _ hg) (grown_set_row w g _) (by simp))
/-- copy into a block. -/
theorem RowTy.run_copy (T : RowTy α) (w : World) (g o dLen dCap : Nat) (a : Addr) (sLen sCap : Nat) (cur cs : List Value) (hg : w.heap[g]? = some (.cells cur.toArray T.t (0, 0))) (hn : cs.length = Nat.min sLen dLen * T.k)
    (hsrc : ∀ j v, cs[j]? = some v → w.cell? (a.add j) = some v) (hfit : o + cs.length ≤ cur.length) (h1 : ∀ v ∈ cs, v.oneCell' = true) :
    ∃ W, (∀ ty, (Builtin.copy_ #[T.s, T.s] ty #[.slice (some ⟨g, o, none⟩) dLen dCap, .slice (some a) sLen sCap]).run Tryd.prog w = .ok (goInt (Nat.min sLen dLen)) W) ∧
      W.heap[g]? = some (.cells (cur.take o ++ cs ++ cur.drop (o + cs.length)).toArray T.t (0, 0)) ∧ w.grownBy W (some g) := by
  obtain ⟨i, z, hi, _, hz1, _, _⟩ := T.info
  have hl := run_loadCells_list (P := Tryd.prog) w a cs hsrc
  have hst := run_storeCells_at Tryd.prog g o T.t cs 0 cur.toArray w hg (by simpa using hfit) h1
  refine ⟨w.setRow g (cur.take o ++ cs ++ cur.drop (o + cs.length)).toArray, fun ty => ?_, ?_, ?_⟩
  · simp [Builtin.copy_, run_underlying T.und, Builtin.lenOf, Builtin.firstCells, sizeOf, typeInfo, hi, hz1, ← hn, hl, hst]
  · simpa using setRow_heap w g _ _ T.t _ hg
  · refine ⟨rfl, rfl, rfl, by simp [World.setRow], fun k hk hne => ?_⟩
    have hkg : g ≠ k := fun e => hne (by rw [e])
    simp [World.setRow, Array.getElem?_modify, hkg]
end
end Go.Proofs.YtjdflnnpamjjcaaDoor

namespace Go.Proofs.YtjdflnnpamjjcaaDoor
open Go.RowKit

theorem info_netT : ∃ i, Tryd.prog.info? 44 = some i ∧ i.zero = some (.agg #[.int .u32 0, .int .i64 0]) ∧ i.size = 2 ∧ i.bytes = 16 := info_parts (by kernel_rfl)
theorem info_peerT : ∃ i, Tryd.prog.info? 24 = some i ∧ i.zero = some (.agg #[.string ByteArray.empty, .string ByteArray.empty, .string ByteArray.empty, .int .i64 0, .slice none 0 0]) ∧ i.size = 5 ∧ i.bytes = 80 := info_parts (by kernel_rfl)
def netT : RowTy (Nat × Int) where
  t := 44
  s := 22
  k := 2
  bytes := 16
  enc := fun n => [.int .u32 (n.1 : Int), .int .i64 n.2]
  zero := (0, 0)
  len := fun _ => rfl
  one := fun x v hv => by
    simp only [List.mem_cons, List.not_mem_nil, or_false] at hv
    rcases hv with rfl | rfl <;> rfl
  pos := by decide
  und := Tryd.underlying22
  info := by
    obtain ⟨i, h1, h2, h3, h4⟩ := info_netT
    exact ⟨i, _, h1, h2, h3, h4, rfl⟩
/-- A peer as it lies in a row: with the address and the capacity of its networks. -/
abbrev Cf.Q := Cf.P × Option Addr × Nat
/-- Its networks' slice. -/
def Cf.nv (q : Cf.Q) : Value := .slice q.2.1 q.1.ns.length q.2.2
def peerT : RowTy Cf.Q where
  t := 24
  s := 29
  k := 5
  bytes := 80
  enc := fun q => [.string q.1.k, .string q.1.s, .string q.1.e, .int .i64 q.1.v, Cf.nv q]
  zero := (Cf.zeroP, none, 0)
  len := fun _ => rfl
  one := fun x v hv => by
    simp only [List.mem_cons, List.not_mem_nil, or_false] at hv
    rcases hv with rfl | rfl | rfl | rfl | rfl <;> rfl
  pos := by decide
  und := Tryd.underlying29
  info := by
    obtain ⟨i, h1, h2, h3, h4⟩ := info_peerT
    exact ⟨i, _, h1, h2, h3, h4, rfl⟩
theorem netT_at {w : World} {B n : Nat} {a : Option Addr} {l : List (Nat × Int)} : netT.at_ w B a n l ↔ NetsAt w B a n l := by
  constructor
  · intro h
    refine ⟨h.1, fun hn => ?_⟩
    obtain ⟨b, off, e, hlt, hc⟩ := h.2 hn
    exact ⟨b, off, e, hlt, fun i hi => ⟨hc i hi 0 _ rfl, hc i hi 1 _ rfl⟩⟩
  · intro h
    refine ⟨h.1, fun hn => ?_⟩
    obtain ⟨b, off, e, hlt, hc⟩ := h.2 hn
    refine ⟨b, off, e, hlt, fun i hi j u hu => ?_⟩
    match j, hu with
    | 0, hu => exact (hc i hi).1.trans hu
    | 1, hu => exact (hc i hi).2.trans hu
    | j + 2, hu => cases hu
/-- Rows of the call's own apart: no block bears both. -/
def ApartG (v u : Value) : Prop := ∀ g, v.ownBlock = some g → u.ownBlock ≠ some g
/-- The peers L in a row of the call's own, each one's networks in a row of its own; no two rows share a block. -/
structure OwnP (w : World) (B : Nat) (v : Value) (L : List Cf.Q) : Prop where
  row : peerT.own w B v L
  nets : ∀ q ∈ L, netT.own w B (Cf.nv q) q.1.ns
  apart : ∀ q ∈ L, ApartG (Cf.nv q) v
  pair : L.Pairwise fun q r => ApartG (Cf.nv q) (Cf.nv r)
theorem OwnP.below {w w' : World} {B : Nat} {v : Value} {L : List Cf.Q} (h : OwnP w B v L) (hb : Below w.heap.size w w') : OwnP w' B v L :=
  ⟨h.row.below hb, fun q hq => (h.nets q hq).below hb, h.apart, h.pair⟩
theorem OwnP.base {w : World} {B B' : Nat} {v : Value} {L : List Cf.Q} (h : OwnP w B v L) (hb : B' ≤ B) : OwnP w B' v L :=
  ⟨h.row.base hb, fun q hq => (h.nets q hq).base hb, h.apart, h.pair⟩
/-- Peers in rows, read as a slice. -/
theorem OwnP.at {w : World} {B : Nat} {v : Value} {L : List Cf.Q} (h : OwnP w B v L) : ∃ a c, v = .slice a L.length c ∧ L.length ≤ c ∧ c ≤ maxLen ∧ (a = none → L.length = 0 ∧ c = 0) ∧ PeersAt w w.heap.size a L.length (L.map (·.1)) := by
  obtain ⟨a, c, e, hz, hat⟩ := h.row.at
  obtain ⟨a', c', e', _, h3, h4⟩ := h.row.slice
  rw [e] at e'
  injection e' with e1 _ e2
  subst e1 e2
  refine ⟨a, c, e, h3, h4, hz, by simp, fun hn => ?_⟩
  obtain ⟨b, off, eb, hlt, hc⟩ := hat.2 hn
  refine ⟨b, off, eb, hlt, fun i hi => ?_⟩
  have hi' : i < L.length := by simpa using hi
  rw [List.getElem_map]
  refine ⟨hc i hi' 0 _ rfl, hc i hi' 1 _ rfl, hc i hi' 2 _ rfl, hc i hi' 3 _ rfl, L[i].2.1, L[i].2.2, hc i hi' 4 _ rfl, ?_⟩
  obtain ⟨x, cx, ex, _, hx⟩ := (h.nets _ (List.getElem_mem hi')).at
  unfold Cf.nv at ex
  injection ex with e1 _ _
  rw [e1]
  exact netT_at.1 hx
/-- copy of nothing. -/
theorem RowTy.run_copy_nil {α : Type} (T : RowTy α) (w : World) (d : Addr) (dLen dCap sCap : Nat) (a : Option Addr) :
    ∀ ty, (Builtin.copy_ #[T.s, T.s] ty #[.slice (some d) dLen dCap, .slice a 0 sCap]).run Tryd.prog w = .ok (goInt 0) w := by
  intro ty
  obtain ⟨i, z, hi, _, _, _, _⟩ := T.info
  cases a with
  | none => simp [Builtin.copy_, run_underlying T.und, Builtin.lenOf, Builtin.firstCells, sizeOf, typeInfo, hi, storeCells]
  | some ad => simp [Builtin.copy_, run_underlying T.und, Builtin.lenOf, Builtin.firstCells, sizeOf, typeInfo, hi, storeCells, loadCells, loadCellsFrom]
end Go.Proofs.YtjdflnnpamjjcaaDoor
