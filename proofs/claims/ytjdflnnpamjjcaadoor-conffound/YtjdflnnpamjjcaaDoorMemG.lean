/- Words of our own for memory, whatever the elements: rows that fill a block; appends of any slice onto a row of the call's own. -/
import Derived.Test.YtjdflnnpamjjcaaDoorRows
import Derived.Test.YtjdflnnpamjjcaaDoorMem
import Derived.Deep.AppendLies
import Derived.Deep.WholeRow
namespace Go.Proofs.YtjdflnnpamjjcaaDoor
open Go.RowKit

/-- A block that is known whole is a row. -/
theorem own_block {w : World} {base g n : Nat} {e : TypeId} {xs : List Value} (hg : w.heap[g]? = some (.cells xs.toArray e (0, 0))) (hb : base ≤ g) (hn : xs.length = n) (hm : n ≤ maxLen) :
    w.ownsRow base e 1 (.slice (some ⟨g, 0, none⟩) n n) n xs :=
  ⟨by omega, .inr ⟨g, n, xs.toArray, rfl, hb, hg, Nat.le_refl _, hm, by simpa using hn, by rw [List.take_of_length_le (by simp; omega)]⟩⟩
/-- A row that fills its block. -/
theorem own_whole {w : World} {base g n : Nat} {e : TypeId} {xs : List Value} (h : w.ownsRow base e 1 (.slice (some ⟨g, 0, none⟩) n n) n xs) : w.heap[g]? = some (.cells xs.toArray e (0, 0)) := by
  rcases h.2 with ⟨hv, _⟩ | ⟨g', cap, cur, hv, _, hg, _, _, hs, ht⟩
  · cases hv
  · injection hv with h1 _ h3
    have h1' : g = g' := by injection h1 with h1; injection h1
    subst h1'; subst h3
    rw [List.take_of_length_le (by simp; omega)] at ht
    rw [← ht]
    exact hg
def lenV : Value → Nat
  | .slice _ n _ => n
  | _ => 0
/-- A row's own value, nil: it has no room. -/
theorem own_nil {w : World} {base e n c : Nat} {a : Option Addr} {xs : List Value} (h : w.ownsRow base e 1 (.slice a n c) n xs) : a = none → n = 0 ∧ c = 0 := by
  intro ha; subst ha
  rcases h.2 with ⟨hv, _⟩ | ⟨g, cap, cur, hv, _⟩
  · injection hv with _ h2 h3; exact ⟨h2, h3⟩
  · cases hv

section
variable {P : Program} (w : World)
/-- append of whatever slice (nil too) onto a row of the call's own (nil too), elements of one cell; and where the new row lies. -/
theorem run_append_any_at (t ty : TypeId) (base : Nat) (e : TypeId) (i : TypeInfo) (z : Value) (bytes : Nat) (ht : P.underlying t = some (.slice e)) (hi : P.info? e = some i) (hz : i.zero = some z)
    (hsize : i.size = 1) (hby : i.bytes = bytes) (hzs : z.cells.size = 1) (av : Option Addr) (n c : Nat) (xs : List Value) (hown : w.ownsRow base e 1 (.slice av n c) n xs)
    (ao : Option Addr) (m cx : Nat) (news : List Value) (hl : news.length = m) (hnil : ao = none → m = 0 ∧ cx = 0) (hnews : ∀ ad, ao = some ad → ∀ j u, news[j]? = some u → w.cell? (ad.add j) = some u)
    (h1 : ∀ u ∈ news, u.oneCell' = true) (h63 : n + m ≤ maxLen) (hbytes : (n + m) * bytes ≤ 140737488355328) (hbase : base ≤ w.heap.size) :
    ∃ a' c' w', (Builtin.append_ #[t, t] ty #[.slice av n c, .slice ao m cx]).run P w = .ok (.slice a' (n + m) c') w' ∧
      w'.ownsRow base e 1 (.slice a' (n + m) c') (n + m) (xs ++ news) ∧ w.grownBy w' (Value.slice av n c).ownBlock ∧
      ((Value.slice a' (n + m) c').ownBlock = (Value.slice av n c).ownBlock ∨ (Value.slice a' (n + m) c').ownBlock = some w.heap.size) := by
  cases ao with
  | some ad =>
    obtain ⟨v', w', hr, h2, h3, _, h5⟩ := run_append_own_at (P := P) w base t ty e i z 1 bytes ht hi hz hsize hby hzs (by decide) _ n xs hown ad m cx news (by omega) (hnews ad rfl) h1 h63 hbytes hbase
    rcases h2.2 with ⟨rfl, h0⟩ | ⟨g, cap, cur, rfl, _⟩
    · refine ⟨none, 0, w', ?_, ?_, h3, h5⟩
      · rw [h0]; exact hr
      · rw [h0]; rw [h0] at h2; exact h2
    · exact ⟨_, cap, w', hr, h2, h3, h5⟩
  | none =>
    obtain ⟨rfl, rfl⟩ := hnil rfl
    obtain rfl : news = [] := List.eq_nil_of_length_eq_zero hl
    refine ⟨av, c, w, run_append_owned_none (P := P) (w := w) base t ty e i 1 ht hi _ n xs hown, ?_, World.grownBy.refl _ _, .inl rfl⟩
    simpa using hown
theorem run_append_any (t ty : TypeId) (base : Nat) (e : TypeId) (i : TypeInfo) (z : Value) (bytes : Nat) (ht : P.underlying t = some (.slice e)) (hi : P.info? e = some i) (hz : i.zero = some z)
    (hsize : i.size = 1) (hby : i.bytes = bytes) (hzs : z.cells.size = 1) (av : Option Addr) (n c : Nat) (xs : List Value) (hown : w.ownsRow base e 1 (.slice av n c) n xs)
    (ao : Option Addr) (m cx : Nat) (news : List Value) (hl : news.length = m) (hnil : ao = none → m = 0 ∧ cx = 0) (hnews : ∀ ad, ao = some ad → ∀ j u, news[j]? = some u → w.cell? (ad.add j) = some u)
    (h1 : ∀ u ∈ news, u.oneCell' = true) (h63 : n + m ≤ maxLen) (hbytes : (n + m) * bytes ≤ 140737488355328) (hbase : base ≤ w.heap.size) :
    ∃ a' c' w', (Builtin.append_ #[t, t] ty #[.slice av n c, .slice ao m cx]).run P w = .ok (.slice a' (n + m) c') w' ∧
      w'.ownsRow base e 1 (.slice a' (n + m) c') (n + m) (xs ++ news) ∧ w.grownBy w' (Value.slice av n c).ownBlock := by
  obtain ⟨a', c', w', h1, h2, h3, _⟩ := run_append_any_at (P := P) w t ty base e i z bytes ht hi hz hsize hby hzs av n c xs hown ao m cx news hl hnil hnews h1 h63 hbytes hbase
  exact ⟨a', c', w', h1, h2, h3⟩
theorem wp_append_any {o : Oper} {a : Act} {K : Act → World → Prop} {Q : Exit → Act → World → Prop} (s x : Operand) (t : TypeId)
    (ho : o.op = .call { callee := .builtin .append, args := #[s, x], argTypes := #[t, t] })
    (base : Nat) (e : TypeId) (i : TypeInfo) (z : Value) (bytes : Nat) (ht : P.underlying t = some (.slice e)) (hi : P.info? e = some i) (hz : i.zero = some z)
    (hsize : i.size = 1) (hby : i.bytes = bytes) (hzs : z.cells.size = 1) (av : Option Addr) (n c : Nat) (xs : List Value) (hs : a.eval s = .slice av n c) (hown : w.ownsRow base e 1 (.slice av n c) n xs)
    (ao : Option Addr) (m cx : Nat) (news : List Value) (hx : a.eval x = .slice ao m cx) (hl : news.length = m) (hnil : ao = none → m = 0 ∧ cx = 0) (hnews : ∀ ad, ao = some ad → ∀ j u, news[j]? = some u → w.cell? (ad.add j) = some u)
    (h1 : ∀ u ∈ news, u.oneCell' = true) (h63 : n + m ≤ maxLen) (hbytes : (n + m) * bytes ≤ 140737488355328) (hbase : base ≤ w.heap.size)
    (h : ∀ a' c' w', w'.ownsRow base e 1 (.slice a' (n + m) c') (n + m) (xs ++ news) → w.grownBy w' (Value.slice av n c).ownBlock → K (a.put o.dst (.slice a' (n + m) c')) w') : o.wp P a w K Q := by
  obtain ⟨a', c', w', hr, h2, h3⟩ := run_append_any (P := P) w t o.type base e i z bytes ht hi hz hsize hby hzs av n c xs hown ao m cx news hl hnil hnews h1 h63 hbytes hbase
  unfold Oper.wp execOp
  simp only [ho, resolve, invoke, builtin, Sem.run_bind, Sem.run_pure, Result.andThen_ok, List.map_toArray, List.map_cons, List.map_nil, hs, hx, hr]
  exact h a' c' w' h2 h3
theorem wpList_append_any {ops : Array Oper} {rest : List Oper} {o : Oper} {a : Act} {Q : Exit → Act → World → Prop} (hgd : o.guard = none) (s x : Operand) (t : TypeId)
    (ho : o.op = .call { callee := .builtin .append, args := #[s, x], argTypes := #[t, t] })
    (base : Nat) (e : TypeId) (i : TypeInfo) (z : Value) (bytes : Nat) (ht : P.underlying t = some (.slice e)) (hi : P.info? e = some i) (hz : i.zero = some z)
    (hsize : i.size = 1) (hby : i.bytes = bytes) (hzs : z.cells.size = 1) (av : Option Addr) (n c : Nat) (xs : List Value) (hs : a.eval s = .slice av n c) (hown : w.ownsRow base e 1 (.slice av n c) n xs)
    (ao : Option Addr) (m cx : Nat) (news : List Value) (hx : a.eval x = .slice ao m cx) (hl : news.length = m) (hnil : ao = none → m = 0 ∧ cx = 0) (hnews : ∀ ad, ao = some ad → ∀ j u, news[j]? = some u → w.cell? (ad.add j) = some u)
    (h1 : ∀ u ∈ news, u.oneCell' = true) (h63 : n + m ≤ maxLen) (hbytes : (n + m) * bytes ≤ 140737488355328) (hbase : base ≤ w.heap.size)
    (h : ∀ a' c' w', w'.ownsRow base e 1 (.slice a' (n + m) c') (n + m) (xs ++ news) → w.grownBy w' (Value.slice av n c).ownBlock → wpList P ops Q rest (a.put o.dst (.slice a' (n + m) c')) w') : wpList P ops Q (o :: rest) a w :=
  wpList_plain hgd fun _ hK => wp_append_any w s x t ho base e i z bytes ht hi hz hsize hby hzs av n c xs hs hown ao m cx news hx hl hnil hnews h1 h63 hbytes hbase fun a' c' w' h2 h3 => hK _ _ (h a' c' w' h2 h3)
theorem step_append_any {ops : Array Oper} {o : Oper} {a : Act} {K : Act → World → Prop} {Q : Exit → Act → World → Prop} {E : Prop} (hgd : o.guard = none) (s x : Operand) (t : TypeId)
    (ho : o.op = .call { callee := .builtin .append, args := #[s, x], argTypes := #[t, t] })
    (base : Nat) (e : TypeId) (i : TypeInfo) (z : Value) (bytes : Nat) (ht : P.underlying t = some (.slice e)) (hi : P.info? e = some i) (hz : i.zero = some z)
    (hsize : i.size = 1) (hby : i.bytes = bytes) (hzs : z.cells.size = 1) (av : Option Addr) (n c : Nat) (xs : List Value) (hs : a.eval s = .slice av n c) (hown : w.ownsRow base e 1 (.slice av n c) n xs)
    (ao : Option Addr) (m cx : Nat) (news : List Value) (hx : a.eval x = .slice ao m cx) (hl : news.length = m) (hnil : ao = none → m = 0 ∧ cx = 0) (hnews : ∀ ad, ao = some ad → ∀ j u, news[j]? = some u → w.cell? (ad.add j) = some u)
    (h1 : ∀ u ∈ news, u.oneCell' = true) (h63 : n + m ≤ maxLen) (hbytes : (n + m) * bytes ≤ 140737488355328) (hbase : base ≤ w.heap.size)
    (h : ∀ a' c' w', w'.ownsRow base e 1 (.slice a' (n + m) c') (n + m) (xs ++ news) → w.grownBy w' (Value.slice av n c).ownBlock → K (a.put o.dst (.slice a' (n + m) c')) w') :
    if Region.wanted o (yielded ops a.tmps) = true then Oper.wp P o a w K Q else E := by
  rw [if_pos (by simp [Region.wanted, hgd])]
  exact wp_append_any w s x t ho base e i z bytes ht hi hz hsize hby hzs av n c xs hs hown ao m cx news hx hl hnil hnews h1 h63 hbytes hbase h
end
theorem below_own {B base e n c : Nat} {w0 w w' : World} {a : Option Addr} {xs : List Value} (hb : Below B w0 w) (ho : w.ownsRow base e 1 (.slice a n c) n xs) (hg : w.grownBy w' (Value.slice a n c).ownBlock) (hB : B ≤ base) (hs : B ≤ w.heap.size) : Below B w0 w' :=
  hb.grown hg hs (fun k h => Nat.le_trans hB (ho.lt k h).1)
/-- Where a row is that has grown, and one that stands apart from it. -/
theorem apart_grown {w w' : World} {base n c n' c' m d : Nat} {e : TypeId} {a a' b : Option Addr} {ys : List Value} (hy : w.ownsRow base e 1 (.slice b m d) m ys)
    (hap : ∀ g, (Value.slice a n c).ownBlock = some g → (Value.slice b m d).ownBlock ≠ some g) (hgr : w.grownBy w' (Value.slice a n c).ownBlock)
    (hat : (Value.slice a' n' c').ownBlock = (Value.slice a n c).ownBlock ∨ (Value.slice a' n' c').ownBlock = some w.heap.size) :
    w'.ownsRow base e 1 (.slice b m d) m ys ∧ ∀ g, (Value.slice a' n' c').ownBlock = some g → (Value.slice b m d).ownBlock ≠ some g := by
  constructor
  · refine hy.kept hgr ?_
    cases hb : (Value.slice b m d).ownBlock with
    | none => exact .inl rfl
    | some g =>
      refine .inr fun hc => ?_
      exact hap g hc.symm hb
  · intro g hg hb
    rcases hat with hat | hat
    · exact hap g (hat ▸ hg) hb
    · rw [hat] at hg
      injection hg with hg
      have := (hy.lt g hb).2
      omega
theorem own_below {w w' : World} {base e n : Nat} {v : Value} {xs : List Value} (h : w.ownsRow base e 1 v n xs) (hb : Below w.heap.size w w') : w'.ownsRow base e 1 v n xs :=
  h.kept (row := none) ⟨hb.os, hb.tape, hb.output, hb.size, fun j hj _ => hb.block j hj⟩ (by cases hv : v.ownBlock <;> simp)
theorem own_cap {w : World} {base e n c : Nat} {a : Option Addr} {xs : List Value} (h : w.ownsRow base e 1 (.slice a n c) n xs) : n ≤ c ∧ c ≤ maxLen := by
  rcases h.2 with ⟨hv, _⟩ | ⟨g', cap, cur, hv, _, _, hk, hk2, _⟩
  · injection hv with _ h2 h3; subst h2; subst h3; exact ⟨Nat.le_refl _, Nat.zero_le _⟩
  · injection hv with _ _ h3; subst h3; exact ⟨hk, hk2⟩
end Go.Proofs.YtjdflnnpamjjcaaDoor
