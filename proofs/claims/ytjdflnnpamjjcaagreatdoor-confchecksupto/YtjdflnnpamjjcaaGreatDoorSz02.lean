/- Texts and pairs of texts: the same or not, as the walks ask. -/
import Derived.Test.YtjdflnnpamjjcaaGreatDoorRows
import Derived.Test.YtjdflnnpamjjcaaGreatDoorMem
import Derived.Deep.AppendLies
import Derived.Deep.WholeRow
import Derived.BigRegion
import Derived.Laws.ResultCell
import Derived.Laws.Rows
import Derived.Test.YtjdflnnpamjjcaaGreatDoorHexPlain
import Derived.WideShapes
import Derived.Laws.StructEq
namespace Go.Proofs.YtjdflnnpamjjcaaGreatDoor
open Go.RowKit

/-- A block that is known whole is a row. -/
theorem own_block {w : World} {base g n : Nat} {e : TypeId} {xs : List Value} (hg : w.heap[g]? = some (.cells xs.toArray e (0, 0))) (hb : base ≤ g) (hn : xs.length = n) (hm : n ≤ maxLen) :
    w.ownsRow base e 1 (.slice (some ⟨g, 0, none⟩) n n) n xs :=
  ⟨by omega, .inr ⟨g, n, xs.toArray, rfl, hb, hg, Nat.le_refl _, hm, by simpa using hn, by rw [List.take_of_length_le (by simp; omega)]⟩⟩
/-- A row that fills its block. -/
theorem own_whole {w : World} {base g n : Nat} {e : TypeId} {xs : List Value} (h : w.ownsRow base e 1 (.slice (some ⟨g, 0, none⟩) n n) n xs) : w.heap[g]? = some (.cells xs.toArray e (0, 0)) := by
  rcases h.2 with ⟨hv, _⟩ | ⟨g', cap, cur, hv, _, hg, _, _, hs, ht⟩
  · cases hv
  · injection hv with h1 _ h3
    have h1' : g = g' := by injection h1 with h1; injection h1
    subst h1'; subst h3
    rw [List.take_of_length_le (by simp; omega)] at ht
    rw [← ht]
    exact hg
def lenV : Value → Nat
  | .slice _ n _ => n
  | _ => 0
/-- A row's own value, nil: it has no room. -/
theorem own_nil {w : World} {base e n c : Nat} {a : Option Addr} {xs : List Value} (h : w.ownsRow base e 1 (.slice a n c) n xs) : a = none → n = 0 ∧ c = 0 := by
  intro ha; subst ha
  rcases h.2 with ⟨hv, _⟩ | ⟨g, cap, cur, hv, _⟩
  · injection hv with _ h2 h3; exact ⟨h2, h3⟩
  · cases hv

section
variable {P : Program} (w : World)
/-- append of whatever slice (nil too) onto a row of the call's own (nil too), elements of one cell; and where the new row lies. -/
theorem run_append_any_at (t ty : TypeId) (base : Nat) (e : TypeId) (i : TypeInfo) (z : Value) (bytes : Nat) (ht : P.underlying t = some (.slice e)) (hi : P.info? e = some i) (hz : i.zero = some z)
    (hsize : i.size = 1) (hby : i.bytes = bytes) (hzs : z.cells.size = 1) (av : Option Addr) (n c : Nat) (xs : List Value) (hown : w.ownsRow base e 1 (.slice av n c) n xs)
    (ao : Option Addr) (m cx : Nat) (news : List Value) (hl : news.length = m) (hnil : ao = none → m = 0 ∧ cx = 0) (hnews : ∀ ad, ao = some ad → ∀ j u, news[j]? = some u → w.cell? (ad.add j) = some u)
    (h1 : ∀ u ∈ news, u.oneCell' = true) (h63 : n + m ≤ maxLen) (hbytes : (n + m) * bytes ≤ 140737488355328) (hbase : base ≤ w.heap.size) :
    ∃ a' c' w', (Builtin.append_ #[t, t] ty #[.slice av n c, .slice ao m cx]).run P w = .ok (.slice a' (n + m) c') w' ∧
      w'.ownsRow base e 1 (.slice a' (n + m) c') (n + m) (xs ++ news) ∧ w.grownBy w' (Value.slice av n c).ownBlock ∧
      ((Value.slice a' (n + m) c').ownBlock = (Value.slice av n c).ownBlock ∨ (Value.slice a' (n + m) c').ownBlock = some w.heap.size) := by
  cases ao with
  | some ad =>
    obtain ⟨v', w', hr, h2, h3, _, h5⟩ := run_append_own_at (P := P) w base t ty e i z 1 bytes ht hi hz hsize hby hzs (by decide) _ n xs hown ad m cx news (by omega) (hnews ad rfl) h1 h63 hbytes hbase
    rcases h2.2 with ⟨rfl, h0⟩ | ⟨g, cap, cur, rfl, _⟩
    · refine ⟨none, 0, w', ?_, ?_, h3, h5⟩
      · rw [h0]; exact hr
      · rw [h0]; rw [h0] at h2; exact h2
    · exact ⟨_, cap, w', hr, h2, h3, h5⟩
  | none =>
    obtain ⟨rfl, rfl⟩ := hnil rfl
    obtain rfl : news = [] := List.eq_nil_of_length_eq_zero hl
    refine ⟨av, c, w, run_append_owned_none (P := P) (w := w) base t ty e i 1 ht hi _ n xs hown, ?_, World.grownBy.refl _ _, .inl rfl⟩
    simpa using hown
theorem run_append_any (t ty : TypeId) (base : Nat) (e : TypeId) (i : TypeInfo) (z : Value) (bytes : Nat) (ht : P.underlying t = some (.slice e)) (hi : P.info? e = some i) (hz : i.zero = some z)
    (hsize : i.size = 1) (hby : i.bytes = bytes) (hzs : z.cells.size = 1) (av : Option Addr) (n c : Nat) (xs : List Value) (hown : w.ownsRow base e 1 (.slice av n c) n xs)
    (ao : Option Addr) (m cx : Nat) (news : List Value) (hl : news.length = m) (hnil : ao = none → m = 0 ∧ cx = 0) (hnews : ∀ ad, ao = some ad → ∀ j u, news[j]? = some u → w.cell? (ad.add j) = some u)
    (h1 : ∀ u ∈ news, u.oneCell' = true) (h63 : n + m ≤ maxLen) (hbytes : (n + m) * bytes ≤ 140737488355328) (hbase : base ≤ w.heap.size) :
    ∃ a' c' w', (Builtin.append_ #[t, t] ty #[.slice av n c, .slice ao m cx]).run P w = .ok (.slice a' (n + m) c') w' ∧
      w'.ownsRow base e 1 (.slice a' (n + m) c') (n + m) (xs ++ news) ∧ w.grownBy w' (Value.slice av n c).ownBlock := by
  obtain ⟨a', c', w', h1, h2, h3, _⟩ := run_append_any_at (P := P) w t ty base e i z bytes ht hi hz hsize hby hzs av n c xs hown ao m cx news hl hnil hnews h1 h63 hbytes hbase
  exact ⟨a', c', w', h1, h2, h3⟩
theorem wp_append_any {o : Oper} {a : Act} {K : Act → World → Prop} {Q : Exit → Act → World → Prop} (s x : Operand) (t : TypeId)
    (ho : o.op = .call { callee := .builtin .append, args := #[s, x], argTypes := #[t, t] })
    (base : Nat) (e : TypeId) (i : TypeInfo) (z : Value) (bytes : Nat) (ht : P.underlying t = some (.slice e)) (hi : P.info? e = some i) (hz : i.zero = some z)
    (hsize : i.size = 1) (hby : i.bytes = bytes) (hzs : z.cells.size = 1) (av : Option Addr) (n c : Nat) (xs : List Value) (hs : a.eval s = .slice av n c) (hown : w.ownsRow base e 1 (.slice av n c) n xs)
    (ao : Option Addr) (m cx : Nat) (news : List Value) (hx : a.eval x = .slice ao m cx) (hl : news.length = m) (hnil : ao = none → m = 0 ∧ cx = 0) (hnews : ∀ ad, ao = some ad → ∀ j u, news[j]? = some u → w.cell? (ad.add j) = some u)
    (h1 : ∀ u ∈ news, u.oneCell' = true) (h63 : n + m ≤ maxLen) (hbytes : (n + m) * bytes ≤ 140737488355328) (hbase : base ≤ w.heap.size)
    (h : ∀ a' c' w', w'.ownsRow base e 1 (.slice a' (n + m) c') (n + m) (xs ++ news) → w.grownBy w' (Value.slice av n c).ownBlock → K (a.put o.dst (.slice a' (n + m) c')) w') : o.wp P a w K Q := by
  obtain ⟨a', c', w', hr, h2, h3⟩ := run_append_any (P := P) w t o.type base e i z bytes ht hi hz hsize hby hzs av n c xs hown ao m cx news hl hnil hnews h1 h63 hbytes hbase
  unfold Oper.wp execOp
  simp only [ho, resolve, invoke, builtin, Sem.run_bind, Sem.run_pure, Result.andThen_ok, List.map_toArray, List.map_cons, List.map_nil, hs, hx, hr]
  exact h a' c' w' h2 h3
theorem wpList_append_any {ops : Array Oper} {rest : List Oper} {o : Oper} {a : Act} {Q : Exit → Act → World → Prop} (hgd : o.guard = none) (s x : Operand) (t : TypeId)
    (ho : o.op = .call { callee := .builtin .append, args := #[s, x], argTypes := #[t, t] })
    (base : Nat) (e : TypeId) (i : TypeInfo) (z : Value) (bytes : Nat) (ht : P.underlying t = some (.slice e)) (hi : P.info? e = some i) (hz : i.zero = some z)
    (hsize : i.size = 1) (hby : i.bytes = bytes) (hzs : z.cells.size = 1) (av : Option Addr) (n c : Nat) (xs : List Value) (hs : a.eval s = .slice av n c) (hown : w.ownsRow base e 1 (.slice av n c) n xs)
    (ao : Option Addr) (m cx : Nat) (news : List Value) (hx : a.eval x = .slice ao m cx) (hl : news.length = m) (hnil : ao = none → m = 0 ∧ cx = 0) (hnews : ∀ ad, ao = some ad → ∀ j u, news[j]? = some u → w.cell? (ad.add j) = some u)
    (h1 : ∀ u ∈ news, u.oneCell' = true) (h63 : n + m ≤ maxLen) (hbytes : (n + m) * bytes ≤ 140737488355328) (hbase : base ≤ w.heap.size)
    (h : ∀ a' c' w', w'.ownsRow base e 1 (.slice a' (n + m) c') (n + m) (xs ++ news) → w.grownBy w' (Value.slice av n c).ownBlock → wpList P ops Q rest (a.put o.dst (.slice a' (n + m) c')) w') : wpList P ops Q (o :: rest) a w :=
  wpList_plain hgd fun _ hK => wp_append_any w s x t ho base e i z bytes ht hi hz hsize hby hzs av n c xs hs hown ao m cx news hx hl hnil hnews h1 h63 hbytes hbase fun a' c' w' h2 h3 => hK _ _ (h a' c' w' h2 h3)
theorem step_append_any {ops : Array Oper} {o : Oper} {a : Act} {K : Act → World → Prop} {Q : Exit → Act → World → Prop} {E : Prop} (hgd : o.guard = none) (s x : Operand) (t : TypeId)
    (ho : o.op = .call { callee := .builtin .append, args := #[s, x], argTypes := #[t, t] })
    (base : Nat) (e : TypeId) (i : TypeInfo) (z : Value) (bytes : Nat) (ht : P.underlying t = some (.slice e)) (hi : P.info? e = some i) (hz : i.zero = some z)
    (hsize : i.size = 1) (hby : i.bytes = bytes) (hzs : z.cells.size = 1) (av : Option Addr) (n c : Nat) (xs : List Value) (hs : a.eval s = .slice av n c) (hown : w.ownsRow base e 1 (.slice av n c) n xs)
    (ao : Option Addr) (m cx : Nat) (news : List Value) (hx : a.eval x = .slice ao m cx) (hl : news.length = m) (hnil : ao = none → m = 0 ∧ cx = 0) (hnews : ∀ ad, ao = some ad → ∀ j u, news[j]? = some u → w.cell? (ad.add j) = some u)
    (h1 : ∀ u ∈ news, u.oneCell' = true) (h63 : n + m ≤ maxLen) (hbytes : (n + m) * bytes ≤ 140737488355328) (hbase : base ≤ w.heap.size)
    (h : ∀ a' c' w', w'.ownsRow base e 1 (.slice a' (n + m) c') (n + m) (xs ++ news) → w.grownBy w' (Value.slice av n c).ownBlock → K (a.put o.dst (.slice a' (n + m) c')) w') :
    if Region.wanted o (yielded ops a.tmps) = true then Oper.wp P o a w K Q else E := by
  rw [if_pos (by simp [Region.wanted, hgd])]
  exact wp_append_any w s x t ho base e i z bytes ht hi hz hsize hby hzs av n c xs hs hown ao m cx news hx hl hnil hnews h1 h63 hbytes hbase h
end
theorem below_own {B base e n c : Nat} {w0 w w' : World} {a : Option Addr} {xs : List Value} (hb : Below B w0 w) (ho : w.ownsRow base e 1 (.slice a n c) n xs) (hg : w.grownBy w' (Value.slice a n c).ownBlock) (hB : B ≤ base) (hs : B ≤ w.heap.size) : Below B w0 w' :=
  hb.grown hg hs (fun k h => Nat.le_trans hB (ho.lt k h).1)
/-- Where a row is that has grown, and one that stands apart from it. -/
theorem apart_grown {w w' : World} {base n c n' c' m d : Nat} {e : TypeId} {a a' b : Option Addr} {ys : List Value} (hy : w.ownsRow base e 1 (.slice b m d) m ys)
    (hap : ∀ g, (Value.slice a n c).ownBlock = some g → (Value.slice b m d).ownBlock ≠ some g) (hgr : w.grownBy w' (Value.slice a n c).ownBlock)
    (hat : (Value.slice a' n' c').ownBlock = (Value.slice a n c).ownBlock ∨ (Value.slice a' n' c').ownBlock = some w.heap.size) :
    w'.ownsRow base e 1 (.slice b m d) m ys ∧ ∀ g, (Value.slice a' n' c').ownBlock = some g → (Value.slice b m d).ownBlock ≠ some g := by
  constructor
  · refine hy.kept hgr ?_
    cases hb : (Value.slice b m d).ownBlock with
    | none => exact .inl rfl
    | some g =>
      refine .inr fun hc => ?_
      exact hap g hc.symm hb
  · intro g hg hb
    rcases hat with hat | hat
    · exact hap g (hat ▸ hg) hb
    · rw [hat] at hg
      injection hg with hg
      have := (hy.lt g hb).2
      omega
theorem own_below {w w' : World} {base e n : Nat} {v : Value} {xs : List Value} (h : w.ownsRow base e 1 v n xs) (hb : Below w.heap.size w w') : w'.ownsRow base e 1 v n xs :=
  h.kept (row := none) ⟨hb.os, hb.tape, hb.output, hb.size, fun j hj _ => hb.block j hj⟩ (by cases hv : v.ownBlock <;> simp)
theorem own_cap {w : World} {base e n c : Nat} {a : Option Addr} {xs : List Value} (h : w.ownsRow base e 1 (.slice a n c) n xs) : n ≤ c ∧ c ≤ maxLen := by
  rcases h.2 with ⟨hv, _⟩ | ⟨g', cap, cur, hv, _, _, hk, hk2, _⟩
  · injection hv with _ h2 h3; subst h2; subst h3; exact ⟨Nat.le_refl _, Nat.zero_le _⟩
  · injection hv with _ _ h3; subst h3; exact ⟨hk, hk2⟩
end Go.Proofs.YtjdflnnpamjjcaaGreatDoor

namespace Go.Proofs.YtjdflnnpamjjcaaGreatDoor
open Go.RowKit

/-- Block g holds just these cells of a type. -/
def Blk (w : World) (g : Nat) (t : TypeId) (xs : List Value) : Prop := w.heap[g]? = some (.cells xs.toArray t (0, 0))
theorem Blk.new (w : World) (t : TypeId) (xs : List Value) : Blk (w.alloc (.cells xs.toArray t)) w.heap.size t xs := heap_alloc_last w _
theorem Blk.lt {w : World} {g : Nat} {t : TypeId} {xs : List Value} (h : Blk w g t xs) : g < w.heap.size := (Array.getElem?_eq_some_iff.1 h).1
theorem Blk.below {w w' : World} {g B : Nat} {t : TypeId} {xs : List Value} (h : Blk w g t xs) (hb : Below B w w') (hg : g < B) : Blk w' g t xs := (hb.block g hg).trans h
theorem Blk.kept {w w' : World} {g : Nat} {t : TypeId} {xs : List Value} (h : Blk w g t xs) (hb : Below w.heap.size w w') : Blk w' g t xs := h.below hb h.lt
theorem Blk.cell {w : World} {g : Nat} {t : TypeId} {xs : List Value} (h : Blk w g t xs) (i : Nat) {u : Value} (hi : xs[i]? = some u) : w.cell? ⟨g, i, none⟩ = some u := by
  rw [cell_of_row _ _ i _ _ _ h, List.getElem?_toArray, hi]
theorem Blk.row {w : World} {g : Nat} {t : TypeId} {xs : List Value} (h : Blk w g t xs) (hm : xs.length ≤ maxLen) : w.ownsRow g t 1 (.slice (some ⟨g, 0, none⟩) xs.length xs.length) xs.length xs := own_block h (Nat.le_refl _) rfl hm
theorem Blk.frozen {w : World} {g : Nat} {t : TypeId} {xs : List Value} (h : Blk w g t xs) (hm : xs.length ≤ maxLen) (i : Nat) : w.frozen? ⟨g, i, none⟩ = false := (h.row hm).frozenAt i
theorem Blk.set {w : World} {g : Nat} {t : TypeId} {xs : List Value} (h : Blk w g t xs) (hm : xs.length ≤ maxLen) (i : Nat) (u : Value) : Blk (w.setCell ⟨g, i, none⟩ u) g t (xs.set i u) := by
  have := ((h.row hm).stored i u).1
  rw [show xs.length = (xs.set i u).length by simp] at this
  exact own_whole this
theorem Blk.other {w : World} {g k i : Nat} {t : TypeId} {xs : List Value} (h : Blk w g t xs) (hne : g ≠ k) (u : Value) : Blk (w.setCell ⟨k, i, none⟩ u) g t xs := by
  unfold Blk
  rw [heap_setCell_other _ _ _ _ hne]
  exact h
/-- A struct and something, out of the result's own cells. -/
theorem ret_cell {fn : Func} {w : World} {g : Nat} {t : TypeId} {xs : List Value} {p u : Nat} {v : Value} {tmps : Array Value} (hl : (loadVar t ⟨g, 0, none⟩).run Tryz.prog w = .ok (.agg xs.toArray) w)
    (h : fn.results = #[.cell p t, .tmp u]) (hp : tmps.getD p undef = .pointer (some ⟨g, 0, none⟩)) (hv : tmps.getD u undef = v) : (results fn tmps).run Tryz.prog w = .ok (.tuple #[.agg xs.toArray, v]) w := by
  rw [results_cell_tmp h, hp, hv]
  simp [asAddr, hl]
/-- A struct out of the result's own cells. -/
theorem ret_cell1 {fn : Func} {w : World} {g : Nat} {t : TypeId} {xs : List Value} {p : Nat} {tmps : Array Value} (hl : (loadVar t ⟨g, 0, none⟩).run Tryz.prog w = .ok (.agg xs.toArray) w)
    (h : fn.results = #[.cell p t]) (hp : tmps.getD p undef = .pointer (some ⟨g, 0, none⟩)) : (results fn tmps).run Tryz.prog w = .ok (.agg xs.toArray) w := by
  have hp' : tmps[p]?.getD undef = .pointer (some ⟨g, 0, none⟩) := by simpa using hp
  simp only [results, h]
  simp [hp', asAddr, hl]
/-- All five cells of a block written. -/
theorem Blk.set5 {w : World} {g : Nat} {t : TypeId} {x0 x1 x2 x3 x4 : Value} (h : Blk w g t [x0, x1, x2, x3, x4]) (y0 y1 y2 y3 y4 : Value) :
    Blk (((((w.setCell ⟨g, 0, none⟩ y0).setCell ⟨g, 1, none⟩ y1).setCell ⟨g, 2, none⟩ y2).setCell ⟨g, 3, none⟩ y3).setCell ⟨g, 4, none⟩ y4) g t [y0, y1, y2, y3, y4] := by
  have h5 : 5 ≤ maxLen := by decide
  exact ((((h.set h5 0 y0).set h5 1 y1).set h5 2 y2).set h5 3 y3).set h5 4 y4
theorem Blk.facts5 {w : World} {g : Nat} {t : TypeId} {x0 x1 x2 x3 x4 : Value} (h : Blk w g t [x0, x1, x2, x3, x4]) :
    (w.cell? ⟨g, 0, none⟩ = some x0 ∧ w.cell? ⟨g, 1, none⟩ = some x1 ∧ w.cell? ⟨g, 2, none⟩ = some x2 ∧ w.cell? ⟨g, 3, none⟩ = some x3 ∧ w.cell? ⟨g, 4, none⟩ = some x4) ∧
    (w.frozen? ⟨g, 0, none⟩ = false ∧ w.frozen? ⟨g, 1, none⟩ = false ∧ w.frozen? ⟨g, 2, none⟩ = false ∧ w.frozen? ⟨g, 3, none⟩ = false ∧ w.frozen? ⟨g, 4, none⟩ = false) := by
  have h5 : 5 ≤ maxLen := by decide
  exact ⟨⟨h.cell 0 rfl, h.cell 1 rfl, h.cell 2 rfl, h.cell 3 rfl, h.cell 4 rfl⟩, ⟨h.frozen h5 0, h.frozen h5 1, h.frozen h5 2, h.frozen h5 3, h.frozen h5 4⟩⟩
theorem below_set5 {w w' : World} {B g : Nat} (h : Below B w w') (hg : B ≤ g) (y0 y1 y2 y3 y4 : Value) : Below B w (((((w'.setCell ⟨g, 0, none⟩ y0).setCell ⟨g, 1, none⟩ y1).setCell ⟨g, 2, none⟩ y2).setCell ⟨g, 3, none⟩ y3).setCell ⟨g, 4, none⟩ y4) :=
  ((((h.setCell hg _).setCell hg _).setCell hg _).setCell hg _).setCell hg _
end Go.Proofs.YtjdflnnpamjjcaaGreatDoor

namespace Go.Proofs.YtjdflnnpamjjcaaGreatDoor
open Go.RowKit

set_option maxHeartbeats 400000 in
theorem hex_value (c : UInt8) (w : World) :
    Calls Tryz.prog 42 #[.int .u8 (c.toNat : Int)] w fun e w' => e = .returned (.tuple #[.int .u8 (Hx.digVal c : Int), .bool (Hx.isDig c)]) ∧ w = w' := by
  have hc := c.toNat_lt
  by_cases h1 : 48 ≤ c.toNat <;> by_cases h2 : c.toNat ≤ 57 <;> by_cases h3 : 97 ≤ c.toNat <;> by_cases h4 : c.toNat ≤ 102 <;> first
  | omega
  | (go_enter Tryz.func42, Tryz.ntmps42
     go_wp2
     go_ret2
     exact ⟨ret_int_bool (by simp [Hx.digVal, *]; try omega) (by simp [Hx.isDig, *]), rfl⟩)

def allD (s : ByteArray) : Bool := s.data.toList.all Hx.isDig
theorem allD_step (s : ByteArray) (k : Nat) (h : k < s.size) : ((s.data.toList.take (k + 1)).all Hx.isDig) = ((s.data.toList.take k).all Hx.isDig && Hx.isDig s[k]) := by
  rw [List.take_succ_eq_append_getElem (by simpa using h)]
  simp [List.all_append]; rfl
theorem allD_no (s : ByteArray) (k : Nat) (h : k < s.size) (hn : Hx.isDig s[k] = false) : allD s = false := by
  unfold allD
  rw [List.all_eq_false]
  exact ⟨s[k], by simp [ByteArray.getElem_eq_getElem_data], by simp [hn]⟩

set_option maxHeartbeats 400000 in
theorem hex_allDigits (s : ByteArray) (w : World) (hs : s.size ≤ maxLen) :
    Calls Tryz.prog 25 #[.string s] w fun e w' => e = .returned (.bool (allD s)) ∧ w = w' := by
  unfold maxLen at hs
  go_enter Tryz.func25, Tryz.ntmps25
  go_wp2
  go_loop [8] (fun i => ∃ k : Nat, k ≤ s.size ∧ i = .int .i64 k ∧ Hid ((s.data.toList.take k).all Hx.isDig = true)) (fun i => s.size - (intOf i).toNat)
  case atStart => exact ⟨0, Nat.zero_le _, rfl, Lib.hid rfl⟩
  case round =>
    obtain ⟨k, hk, rfl, H⟩ := hrel
    by_cases hlt : k < s.size
    · cases hd : Hx.isDig s[k]
      · have Hn := Lib.hid (allD_no s k hlt hd)
        go_wp2_with (go_at_call 42; refine (hex_value _ _).mono ?_; rintro e w' ⟨rfl, rfl⟩)
        go_ret
        exact ⟨by rw [Hn.out]; rfl, rfl⟩
      · have Hn := Lib.hid (show (s.data.toList.take (k + 1)).all Hx.isDig = true by rw [allD_step s k hlt, H.out, hd]; rfl)
        go_wp2_with (go_at_call 42; refine (hex_value _ _).mono ?_; rintro e w' ⟨rfl, rfl⟩)
        go_round
        case rel => exact ⟨k + 1, by omega, by go_num, Hn⟩
        case measure => simp [intOf]; omega
    · go_wp2
      go_ret
      exact ⟨by unfold allD; rw [← H.out, List.take_of_length_le (by simp; omega)]; rfl, rfl⟩

theorem allD_err (s : ByteArray) : Hx.checkErr s.data.toList = if s.size ≠ 64 then 1 else if allD s = false then 3 else 0 := by
  simp [Hx.checkErr, allD]

set_option maxHeartbeats 400000 in
theorem hex_Check (s : ByteArray) (w : World) (hs : s.size ≤ maxLen) :
    Calls Tryz.prog 14 #[.string s] w fun e w' => e = .returned (.int .i64 (Hx.checkErr s.data.toList : Int)) ∧ w = w' := by
  rw [allD_err]
  have hs' := hs
  unfold maxLen at hs'
  generalize hz : (if s.size ≠ 64 then 1 else if allD s = false then 3 else 0 : Nat) = r
  have Hz := Lib.hid hz
  clear hz
  by_cases h : s.size = 64
  · have h1 : ((s.size : Int) != 64) = false := by simp [h]
    have H := Lib.hid h
    clear h
    cases hd : allD s <;>
    · have Hd := Lib.hid hd
      go_enter Tryz.func14, Tryz.ntmps14
      go_wp2_with (go_at_call 25; refine (hex_allDigits _ _ hs).mono ?_; rintro e w' ⟨rfl, rfl⟩)
      go_ret
      exact ⟨ret_int (by rw [← Hz.out]; simp [H.out, Hd.out]), rfl⟩
  · have h1 : ((s.size : Int) != 64) = true := by simp; omega
    go_enter Tryz.func14, Tryz.ntmps14
    go_wp2
    go_ret
    exact ⟨ret_int (by rw [← Hz.out]; simp [h]), rfl⟩
end Go.Proofs.YtjdflnnpamjjcaaGreatDoor

namespace Go.Proofs.YtjdflnnpamjjcaaGreatDoor

theorem text_eq (x y : ByteArray) : x = y ∨ (x.toList == y.toList) = false := by
  by_cases h : x = y
  · exact .inl h
  · refine .inr (beq_eq_false_iff_ne.2 fun e => h ?_)
    rw [ByteArray.toList_eq, ByteArray.toList_eq] at e
    exact WideShapes.bytes_inj e
theorem line_parts (xa ya xb yb : ByteArray) : (xa = ya ∧ xb = yb) ∨ (xa.toList == ya.toList) = false ∨ (xa = ya ∧ (xb.toList == yb.toList) = false) := by
  rcases text_eq xa ya with h | h
  · rcases text_eq xb yb with g | g
    · exact .inl ⟨h, g⟩
    · exact .inr (.inr ⟨h, g⟩)
  · exact .inr (.inl h)
end Go.Proofs.YtjdflnnpamjjcaaGreatDoor
