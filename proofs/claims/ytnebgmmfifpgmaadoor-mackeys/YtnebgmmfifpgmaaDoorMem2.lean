/- Words of our own for memory, more: rows of the call's own that grow by an append of whatever slice; blocks that are known whole; words of 32 bits. -/
import Derived.Test.YtnebgmmfifpgmaaDoorRows
import Derived.Test.YtnebgmmfifpgmaaDoorMem
import Derived.Deep.AppendLies
import Derived.Deep.WholeRow
import Derived.Laws.CopyOwn
namespace Go.Proofs.YtnebgmmfifpgmaaDoor
open Go.RowKit

/-- A block that is known whole is a row. -/
theorem own_block {w : World} {base g n : Nat} {e : TypeId} {xs : List Value} (hg : w.heap[g]? = some (.cells xs.toArray e (0, 0))) (hb : base ≤ g) (hn : xs.length = n) (hm : n ≤ maxLen) :
    w.ownsRow base e 1 (.slice (some ⟨g, 0, none⟩) n n) n xs :=
  ⟨by omega, .inr ⟨g, n, xs.toArray, rfl, hb, hg, Nat.le_refl _, hm, by simpa using hn, by rw [List.take_of_length_le (by simp; omega)]⟩⟩
/-- A row that fills its block. -/
theorem own_whole {w : World} {base g n : Nat} {e : TypeId} {xs : List Value} (h : w.ownsRow base e 1 (.slice (some ⟨g, 0, none⟩) n n) n xs) : w.heap[g]? = some (.cells xs.toArray e (0, 0)) := by
  rcases h.2 with ⟨hv, _⟩ | ⟨g', cap, cur, hv, _, hg, _, _, hs, ht⟩
  · cases hv
  · injection hv with h1 _ h3
    have h1' : g = g' := by injection h1 with h1; injection h1
    subst h1'; subst h3
    rw [List.take_of_length_le (by simp; omega)] at ht
    rw [← ht]
    exact hg
theorem bcells_one (bs : List UInt8) : ∀ v ∈ bcells bs, v.oneCell' = true := by
  intro v hv; simp only [bcells, List.mem_map] at hv; obtain ⟨c, _, rfl⟩ := hv; rfl

def lenV : Value → Nat
  | .slice _ n _ => n
  | _ => 0
/-- A call has answered some bytes of its own and an error. -/
def SlicePost (err : Nat) (out : List UInt8) (w : World) (e : Ending) (w' : World) : Prop :=
  ∃ a n c, e = .returned (.tuple #[.slice a n c, .int .i64 (err : Int)]) ∧
    w'.ownsRow w.heap.size 5 1 (.slice a n c) out.length (bcells out) ∧ Below w.heap.size w w'
theorem slicePost_none {w wr : World} {err : Nat} (hb : Below w.heap.size w wr) : SlicePost err [] w (.returned (.tuple #[.slice none 0 0, .int .i64 (err : Int)])) wr :=
  ⟨none, 0, 0, rfl, World.ownsRow_nil _ _ _ _, hb⟩
theorem slicePost_own {w wr : World} {err n c : Nat} {a : Option Addr} {out : List UInt8} (ho : wr.ownsRow w.heap.size 5 1 (.slice a n c) n (bcells out)) (hb : Below w.heap.size w wr) :
    SlicePost err out w (.returned (.tuple #[.slice a n c, .int .i64 (err : Int)])) wr :=
  ⟨a, n, c, rfl, by have := ho.1; rw [bcells_length] at this; rw [this, Nat.mul_one]; exact ho, hb⟩
/-- A row's own value, nil: it has no room. -/
theorem own_nil {w : World} {base e n c : Nat} {a : Option Addr} {xs : List Value} (h : w.ownsRow base e 1 (.slice a n c) n xs) : a = none → n = 0 ∧ c = 0 := by
  intro ha; subst ha
  rcases h.2 with ⟨hv, _⟩ | ⟨g, cap, cur, hv, _⟩
  · injection hv with _ h2 h3; exact ⟨h2, h3⟩
  · cases hv

section
variable {P : Program} (w : World)
/-- append of whatever slice (nil too) onto a row of the call's own (nil too), elements of one cell; and where the new row lies. -/
theorem run_append_any_at (t ty : TypeId) (base : Nat) (e : TypeId) (i : TypeInfo) (z : Value) (bytes : Nat) (ht : P.underlying t = some (.slice e)) (hi : P.info? e = some i) (hz : i.zero = some z)
    (hsize : i.size = 1) (hby : i.bytes = bytes) (hzs : z.cells.size = 1) (av : Option Addr) (n c : Nat) (xs : List Value) (hown : w.ownsRow base e 1 (.slice av n c) n xs)
    (ao : Option Addr) (m cx : Nat) (news : List Value) (hl : news.length = m) (hnil : ao = none → m = 0 ∧ cx = 0) (hnews : ∀ ad, ao = some ad → ∀ j u, news[j]? = some u → w.cell? (ad.add j) = some u)
    (h1 : ∀ u ∈ news, u.oneCell' = true) (h63 : n + m ≤ maxLen) (hbytes : (n + m) * bytes ≤ 140737488355328) (hbase : base ≤ w.heap.size) :
    ∃ a' c' w', (Builtin.append_ #[t, t] ty #[.slice av n c, .slice ao m cx]).run P w = .ok (.slice a' (n + m) c') w' ∧
      w'.ownsRow base e 1 (.slice a' (n + m) c') (n + m) (xs ++ news) ∧ w.grownBy w' (Value.slice av n c).ownBlock ∧
      ((Value.slice a' (n + m) c').ownBlock = (Value.slice av n c).ownBlock ∨ (Value.slice a' (n + m) c').ownBlock = some w.heap.size) := by
  cases ao with
  | some ad =>
    obtain ⟨v', w', hr, h2, h3, _, h5⟩ := run_append_own_at (P := P) w base t ty e i z 1 bytes ht hi hz hsize hby hzs (by decide) _ n xs hown ad m cx news (by omega) (hnews ad rfl) h1 h63 hbytes hbase
    rcases h2.2 with ⟨rfl, h0⟩ | ⟨g, cap, cur, rfl, _⟩
    · refine ⟨none, 0, w', ?_, ?_, h3, h5⟩
      · rw [h0]; exact hr
      · rw [h0]; rw [h0] at h2; exact h2
    · exact ⟨_, cap, w', hr, h2, h3, h5⟩
  | none =>
    obtain ⟨rfl, rfl⟩ := hnil rfl
    obtain rfl : news = [] := List.eq_nil_of_length_eq_zero hl
    refine ⟨av, c, w, run_append_owned_none (P := P) (w := w) base t ty e i 1 ht hi _ n xs hown, ?_, World.grownBy.refl _ _, .inl rfl⟩
    simpa using hown
theorem run_append_any (t ty : TypeId) (base : Nat) (e : TypeId) (i : TypeInfo) (z : Value) (bytes : Nat) (ht : P.underlying t = some (.slice e)) (hi : P.info? e = some i) (hz : i.zero = some z)
    (hsize : i.size = 1) (hby : i.bytes = bytes) (hzs : z.cells.size = 1) (av : Option Addr) (n c : Nat) (xs : List Value) (hown : w.ownsRow base e 1 (.slice av n c) n xs)
    (ao : Option Addr) (m cx : Nat) (news : List Value) (hl : news.length = m) (hnil : ao = none → m = 0 ∧ cx = 0) (hnews : ∀ ad, ao = some ad → ∀ j u, news[j]? = some u → w.cell? (ad.add j) = some u)
    (h1 : ∀ u ∈ news, u.oneCell' = true) (h63 : n + m ≤ maxLen) (hbytes : (n + m) * bytes ≤ 140737488355328) (hbase : base ≤ w.heap.size) :
    ∃ a' c' w', (Builtin.append_ #[t, t] ty #[.slice av n c, .slice ao m cx]).run P w = .ok (.slice a' (n + m) c') w' ∧
      w'.ownsRow base e 1 (.slice a' (n + m) c') (n + m) (xs ++ news) ∧ w.grownBy w' (Value.slice av n c).ownBlock := by
  obtain ⟨a', c', w', h1, h2, h3, _⟩ := run_append_any_at (P := P) w t ty base e i z bytes ht hi hz hsize hby hzs av n c xs hown ao m cx news hl hnil hnews h1 h63 hbytes hbase
  exact ⟨a', c', w', h1, h2, h3⟩
theorem wp_append_any {o : Oper} {a : Act} {K : Act → World → Prop} {Q : Exit → Act → World → Prop} (s x : Operand) (t : TypeId)
    (ho : o.op = .call { callee := .builtin .append, args := #[s, x], argTypes := #[t, t] })
    (base : Nat) (e : TypeId) (i : TypeInfo) (z : Value) (bytes : Nat) (ht : P.underlying t = some (.slice e)) (hi : P.info? e = some i) (hz : i.zero = some z)
    (hsize : i.size = 1) (hby : i.bytes = bytes) (hzs : z.cells.size = 1) (av : Option Addr) (n c : Nat) (xs : List Value) (hs : a.eval s = .slice av n c) (hown : w.ownsRow base e 1 (.slice av n c) n xs)
    (ao : Option Addr) (m cx : Nat) (news : List Value) (hx : a.eval x = .slice ao m cx) (hl : news.length = m) (hnil : ao = none → m = 0 ∧ cx = 0) (hnews : ∀ ad, ao = some ad → ∀ j u, news[j]? = some u → w.cell? (ad.add j) = some u)
    (h1 : ∀ u ∈ news, u.oneCell' = true) (h63 : n + m ≤ maxLen) (hbytes : (n + m) * bytes ≤ 140737488355328) (hbase : base ≤ w.heap.size)
    (h : ∀ a' c' w', w'.ownsRow base e 1 (.slice a' (n + m) c') (n + m) (xs ++ news) → w.grownBy w' (Value.slice av n c).ownBlock → K (a.put o.dst (.slice a' (n + m) c')) w') : o.wp P a w K Q := by
  obtain ⟨a', c', w', hr, h2, h3⟩ := run_append_any (P := P) w t o.type base e i z bytes ht hi hz hsize hby hzs av n c xs hown ao m cx news hl hnil hnews h1 h63 hbytes hbase
  unfold Oper.wp execOp
  simp only [ho, resolve, invoke, builtin, Sem.run_bind, Sem.run_pure, Result.andThen_ok, List.map_toArray, List.map_cons, List.map_nil, hs, hx, hr]
  exact h a' c' w' h2 h3
theorem wpList_append_any {ops : Array Oper} {rest : List Oper} {o : Oper} {a : Act} {Q : Exit → Act → World → Prop} (hgd : o.guard = none) (s x : Operand) (t : TypeId)
    (ho : o.op = .call { callee := .builtin .append, args := #[s, x], argTypes := #[t, t] })
    (base : Nat) (e : TypeId) (i : TypeInfo) (z : Value) (bytes : Nat) (ht : P.underlying t = some (.slice e)) (hi : P.info? e = some i) (hz : i.zero = some z)
    (hsize : i.size = 1) (hby : i.bytes = bytes) (hzs : z.cells.size = 1) (av : Option Addr) (n c : Nat) (xs : List Value) (hs : a.eval s = .slice av n c) (hown : w.ownsRow base e 1 (.slice av n c) n xs)
    (ao : Option Addr) (m cx : Nat) (news : List Value) (hx : a.eval x = .slice ao m cx) (hl : news.length = m) (hnil : ao = none → m = 0 ∧ cx = 0) (hnews : ∀ ad, ao = some ad → ∀ j u, news[j]? = some u → w.cell? (ad.add j) = some u)
    (h1 : ∀ u ∈ news, u.oneCell' = true) (h63 : n + m ≤ maxLen) (hbytes : (n + m) * bytes ≤ 140737488355328) (hbase : base ≤ w.heap.size)
    (h : ∀ a' c' w', w'.ownsRow base e 1 (.slice a' (n + m) c') (n + m) (xs ++ news) → w.grownBy w' (Value.slice av n c).ownBlock → wpList P ops Q rest (a.put o.dst (.slice a' (n + m) c')) w') : wpList P ops Q (o :: rest) a w :=
  wpList_plain hgd fun _ hK => wp_append_any w s x t ho base e i z bytes ht hi hz hsize hby hzs av n c xs hs hown ao m cx news hx hl hnil hnews h1 h63 hbytes hbase fun a' c' w' h2 h3 => hK _ _ (h a' c' w' h2 h3)
theorem step_append_any {ops : Array Oper} {o : Oper} {a : Act} {K : Act → World → Prop} {Q : Exit → Act → World → Prop} {E : Prop} (hgd : o.guard = none) (s x : Operand) (t : TypeId)
    (ho : o.op = .call { callee := .builtin .append, args := #[s, x], argTypes := #[t, t] })
    (base : Nat) (e : TypeId) (i : TypeInfo) (z : Value) (bytes : Nat) (ht : P.underlying t = some (.slice e)) (hi : P.info? e = some i) (hz : i.zero = some z)
    (hsize : i.size = 1) (hby : i.bytes = bytes) (hzs : z.cells.size = 1) (av : Option Addr) (n c : Nat) (xs : List Value) (hs : a.eval s = .slice av n c) (hown : w.ownsRow base e 1 (.slice av n c) n xs)
    (ao : Option Addr) (m cx : Nat) (news : List Value) (hx : a.eval x = .slice ao m cx) (hl : news.length = m) (hnil : ao = none → m = 0 ∧ cx = 0) (hnews : ∀ ad, ao = some ad → ∀ j u, news[j]? = some u → w.cell? (ad.add j) = some u)
    (h1 : ∀ u ∈ news, u.oneCell' = true) (h63 : n + m ≤ maxLen) (hbytes : (n + m) * bytes ≤ 140737488355328) (hbase : base ≤ w.heap.size)
    (h : ∀ a' c' w', w'.ownsRow base e 1 (.slice a' (n + m) c') (n + m) (xs ++ news) → w.grownBy w' (Value.slice av n c).ownBlock → K (a.put o.dst (.slice a' (n + m) c')) w') :
    if Region.wanted o (yielded ops a.tmps) = true then Oper.wp P o a w K Q else E := by
  rw [if_pos (by simp [Region.wanted, hgd])]
  exact wp_append_any w s x t ho base e i z bytes ht hi hz hsize hby hzs av n c xs hs hown ao m cx news hx hl hnil hnews h1 h63 hbytes hbase h
end

theorem info_u8 : ∃ i, Tryd.prog.info? 5 = some i ∧ i.zero = some (.int .u8 0) ∧ i.size = 1 ∧ i.bytes = 1 := info_parts (by kernel_rfl)
/-- The same at []byte of this program. -/
theorem wpL_append8 (w : World) {ops : Array Oper} {rest : List Oper} {o : Oper} {a : Act} {Q : Exit → Act → World → Prop} (hgd : o.guard = none) (s x : Operand)
    (ho : o.op = .call { callee := .builtin .append, args := #[s, x], argTypes := #[22, 22] }) (base : Nat)
    (av : Option Addr) (n c : Nat) (xs : List Value) (hs : a.eval s = .slice av n c) (hown : w.ownsRow base 5 1 (.slice av n c) n xs)
    (ao : Option Addr) (m cx : Nat) (news : List Value) (hx : a.eval x = .slice ao m cx) (hl : news.length = m) (hnil : ao = none → m = 0 ∧ cx = 0) (hnews : ∀ ad, ao = some ad → ∀ j u, news[j]? = some u → w.cell? (ad.add j) = some u)
    (h1 : ∀ u ∈ news, u.oneCell' = true) (hmax : n + m ≤ 140737488355328) (hbase : base ≤ w.heap.size)
    (h : ∀ a' c' w', w'.ownsRow base 5 1 (.slice a' (n + m) c') (n + m) (xs ++ news) → w.grownBy w' (Value.slice av n c).ownBlock → wpList Tryd.prog ops Q rest (a.put o.dst (.slice a' (n + m) c')) w') : wpList Tryd.prog ops Q (o :: rest) a w := by
  obtain ⟨i, hi, hz0, hz1, hz2⟩ := info_u8
  exact wpList_append_any w hgd s x 22 ho base 5 i (.int .u8 0) 1 Tryd.underlying22 hi hz0 hz1 hz2 rfl av n c xs hs hown ao m cx news hx hl hnil hnews h1 (by unfold maxLen; omega) (by omega) hbase h
/-- The same, and where the new row lies. -/
theorem wpL_append8_at (w : World) {ops : Array Oper} {rest : List Oper} {o : Oper} {a : Act} {Q : Exit → Act → World → Prop} (hgd : o.guard = none) (s x : Operand)
    (ho : o.op = .call { callee := .builtin .append, args := #[s, x], argTypes := #[22, 22] }) (base : Nat)
    (av : Option Addr) (n c : Nat) (xs : List Value) (hs : a.eval s = .slice av n c) (hown : w.ownsRow base 5 1 (.slice av n c) n xs)
    (ao : Option Addr) (m cx : Nat) (news : List Value) (hx : a.eval x = .slice ao m cx) (hl : news.length = m) (hnil : ao = none → m = 0 ∧ cx = 0) (hnews : ∀ ad, ao = some ad → ∀ j u, news[j]? = some u → w.cell? (ad.add j) = some u)
    (h1 : ∀ u ∈ news, u.oneCell' = true) (hmax : n + m ≤ 140737488355328) (hbase : base ≤ w.heap.size)
    (h : ∀ a' c' w', w'.ownsRow base 5 1 (.slice a' (n + m) c') (n + m) (xs ++ news) → w.grownBy w' (Value.slice av n c).ownBlock →
      Hid ((Value.slice a' (n + m) c').ownBlock = (Value.slice av n c).ownBlock ∨ (Value.slice a' (n + m) c').ownBlock = some w.heap.size) → wpList Tryd.prog ops Q rest (a.put o.dst (.slice a' (n + m) c')) w') : wpList Tryd.prog ops Q (o :: rest) a w := by
  obtain ⟨i, hi, hz0, hz1, hz2⟩ := info_u8
  obtain ⟨a', c', w', hr, h2, h3, h4⟩ := run_append_any_at (P := Tryd.prog) w 22 o.type base 5 i (.int .u8 0) 1 Tryd.underlying22 hi hz0 hz1 hz2 rfl av n c xs hown ao m cx news hl hnil hnews h1 (by unfold maxLen; omega) (by omega) hbase
  refine wpList_plain hgd fun K hK => ?_
  unfold Oper.wp execOp
  simp only [ho, resolve, invoke, builtin, Sem.run_bind, Sem.run_pure, Result.andThen_ok, List.map_toArray, List.map_cons, List.map_nil, hs, hx, hr]
  exact hK _ _ (h a' c' w' h2 h3 (Lib.hid h4))
theorem below_own {B base e n c : Nat} {w0 w w' : World} {a : Option Addr} {xs : List Value} (hb : Below B w0 w) (ho : w.ownsRow base e 1 (.slice a n c) n xs) (hg : w.grownBy w' (Value.slice a n c).ownBlock) (hB : B ≤ base) (hs : B ≤ w.heap.size) : Below B w0 w' :=
  hb.grown hg hs (fun k h => Nat.le_trans hB (ho.lt k h).1)

theorem BytesAt.news {w : World} {B n : Nat} {a : Option Addr} {bs : List UInt8} (h : BytesAt w B a n bs) : ∀ ad, a = some ad → ∀ j u, (bcells bs)[j]? = some u → w.cell? (ad.add j) = some u := by
  intro ad ha j u hu
  have hj : j < bs.length := by have := (List.getElem?_eq_some_iff.1 hu).1; rwa [bcells_length] at this
  obtain ⟨b, off, e, _, hc⟩ := h.2 (by have := h.1; omega)
  rw [ha] at e
  injection e with e
  subst e
  rw [bcells_get bs j hj] at hu
  rw [Addr.add_lit, hc j hj]
  exact hu
theorem BytesAt.drewN {w : World} {B n : Nat} {a : Option Addr} {bs : List UInt8} (h : BytesAt w B a n bs) (k : Nat) : BytesAt (w.drewN k) B a n bs :=
  ⟨h.1, fun hn => by obtain ⟨b, off, e, hlt, hc⟩ := h.2 hn; exact ⟨b, off, e, hlt, fun i hi => by simpa using hc i hi⟩⟩
theorem below_drewN {B : Nat} {w w' : World} (h : Below B w w') (k : Nat) : Below B w (w'.drewN k) := by
  induction k with
  | zero => simpa [World.drewN] using h
  | succ k ih => exact ih.drew
/-- The cells of a block that the walk has just made. -/
theorem news_new (w : World) (cs : Array Value) (t : TypeId) : ∀ ad, (some (⟨w.heap.size, 0, none⟩ : Addr)) = some ad → ∀ j u, cs.toList[j]? = some u → (w.alloc (.cells cs t)).cell? (ad.add j) = some u := by
  intro ad ha j u hu
  injection ha with ha
  subst ha
  exact World.news_of_block (heap_alloc_last w _) j u hu
end Go.Proofs.YtnebgmmfifpgmaaDoor
