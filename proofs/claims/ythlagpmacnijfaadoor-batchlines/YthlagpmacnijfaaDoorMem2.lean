/- Words of our own for memory, more: rows of the call's own that grow by an append of whatever slice; blocks that are known whole; words of 32 bits. -/
import Derived.Test.YthlagpmacnijfaaDoorRows
import Derived.Test.YthlagpmacnijfaaDoorMem
import Derived.Test.YthlagpmacnijfaaDoorMemG
import Derived.Deep.AppendLies
import Derived.Deep.WholeRow
import Derived.Laws.CopyOwn
namespace Go.Proofs.YthlagpmacnijfaaDoor
open Go.RowKit

theorem bcells_one (bs : List UInt8) : ∀ v ∈ bcells bs, v.oneCell' = true := by
  intro v hv; simp only [bcells, List.mem_map] at hv; obtain ⟨c, _, rfl⟩ := hv; rfl

/-- A call has answered some bytes of its own and an error. -/
def SlicePost (err : Nat) (out : List UInt8) (w : World) (e : Ending) (w' : World) : Prop :=
  ∃ a n c, e = .returned (.tuple #[.slice a n c, .int .i64 (err : Int)]) ∧
    w'.ownsRow w.heap.size 5 1 (.slice a n c) out.length (bcells out) ∧ Below w.heap.size w w'
theorem slicePost_none {w wr : World} {err : Nat} (hb : Below w.heap.size w wr) : SlicePost err [] w (.returned (.tuple #[.slice none 0 0, .int .i64 (err : Int)])) wr :=
  ⟨none, 0, 0, rfl, World.ownsRow_nil _ _ _ _, hb⟩
theorem slicePost_own {w wr : World} {err n c : Nat} {a : Option Addr} {out : List UInt8} (ho : wr.ownsRow w.heap.size 5 1 (.slice a n c) n (bcells out)) (hb : Below w.heap.size w wr) :
    SlicePost err out w (.returned (.tuple #[.slice a n c, .int .i64 (err : Int)])) wr :=
  ⟨a, n, c, rfl, by have := ho.1; rw [bcells_length] at this; rw [this, Nat.mul_one]; exact ho, hb⟩
theorem info_u8 : ∃ i, Tryd.prog.info? 5 = some i ∧ i.zero = some (.int .u8 0) ∧ i.size = 1 ∧ i.bytes = 1 := info_parts (by kernel_rfl)
/-- The same at []byte of this program. -/
theorem wpL_append8 (w : World) {ops : Array Oper} {rest : List Oper} {o : Oper} {a : Act} {Q : Exit → Act → World → Prop} (hgd : o.guard = none) (s x : Operand)
    (ho : o.op = .call { callee := .builtin .append, args := #[s, x], argTypes := #[80, 80] }) (base : Nat)
    (av : Option Addr) (n c : Nat) (xs : List Value) (hs : a.eval s = .slice av n c) (hown : w.ownsRow base 5 1 (.slice av n c) n xs)
    (ao : Option Addr) (m cx : Nat) (news : List Value) (hx : a.eval x = .slice ao m cx) (hl : news.length = m) (hnil : ao = none → m = 0 ∧ cx = 0) (hnews : ∀ ad, ao = some ad → ∀ j u, news[j]? = some u → w.cell? (ad.add j) = some u)
    (h1 : ∀ u ∈ news, u.oneCell' = true) (hmax : n + m ≤ 140737488355328) (hbase : base ≤ w.heap.size)
    (h : ∀ a' c' w', w'.ownsRow base 5 1 (.slice a' (n + m) c') (n + m) (xs ++ news) → w.grownBy w' (Value.slice av n c).ownBlock → wpList Tryd.prog ops Q rest (a.put o.dst (.slice a' (n + m) c')) w') : wpList Tryd.prog ops Q (o :: rest) a w := by
  obtain ⟨i, hi, hz0, hz1, hz2⟩ := info_u8
  exact wpList_append_any w hgd s x 80 ho base 5 i (.int .u8 0) 1 Tryd.underlying80 hi hz0 hz1 hz2 rfl av n c xs hs hown ao m cx news hx hl hnil hnews h1 (by unfold maxLen; omega) (by omega) hbase h
/-- The same, and where the new row lies. -/
theorem wpL_append8_at (w : World) {ops : Array Oper} {rest : List Oper} {o : Oper} {a : Act} {Q : Exit → Act → World → Prop} (hgd : o.guard = none) (s x : Operand)
    (ho : o.op = .call { callee := .builtin .append, args := #[s, x], argTypes := #[80, 80] }) (base : Nat)
    (av : Option Addr) (n c : Nat) (xs : List Value) (hs : a.eval s = .slice av n c) (hown : w.ownsRow base 5 1 (.slice av n c) n xs)
    (ao : Option Addr) (m cx : Nat) (news : List Value) (hx : a.eval x = .slice ao m cx) (hl : news.length = m) (hnil : ao = none → m = 0 ∧ cx = 0) (hnews : ∀ ad, ao = some ad → ∀ j u, news[j]? = some u → w.cell? (ad.add j) = some u)
    (h1 : ∀ u ∈ news, u.oneCell' = true) (hmax : n + m ≤ 140737488355328) (hbase : base ≤ w.heap.size)
    (h : ∀ a' c' w', w'.ownsRow base 5 1 (.slice a' (n + m) c') (n + m) (xs ++ news) → w.grownBy w' (Value.slice av n c).ownBlock →
      Hid ((Value.slice a' (n + m) c').ownBlock = (Value.slice av n c).ownBlock ∨ (Value.slice a' (n + m) c').ownBlock = some w.heap.size) → wpList Tryd.prog ops Q rest (a.put o.dst (.slice a' (n + m) c')) w') : wpList Tryd.prog ops Q (o :: rest) a w := by
  obtain ⟨i, hi, hz0, hz1, hz2⟩ := info_u8
  obtain ⟨a', c', w', hr, h2, h3, h4⟩ := run_append_any_at (P := Tryd.prog) w 80 o.type base 5 i (.int .u8 0) 1 Tryd.underlying80 hi hz0 hz1 hz2 rfl av n c xs hown ao m cx news hl hnil hnews h1 (by unfold maxLen; omega) (by omega) hbase
  refine wpList_plain hgd fun K hK => ?_
  unfold Oper.wp execOp
  simp only [ho, resolve, invoke, builtin, Sem.run_bind, Sem.run_pure, Result.andThen_ok, List.map_toArray, List.map_cons, List.map_nil, hs, hx, hr]
  exact hK _ _ (h a' c' w' h2 h3 (Lib.hid h4))
theorem BytesAt.news {w : World} {B n : Nat} {a : Option Addr} {bs : List UInt8} (h : BytesAt w B a n bs) : ∀ ad, a = some ad → ∀ j u, (bcells bs)[j]? = some u → w.cell? (ad.add j) = some u := by
  intro ad ha j u hu
  have hj : j < bs.length := by have := (List.getElem?_eq_some_iff.1 hu).1; rwa [bcells_length] at this
  obtain ⟨b, off, e, _, hc⟩ := h.2 (by have := h.1; omega)
  rw [ha] at e
  injection e with e
  subst e
  rw [bcells_get bs j hj] at hu
  rw [Addr.add_lit, hc j hj]
  exact hu
theorem BytesAt.drewN {w : World} {B n : Nat} {a : Option Addr} {bs : List UInt8} (h : BytesAt w B a n bs) (k : Nat) : BytesAt (w.drewN k) B a n bs :=
  ⟨h.1, fun hn => by obtain ⟨b, off, e, hlt, hc⟩ := h.2 hn; exact ⟨b, off, e, hlt, fun i hi => by simpa using hc i hi⟩⟩
theorem below_drewN {B : Nat} {w w' : World} (h : Below B w w') (k : Nat) : Below B w (w'.drewN k) := by
  induction k with
  | zero => simpa [World.drewN] using h
  | succ k ih => exact ih.drew
/-- The cells of a block that the walk has just made. -/
theorem news_new (w : World) (cs : Array Value) (t : TypeId) : ∀ ad, (some (⟨w.heap.size, 0, none⟩ : Addr)) = some ad → ∀ j u, cs.toList[j]? = some u → (w.alloc (.cells cs t)).cell? (ad.add j) = some u := by
  intro ad ha j u hu
  injection ha with ha
  subst ha
  exact World.news_of_block (heap_alloc_last w _) j u hu
end Go.Proofs.YthlagpmacnijfaaDoor
