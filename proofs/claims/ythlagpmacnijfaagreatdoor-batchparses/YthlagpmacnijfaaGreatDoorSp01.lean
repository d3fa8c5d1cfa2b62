/- A region that draws its order, by an invariant: whatever operation comes up next keeps it. -/
import Derived.Test.YthlagpmacnijfaaGreatDoorBatchPlain
import Derived.Test.YthlagpmacnijfaaGreatDoorRows
import Derived.RowKit
import Derived.Test.YthlagpmacnijfaaGreatDoorMem
import Derived.Test.YthlagpmacnijfaaGreatDoorLinePlain
import Derived.Deep.WholeRow
import Derived.Deep.AppendLies
import Derived.Laws.CopyOwn
import Derived.Test.YthlagpmacnijfaaGreatDoorStructMem
import Derived.Orders
namespace Go.Proofs.YthlagpmacnijfaaGreatDoor
open Go.RowKit

def nameCells : List Value := [.string ⟨#[]⟩, .string ⟨#[112, 114, 105, 118, 97, 116, 101, 95, 107, 101, 121]⟩, .string ⟨#[108, 105, 115, 116, 101, 110, 95, 112, 111, 114, 116]⟩, .string ⟨#[114, 101, 112, 108, 97, 99, 101, 95, 112, 101, 101, 114, 115]⟩, .string ⟨#[112, 117, 98, 108, 105, 99, 95, 107, 101, 121]⟩, .string ⟨#[114, 101, 109, 111, 118, 101]⟩, .string ⟨#[112, 114, 101, 115, 104, 97, 114, 101, 100, 95, 107, 101, 121]⟩, .string ⟨#[101, 110, 100, 112, 111, 105, 110, 116]⟩, .string ⟨#[112, 101, 114, 115, 105, 115, 116, 101, 110, 116, 95, 107, 101, 101, 112, 97, 108, 105, 118, 101, 95, 105, 110, 116, 101, 114, 118, 97, 108]⟩, .string ⟨#[114, 101, 112, 108, 97, 99, 101, 95, 97, 108, 108, 111, 119, 101, 100, 95, 105, 112, 115]⟩, .string ⟨#[97, 108, 108, 111, 119, 101, 100, 95, 105, 112]⟩]
theorem nameCells_at (k : Nat) (h : k ≤ 10) : nameCells[k]? = some (.string (Bt.nameOf k)) := by
  have : k = 0 ∨ k = 1 ∨ k = 2 ∨ k = 3 ∨ k = 4 ∨ k = 5 ∨ k = 6 ∨ k = 7 ∨ k = 8 ∨ k = 9 ∨ k = 10 := by omega
  rcases this with rfl | rfl | rfl | rfl | rfl | rfl | rfl | rfl | rfl | rfl | rfl <;> rfl
end Go.Proofs.YthlagpmacnijfaaGreatDoor

namespace Go.Proofs.YthlagpmacnijfaaGreatDoor
open Go.RowKit

namespace Ln
def lineC (x : L) : List Value := [.string x.k, .string x.v]
def linesC (l : List L) : List Value := l.flatMap lineC
theorem linesC_append (l m : List L) : linesC (l ++ m) = linesC l ++ linesC m := by unfold linesC; rw [List.flatMap_append]
theorem linesC_length (l : List L) : (linesC l).length = l.length * 2 := by
  unfold linesC
  induction l with
  | nil => rfl
  | cons x r ih => rw [List.flatMap_cons, List.length_append, ih, List.length_cons]; show 2 + _ = _; omega
theorem linesC_one (l : List L) : ∀ v ∈ linesC l, v.oneCell' = true := by
  intro v hv
  unfold linesC at hv
  obtain ⟨n, _, hm⟩ := List.mem_flatMap.1 hv
  simp only [lineC, List.mem_cons, List.not_mem_nil, or_false] at hm
  rcases hm with rfl | rfl <;> rfl
theorem linesC_get : ∀ (l : List L) (i j : Nat) (h : i < l.length), j < 2 → (linesC l)[i * 2 + j]? = (lineC l[i])[j]? := by
  intro l
  induction l with
  | nil => intro i j h _; simp at h
  | cons x r ih =>
    intro i j h hj
    unfold linesC
    rw [List.flatMap_cons]
    cases i with
    | zero => rw [Nat.zero_mul, Nat.zero_add, List.getElem?_append_left (by show j < 2; exact hj)]; rfl
    | succ i =>
      rw [List.getElem?_append_right (by show 2 ≤ _; omega), show (i + 1) * 2 + j - (lineC x).length = i * 2 + j by show (i + 1) * 2 + j - 2 = _; omega]
      exact ih i j (by simpa using h) hj
end Ln
def lineV (x : Ln.L) : Value := .agg #[.string x.k, .string x.v]
/-- The lines l lie in memory, behind the slice (a, n). -/
def LinesAt (w : World) (B : Nat) (a : Option Addr) (n : Nat) (l : List Ln.L) : Prop :=
  l.length = n ∧ (0 < n → ∃ b off, a = some ⟨b, off, none⟩ ∧ b < B ∧ ∀ i (h : i < l.length), w.cell? ⟨b, off + i * 2, none⟩ = some (.string l[i].k) ∧ w.cell? ⟨b, off + i * 2 + 1, none⟩ = some (.string l[i].v))
theorem LinesAt.nil (w : World) (B : Nat) (a : Option Addr) : LinesAt w B a 0 [] := ⟨rfl, fun h => absurd h (by decide)⟩
theorem LinesAt.below {w w' : World} {B n : Nat} {a : Option Addr} {l : List Ln.L} (h : LinesAt w B a n l) (hb : Below B w w') : LinesAt w' B a n l :=
  ⟨h.1, fun hn => by
    obtain ⟨b, off, e, hlt, hc⟩ := h.2 hn
    exact ⟨b, off, e, hlt, fun i hi => by
      rw [hb.cell (p := ⟨b, off + i * 2, none⟩) hlt, hb.cell (p := ⟨b, off + i * 2 + 1, none⟩) hlt]
      exact hc i hi⟩⟩
theorem LinesAt.more {w : World} {B B' n : Nat} {a : Option Addr} {l : List Ln.L} (h : LinesAt w B a n l) (hB : B ≤ B') : LinesAt w B' a n l :=
  ⟨h.1, fun hn => by
    obtain ⟨b, off, e, hlt, hc⟩ := h.2 hn
    exact ⟨b, off, e, Nat.lt_of_lt_of_le hlt hB, hc⟩⟩
theorem LinesAt.kept {w w' : World} {n : Nat} {a : Option Addr} {l : List Ln.L} (h : LinesAt w w.heap.size a n l) (hb : Below w.heap.size w w') : LinesAt w' w'.heap.size a n l := (h.below hb).more hb.size
theorem info_line : ∃ i, Tryz.prog.info? 23 = some i ∧ i.zero = some (.agg #[.string ByteArray.empty, .string ByteArray.empty]) ∧ i.size = 2 ∧ i.bytes = 32 := info_parts (by kernel_rfl)
/-- The lines so far, in a row of the call's own. -/
def OwnL (w : World) (B : Nat) (v : Value) (l : List Ln.L) : Prop := ∃ a c, v = .slice a l.length c ∧ w.ownsRow B 23 2 (.slice a l.length c) l.length (Ln.linesC l)
theorem OwnL.nil (w : World) (B : Nat) : OwnL w B (.slice none 0 0) [] := ⟨none, 0, rfl, World.ownsRow_nil _ _ _ _⟩
theorem news_line (w : World) (n : Ln.L) (t : TypeId) : ∀ j u, (Ln.lineC n)[j]? = some u → (w.alloc (.cells (Ln.lineC n).toArray t)).cell? ((⟨w.heap.size, 0, none⟩ : Addr).add j) = some u := by
  intro j u hj
  rw [Addr.add_lit, Nat.zero_add, cell_of_row _ _ j _ _ _ (heap_alloc_last w _), List.getElem?_toArray]
  exact hj
theorem own_toL {w : World} {B n : Nat} {v : Value} {xs : List Value} (h : w.ownsRow B 23 2 v n xs) : ∃ a c, v = .slice a n c := by
  rcases h.2 with ⟨rfl, rfl⟩ | ⟨g, cap, cur, rfl, _⟩
  · exact ⟨none, 0, rfl⟩
  · exact ⟨_, cap, rfl⟩
theorem OwnL.alloc {w : World} {B : Nat} {v : Value} {l : List Ln.L} (h : OwnL w B v l) (o : Obj) : OwnL (w.alloc o) B v l := by
  obtain ⟨a, c, e, ho⟩ := h
  exact ⟨a, c, e, ho.alloc o⟩
theorem wpL_append_line (w : World) {ops : Array Oper} {rest : List Oper} {o : Oper} {a : Act} {Q : Exit → Act → World → Prop} (hgd : o.guard = none) (s x : Operand)
    (ho : o.op = .call { callee := .builtin .append, args := #[s, x], argTypes := #[52, 52] }) (B : Nat) (v : Value) (l : List Ln.L) (hs : a.eval s = v) (hO : OwnL w B v l)
    (ad : Addr) (m c : Nat) (news : List Ln.L) (hx : a.eval x = .slice (some ad) m c) (hm : news.length = m) (hnews : ∀ j u, (Ln.linesC news)[j]? = some u → w.cell? (ad.add j) = some u) (hmax : l.length + m ≤ 3518437208883) (hB : B ≤ w.heap.size)
    (h : ∀ v' w', OwnL w' B v' (l ++ news) → Below B w w' → wpList Tryz.prog ops Q rest (a.put o.dst v') w') : wpList Tryz.prog ops Q (o :: rest) a w := by
  obtain ⟨i, hi, hz0, hz1, hz2⟩ := info_line
  obtain ⟨av, cv, rfl, hown⟩ := hO
  refine wpList_append_own w hgd s x 52 ho B 23 i _ 2 32 Tryz.underlying52 hi hz0 hz1 hz2 rfl (by decide) _ l.length _ hs hown ad m c (Ln.linesC news) hx (by rw [Ln.linesC_length, hm]) hnews (Ln.linesC_one _) (by unfold maxLen; omega) (by omega) hB ?_
  intro v' w' ho' hg _
  obtain ⟨a', c', rfl⟩ := own_toL ho'
  refine h _ w' ⟨a', c', by rw [List.length_append, hm], ?_⟩ ((Below.refl B _).grown hg hB (fun k hk => (hown.lt k hk).1))
  rw [List.length_append, hm, Ln.linesC_append]
  exact ho'
theorem lines_of_row {w : World} {g : Nat} {l : List Ln.L} {t : TypeId} (h : w.heap[g]? = some (.cells (Ln.linesC l).toArray t (0, 0))) : LinesAt w w.heap.size (some ⟨g, 0, none⟩) l.length l :=
  ⟨rfl, fun _ => ⟨g, 0, rfl, (Array.getElem?_eq_some_iff.1 h).1, fun i hi => by
    have h0 := Ln.linesC_get l i 0 hi (by decide)
    have h1 := Ln.linesC_get l i 1 hi (by decide)
    rw [cell_of_row _ _ _ _ _ _ h, cell_of_row _ _ _ _ _ _ h, List.getElem?_toArray, List.getElem?_toArray, Nat.zero_add]
    exact ⟨h0, h1⟩⟩⟩
theorem OwnL.below {w w' : World} {B : Nat} {v : Value} {l : List Ln.L} (h : OwnL w B v l) (hb : Below w.heap.size w w') : OwnL w' B v l := by
  obtain ⟨a, c, e, ho⟩ := h
  exact ⟨a, c, e, ho.kept (row := none) ⟨hb.os, hb.tape, hb.output, hb.size, fun j hj _ => hb.block j hj⟩ (by cases hv : (Value.slice a l.length c).ownBlock <;> simp)⟩
theorem OwnL.at {w : World} {B : Nat} {v : Value} {l : List Ln.L} (h : OwnL w B v l) : ∃ a c, v = .slice a l.length c ∧ LinesAt w w.heap.size a l.length l := by
  obtain ⟨a, c, rfl, ho⟩ := h
  refine ⟨a, c, rfl, rfl, fun hn => ?_⟩
  rcases ho.2 with ⟨_, hz⟩ | ⟨g, cap, cur, hv, hb, hg, hk, hm, hs, ht⟩
  · omega
  · injection hv with h1 _ _
    subst h1
    have hlt : g < w.heap.size := by
      by_cases hc : g < w.heap.size
      · exact hc
      · rw [Array.getElem?_eq_none (by omega)] at hg; cases hg
    refine ⟨g, 0, rfl, hlt, fun i hi => ?_⟩
    have key : ∀ j, j < 2 → w.cell? ⟨g, 0 + i * 2 + j, none⟩ = (Ln.lineC l[i])[j]? := by
      intro j hj
      rw [cell_of_row _ _ _ _ _ _ hg, Nat.zero_add]
      have hx : i * 2 + j < l.length * 2 := by omega
      have e1 : cur[i * 2 + j]? = (cur.toList.take (l.length * 2))[i * 2 + j]? := by rw [List.getElem?_take_of_lt hx, Array.getElem?_toList]
      rw [e1, ht]
      exact Ln.linesC_get l i j hi hj
    exact ⟨key 0 (by decide), key 1 (by decide)⟩
end Go.Proofs.YthlagpmacnijfaaGreatDoor

namespace Go.Proofs.YthlagpmacnijfaaGreatDoor
open Go.RowKit

theorem load_line {w : World} {g : Nat} {xs : List Value} (R : Blk w g 23 xs) (h : xs.length = 2) : (loadVar 23 ⟨g, 0, none⟩).run Tryz.prog w = .ok (.agg xs.toArray) w :=
  run_loadVar_row (P := Tryz.prog) w g 23 23 xs.toArray (0, 0) _ R Tryz.underlying23 rfl (by rw [show (Tryz.prog.info? 23).map (·.size) = some 2 by kernel_rfl]; simp [h])
theorem Blk.set2 {w : World} {g : Nat} {t : TypeId} {x0 x1 : Value} (h : Blk w g t [x0, x1]) (y0 y1 : Value) : Blk ((w.setCell ⟨g, 0, none⟩ y0).setCell ⟨g, 1, none⟩ y1) g t [y0, y1] := by
  have h2 : 2 ≤ maxLen := by decide
  exact (h.set h2 0 y0).set h2 1 y1
end Go.Proofs.YthlagpmacnijfaaGreatDoor

namespace Go.Proofs.YthlagpmacnijfaaGreatDoor

section
variable {P : Program} {md : Region.Mode} {ops : Array Oper} {Q : Exit → Act → World → Prop}
theorem ready_none {listed : Array Bool} (hs : listed.size = ops.size) (h : listed.toList.count false = 0) : Region.ready md ops listed = [] := by
  apply List.eq_nil_iff_forall_not_mem.2
  intro j hj
  obtain ⟨h0, o, ho, _⟩ := mem_ready.1 hj
  have hlt : j < listed.size := by rw [hs]; exact (Array.getElem?_eq_some_iff.1 ho).1
  have hf : listed[j] = false := by simpa [hlt] using h0
  have hm : false ∈ listed.toList := by rw [← hf]; simp
  have := List.count_pos_iff.2 hm
  omega
theorem wpAny_inv (I : Array Bool → Act → World → Prop) (hsz : ∀ listed a w, I listed a w → listed.size = ops.size)
    (hstep : ∀ listed a w, I listed a w → ∀ i ∈ Region.ready md ops listed, wpOp P ops Q i (fun a' w' => I (listed.setIfInBounds i true) a' w') a w)
    (hdone : ∀ listed a w, I listed a w → Region.ready md ops listed = [] → Q .normal a w) :
    ∀ (fuel : Nat) (listed : Array Bool) (a : Act) (w : World), I listed a w → listed.toList.count false ≤ fuel → wpAny P md ops Q fuel listed a w := by
  intro fuel
  induction fuel with
  | zero =>
    intro listed a w hI hc
    have hr := ready_none (md := md) (ops := ops) (hsz _ _ _ hI) (by omega)
    exact ⟨hr, hdone _ _ _ hI hr⟩
  | succ fuel ih =>
    intro listed a w hI hc
    refine ⟨hdone _ _ _ hI, fun i hi => wpOp_mono (fun a' w' hI' => ih _ _ _ hI' ?_) (hstep _ _ _ hI i hi)⟩
    obtain ⟨h0, o, ho, _⟩ := mem_ready.1 hi
    have hlt : i < listed.size := by rw [hsz _ _ _ hI]; exact (Array.getElem?_eq_some_iff.1 ho).1
    have hf : listed[i] = false := by simpa [hlt] using h0
    have hl : i < listed.toList.length := by simpa using hlt
    have hf' : listed.toList[i] = false := by simpa using hf
    have hm : false ∈ listed.toList := by rw [← hf]; simp
    have hp := List.count_pos_iff.2 hm
    have hcs := List.count_set (a := true) (b := false) (l := listed.toList) (i := i) (h := hl)
    rw [hf'] at hcs
    rw [Array.toList_setIfInBounds, hcs]
    simp only [beq_self_eq_true, if_true, show (true == false) = false from rfl, Bool.false_eq_true, if_false]
    omega
theorem all_listed (hlow : ∀ (i : Nat) (o : Oper), ops[i]? = some o → ∀ e ∈ o.after, e.on < i) {listed : Array Bool} (hs : listed.size = ops.size) (hr : Region.ready md ops listed = []) : listed.toList.count false = 0 := by
  have hall : ∀ j (h : j < listed.size), listed[j] = true := by
    intro j
    induction j using Nat.strongRecOn with
    | _ j ih =>
      intro h
      cases hj : listed[j]
      · exfalso
        have ho : ops[j]? = some ops[j] := Array.getElem?_eq_getElem (by omega)
        have : j ∈ Region.ready md ops listed := mem_ready.2 ⟨by simp [h, hj], ops[j], ho, fun e he _ => by
          have hl := hlow j _ ho e he
          have hlt : e.on < listed.size := by omega
          have := ih e.on hl hlt
          simp [hlt, this]⟩
        rw [hr] at this
        cases this
      · rfl
  apply List.count_eq_zero.2
  intro hm
  obtain ⟨j, hj, he⟩ := List.mem_iff_getElem.1 hm
  have := hall j (by simpa using hj)
  simp at he
  rw [he] at this
  cases this
/-- A region by an invariant. -/
theorem wp_region_inv (I : Array Bool → Act → World → Prop) {id : Nat} {a : Act} {w : World} (hm : P.follows .mixedOrders = true) (hsz : ∀ listed a w, I listed a w → listed.size = ops.size)
    (hI : I (Array.replicate ops.size false) a { w with drawn := w.drawn + 1 })
    (hstep : ∀ listed a w, I listed a w → ∀ (i : Nat) (o : Oper), ops[i]? = some o → listed.getD i true = false → (∀ e ∈ o.after, Region.binds .any e = true → listed.getD e.on false = true) → wpOp P ops Q i (fun a' w' => I (listed.setIfInBounds i true) a' w') a w)
    (hdone : ∀ listed a w, I listed a w → listed.toList.count false = 0 → Q .normal a w) (hlow : ∀ (i : Nat) (o : Oper), ops[i]? = some o → ∀ e ∈ o.after, e.on < i) :
    (Code.region id ops true).wp P Q a w := by
  refine wp_region_any hm (wpAny_inv I hsz (fun listed a w h i hi => ?_) (fun listed a w h hr => hdone listed a w h (all_listed hlow (hsz _ _ _ h) hr)) _ _ _ _ hI (by simp))
  obtain ⟨h0, o, ho, hall⟩ := mem_ready.1 hi
  exact hstep listed a w h i o ho h0 hall
theorem wpOp_plain {i : Nat} {o : Oper} {K : Act → World → Prop} {a : Act} {w : World} (hi : ops[i]? = some o) (hg : o.guard = none) (h : o.wp P a w K Q) : wpOp P ops Q i K a w := by
  unfold wpOp
  simp only [hi]
  rw [if_pos (by simp [Region.wanted, hg])]
  exact .inl h
end
end Go.Proofs.YthlagpmacnijfaaGreatDoor
