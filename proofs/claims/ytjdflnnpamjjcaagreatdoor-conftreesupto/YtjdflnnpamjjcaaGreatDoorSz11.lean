/- Nodes of a trie in memory: a slice of nodes, four cells each. -/
import Derived.Test.YtjdflnnpamjjcaaGreatDoorSz07
import Derived.Test.YtjdflnnpamjjcaaGreatDoorCards
import Derived.Test.YtjdflnnpamjjcaaGreatDoorTie
import Derived.Test.YtjdflnnpamjjcaaGreatDoorCodeTabs
import Derived.Deep.DeepHandedRow
import Derived.Deep.DeepLaidRun
import Derived.Lib.LaidTab
import Derived.MakeChecks
import Derived.Stop.LaidErr
import Derived.Test.YtjdflnnpamjjcaaGreatDoorTriePlain
import Derived.Test.YtjdflnnpamjjcaaGreatDoorRows
import Derived.Test.YtjdflnnpamjjcaaGreatDoorMem
import Derived.Deep.WholeRow
import Derived.Deep.AppendLies
import Derived.Laws.CopyOwn
namespace Go.Proofs.YtjdflnnpamjjcaaGreatDoor
open Go.ChangeShapes Go.WideShapes Go.ChangeAt Go.RowKit

theorem gPow : Tryz.prog.globalNamed "internal/strconv.uint64pow10" = some 3 := by kernel_rfl
theorem gPowType : (Tryz.prog.globals[3]?).map (·.type) = some 161 := by kernel_rfl
theorem cellsPow : Tryz.prog.cellsOf 161 = 20 := by kernel_rfl
theorem cellsU64 : Tryz.prog.cellsOf 121 = 1 := by kernel_rfl
theorem gRange : Tryz.prog.globalNamed "strconv.ErrRange" = some 2 := by kernel_rfl
theorem gRangeType : (Tryz.prog.globals[2]?).map (·.type) = some 105 := by kernel_rfl
theorem gSyntax : Tryz.prog.globalNamed "strconv.ErrSyntax" = some 1 := by kernel_rfl
theorem gSyntaxType : (Tryz.prog.globals[1]?).map (·.type) = some 105 := by kernel_rfl
theorem cellsErr : Tryz.prog.cellsOf 159 = 1 := by kernel_rfl
theorem cellsStr : Tryz.prog.cellsOf 9 = 1 := by kernel_rfl
theorem star_err : "*" ++ "errors.errorString" = "*errors.errorString" := by decide
theorem row_err (u : TypeId) (h : Tryz.prog.typeName? 3 u = some "*errors.errorString") : u = 157 :=
  typeName_ptr_named (nm := "errors.errorString") (by rw [star_err]; kernel_rfl) (by kernel_rfl) (by decide) u (by rw [star_err]; exact h)
theorem pow_of_head {W : World} {r : List (String × DataW Unit)} (h : laidMet Tryz.prog (("internal/strconv.uint64pow10", Rows.laid_internal_strconv_uint64pow10) :: r) W) : PowTab W :=
  Lib.tabIs_of_head (k := .u64) (zs := Lib.pow10Tab) gPow gPowType Tryz.underlying161 Tryz.underlying121 cellsU64 cellsPow h
theorem err_of_head {W : World} {n : String} {g : Nat} {text : List UInt8} {r : List (String × DataW Unit)} (hg : Tryz.prog.globalNamed n = some g) (ht : (Tryz.prog.globals[g]?).map (·.type) = some 105)
    (h : laidMet Tryz.prog ((n, .iface "*errors.errorString" (.ptr (.agg [.lit (.string text)]))) :: r) W) : ∃ t p, W.cell? ⟨g, 0, none⟩ = some (.iface t p) := by
  obtain ⟨a, s, hv, _⟩ := laid_sentinel h hg ht Tryz.underlying105 row_err Tryz.underlying157 Tryz.underlying159 rfl rfl Tryz.underlying9 cellsErr cellsStr
  exact ⟨_, _, World.var?_cell hg hv 0⟩
theorem max_of_shaped {W : World} (h : W.ShapedOpen Tryz.prog) : MaxTab W := Tryz.laysM145.s1_3 W h

/-- The cells of a datum. -/
def flat : Nat → DataW Unit → List Value
  | n + 1, .agg ps => ps.flatMap (flat n)
  | _, .lit (.int k z) => [.int k z]
  | _, .lit (.string s) => [.string ⟨s.toArray⟩]
  | _, _ => []
/-- A block's cells anew. -/
def put (vs : List Value) : Obj → Obj
  | .cells _ t frozen => .cells vs.toArray t frozen
  | o => o
noncomputable def low : Nat := (World.holding Tryz.prog default ⟨#[], #[], []⟩).heap.size
abbrev rangeS : ByteArray := ⟨#[118, 97, 108, 117, 101, 32, 111, 117, 116, 32, 111, 102, 32, 114, 97, 110, 103, 101]⟩
abbrev syntaxS : ByteArray := ⟨#[105, 110, 118, 97, 108, 105, 100, 32, 115, 121, 110, 116, 97, 120]⟩
end Go.Proofs.YtjdflnnpamjjcaaGreatDoor

namespace Go.Proofs.YtjdflnnpamjjcaaGreatDoor
open Go.ChangeShapes Go.WideShapes Go.ChangeAt Go.RowKit

abbrev laid7 : List (String × DataW Unit) := [("math/bits.deBruijn32tab", Rows.laid_math_bits_deBruijn32tab), ("math/bits.deBruijn64tab", Rows.laid_math_bits_deBruijn64tab), ("internal/strconv.uint64pow10", Rows.laid_internal_strconv_uint64pow10), ("unicode/utf8.acceptRanges", Rows.laid_unicode_utf8_acceptRanges), ("strconv.ErrRange", Rows.laid_strconv_ErrRange), ("strconv.ErrSyntax", Rows.laid_strconv_ErrSyntax), ("unicode/utf8.first", Rows.laid_unicode_utf8_first)]
abbrev laid5 : List (String × DataW Unit) := [("math/bits.deBruijn32tab", Rows.laid_math_bits_deBruijn32tab), ("math/bits.deBruijn64tab", Rows.laid_math_bits_deBruijn64tab), ("internal/strconv.uint64pow10", Rows.laid_internal_strconv_uint64pow10), ("unicode/utf8.acceptRanges", Rows.laid_unicode_utf8_acceptRanges), ("unicode/utf8.first", Rows.laid_unicode_utf8_first)]
/-- WHAT THE ROWS' LISTS GIVE. -/
theorem tabs7 {W : World} (h : laidMetH Tryz.prog laid7 W) (hs : W.ShapedOpen Tryz.prog) : AllTabs W := by
  rw [MakeChecks.laidMetH_plain _ _ _ (by kernel_rfl)] at h
  exact ⟨pow_of_head h.tail.tail, ⟨err_of_head gSyntax gSyntaxType h.tail.tail.tail.tail.tail, err_of_head gRange gRangeType h.tail.tail.tail.tail⟩, max_of_shaped hs⟩
theorem tabs5 {W : World} (h : laidMetH Tryz.prog laid5 W) (hs : W.ShapedOpen Tryz.prog) : CodeTabs W := by
  rw [MakeChecks.laidMetH_plain _ _ _ (by kernel_rfl)] at h
  exact ⟨pow_of_head h.tail.tail, max_of_shaped hs⟩

/-- A WORLD FOR THE WITNESS: the settled one, the listed variables holding what their initialisers lay. -/
noncomputable def laidWorld (os : Os) : World :=
  let w0 := World.holding Tryz.prog os ⟨#[.cells #[.string rangeS] 159, .cells #[.string syntaxS] 159], #[], []⟩
  let h1 := w0.heap.modify 6 (put (flat 4 Rows.laid_math_bits_deBruijn32tab))
  let h2 := h1.modify 7 (put (flat 4 Rows.laid_math_bits_deBruijn64tab))
  let h3 := h2.modify 3 (put (flat 4 Rows.laid_internal_strconv_uint64pow10))
  let h4 := h3.modify 5 (put (flat 4 Rows.laid_unicode_utf8_acceptRanges))
  let h5 := h4.modify 2 (put [.iface 157 (.pointer (some ⟨low, 0, none⟩))])
  let h6 := h5.modify 1 (put [.iface 157 (.pointer (some ⟨low + 1, 0, none⟩))])
  let h7 := h6.modify 4 (put (flat 4 Rows.laid_unicode_utf8_first))
  { w0 with heap := h7 }
theorem laid7_met (os : Os) (args : Array Value) : laidMet Tryz.prog laid7 ((laidWorld os).forCall (fun _ _ => 0) ⟨#[], args, []⟩).memory :=
  laidMet_of_run3 300 (by kernel_rfl) (by kernel_rfl) (by kernel_rfl)
theorem laid5_met (os : Os) (args : Array Value) : laidMet Tryz.prog laid5 ((laidWorld os).forCall (fun _ _ => 0) ⟨#[], args, []⟩).memory :=
  laidMet_of_run3 300 (by kernel_rfl) (by kernel_rfl) (by kernel_rfl)
end Go.Proofs.YtjdflnnpamjjcaaGreatDoor

namespace Go.Proofs.YtjdflnnpamjjcaaGreatDoor

/-- A node: a network, its owner, how many nodes there are. -/
structure Tr.Node where
  a : Nat
  b : Int
  o : ByteArray
  s : Int
namespace Tr
/-- Those that have owners. -/
def owned (l : List Node) : List Node := (l.filter fun n => decide (0 < n.o.size)).map fun n => { n with s := 1 }
theorem owned_snoc (l : List Node) (n : Node) : owned (l ++ [n]) = owned l ++ (if 0 < n.o.size then [{ n with s := 1 }] else []) := by
  unfold owned
  rw [List.filter_append, List.map_append]
  congr 1
  by_cases h : 0 < n.o.size
  · rw [if_pos h, List.filter_cons_of_pos (by simpa using h)]; rfl
  · rw [if_neg h, List.filter_cons_of_neg (by simpa using h)]; rfl
theorem owned_le (l : List Node) : (owned l).length ≤ l.length := by
  unfold owned
  rw [List.length_map]
  exact List.length_filter_le _ _
def nw (n : Node) : Nw := (n.a, n.b)
/-- The smallest network that holds all nodes' networks. -/
def topN : List Node → Nw
  | [] => (0, 0)
  | x :: r => top (nw x) ((x :: r).map nw)
def ownerOf (t : Nw) (l : List Node) : ByteArray := l.foldl (fun o n => if nw n = t then n.o else o) ByteArray.empty
def leftOf (t : Nw) (l : List Node) : List Node := l.filter fun n => decide (nw n ≠ t) && decide (bitAt n.a t.2.toNat = 0)
def rightOf (t : Nw) (l : List Node) : List Node := l.filter fun n => decide (nw n ≠ t) && decide (bitAt n.a t.2.toNat ≠ 0)
/-- The trie of some nodes' networks, as deep as f. -/
def grown : Nat → List Node → List Node
  | 0, _ => []
  | _ + 1, [] => []
  | f + 1, x :: r =>
    ⟨(topN (x :: r)).1, (topN (x :: r)).2, ownerOf (topN (x :: r)) (x :: r), (1 + (grown f (leftOf (topN (x :: r)) (x :: r)) ++ grown f (rightOf (topN (x :: r)) (x :: r))).length : Nat)⟩ ::
      (grown f (leftOf (topN (x :: r)) (x :: r)) ++ grown f (rightOf (topN (x :: r)) (x :: r)))
theorem halves_le (t : Nw) : ∀ l : List Node, (leftOf t l).length + (rightOf t l).length ≤ l.length := by
  intro l
  induction l with
  | nil => exact Nat.le_refl _
  | cons x r ih =>
    unfold leftOf rightOf at *
    by_cases h1 : nw x ≠ t
    · by_cases h2 : bitAt x.a t.2.toNat = 0
      · rw [List.filter_cons_of_pos (by simp [h1, h2]), List.filter_cons_of_neg (by simp [h2])]
        simp only [List.length_cons]; omega
      · rw [List.filter_cons_of_neg (by simp [h2]), List.filter_cons_of_pos (by simp [h1, h2])]
        simp only [List.length_cons]; omega
    · rw [List.filter_cons_of_neg (by simp [h1]), List.filter_cons_of_neg (by simp [h1])]
      simp only [List.length_cons]; omega
theorem grown_le : ∀ (f : Nat) (l : List Node), (grown f l).length ≤ f * l.length := by
  intro f
  induction f with
  | zero => intro l; unfold grown; simp
  | succ f ih =>
    intro l
    cases l with
    | nil => unfold grown; simp
    | cons x r =>
      unfold grown
      generalize topN (x :: r) = t
      have h := halves_le t (x :: r)
      have h1 := ih (leftOf t (x :: r))
      have h2 := ih (rightOf t (x :: r))
      rw [List.length_cons, List.length_append]
      have h3 : f * (leftOf t (x :: r)).length + f * (rightOf t (x :: r)).length ≤ f * (x :: r).length := by rw [← Nat.mul_add]; exact Nat.mul_le_mul_left f h
      have h4 : (f + 1) * (x :: r).length = f * (x :: r).length + (x :: r).length := by rw [Nat.add_mul, Nat.one_mul]
      have h5 : 1 ≤ (x :: r).length := by simp
      omega
theorem topN_good {l : List Node} (hl : l ≠ []) (h : ∀ n ∈ l, good (nw n)) : good (topN l) := by
  match l, hl with
  | x :: r, _ =>
    refine top_good _ _ (h x (List.mem_cons_self ..)) (fun y hy => ?_)
    obtain ⟨n, hn, rfl⟩ := List.mem_map.1 hy
    exact h n hn
theorem topN_holds {l : List Node} (h : ∀ n ∈ l, good (nw n)) : ∀ n ∈ l, H (topN l) (nw n) := by
  match l with
  | [] => intro n hn; cases hn
  | x :: r =>
    intro n hn
    refine (top_holds ((x :: r).map nw) (nw x) (h x (List.mem_cons_self ..)) (fun y hy => ?_)).2 _ (List.mem_map_of_mem hn)
    obtain ⟨m, hm, rfl⟩ := List.mem_map.1 hy
    exact h m hm
theorem topN_least {l : List Node} (hl : l ≠ []) {p : Nw} (h : ∀ n ∈ l, H p (nw n)) : H p (topN l) := by
  match l, hl with
  | x :: r, _ =>
    refine top_least _ p _ (h x (List.mem_cons_self ..)) (fun y hy => ?_)
    obtain ⟨m, hm, rfl⟩ := List.mem_map.1 hy
    exact h m hm
theorem bit_two (a n : Nat) : bitAt a n = 0 ∨ bitAt a n = 1 := by unfold bitAt; omega
/-- The halves' own tops go on by a bit. -/
theorem left_top {l : List Node} (h : ∀ n ∈ l, good (nw n)) (hne : leftOf (topN l) l ≠ []) : (topN l).2 + 1 ≤ (topN (leftOf (topN l) l)).2 := by
  have hp : ∀ n ∈ leftOf (topN l) l, H (half (topN l) 0) (nw n) := by
    intro n hn
    unfold leftOf at hn
    rw [List.mem_filter, Bool.and_eq_true, decide_eq_true_eq, decide_eq_true_eq] at hn
    have := half_holds (topN_holds h n hn.1) hn.2.1
    rw [show bitAt (nw n).1 (topN l).2.toNat = 0 from hn.2.2] at this
    exact this
  exact (Nt.holds_iff.1 (topN_least hne hp)).2.1
theorem right_top {l : List Node} (h : ∀ n ∈ l, good (nw n)) (hne : rightOf (topN l) l ≠ []) : (topN l).2 + 1 ≤ (topN (rightOf (topN l) l)).2 := by
  have hp : ∀ n ∈ rightOf (topN l) l, H (half (topN l) 1) (nw n) := by
    intro n hn
    unfold rightOf at hn
    rw [List.mem_filter, Bool.and_eq_true, decide_eq_true_eq, decide_eq_true_eq] at hn
    have := half_holds (topN_holds h n hn.1) hn.2.1
    rw [show bitAt (nw n).1 (topN l).2.toNat = 1 from (bit_two _ _).resolve_left hn.2.2] at this
    exact this
  exact (Nt.holds_iff.1 (topN_least hne hp)).2.1
theorem left_good {l : List Node} {t : Nw} (h : ∀ n ∈ l, good (nw n)) : ∀ n ∈ leftOf t l, good (nw n) := fun n hn => h n (List.mem_filter.1 hn).1
theorem right_good {l : List Node} {t : Nw} (h : ∀ n ∈ l, good (nw n)) : ∀ n ∈ rightOf t l, good (nw n) := fun n hn => h n (List.mem_filter.1 hn).1
/-- Of a node that is not the top itself there is a bit behind the top's. -/
theorem top_lt {l : List Node} (h : ∀ n ∈ l, good (nw n)) {n : Node} (hn : n ∈ l) (hne : nw n ≠ topN l) : 0 ≤ (topN l).2 ∧ (topN l).2 < 32 := by
  obtain ⟨h1, h2, h3⟩ := longer (topN_holds h n hn) hne
  omega
end Tr
end Go.Proofs.YtjdflnnpamjjcaaGreatDoor

namespace Go.Proofs.YtjdflnnpamjjcaaGreatDoor
open Go.RowKit

namespace Tr
def nodeC (n : Node) : List Value := [.int .u32 (n.a : Int), .int .i64 n.b, .string n.o, .int .i64 n.s]
def nodesC (l : List Node) : List Value := l.flatMap nodeC
theorem nodesC_append (l m : List Node) : nodesC (l ++ m) = nodesC l ++ nodesC m := by unfold nodesC; rw [List.flatMap_append]
theorem nodesC_length (l : List Node) : (nodesC l).length = l.length * 4 := by
  unfold nodesC
  induction l with
  | nil => rfl
  | cons x r ih => rw [List.flatMap_cons, List.length_append, ih, List.length_cons]; show 4 + _ = _; omega
theorem nodesC_one (l : List Node) : ∀ v ∈ nodesC l, v.oneCell' = true := by
  intro v hv
  unfold nodesC at hv
  obtain ⟨n, _, hm⟩ := List.mem_flatMap.1 hv
  simp only [nodeC, List.mem_cons, List.not_mem_nil, or_false] at hm
  rcases hm with rfl | rfl | rfl | rfl <;> rfl
theorem nodesC_get : ∀ (l : List Node) (i j : Nat) (h : i < l.length), j < 4 → (nodesC l)[i * 4 + j]? = (nodeC l[i])[j]? := by
  intro l
  induction l with
  | nil => intro i j h _; simp at h
  | cons x r ih =>
    intro i j h hj
    unfold nodesC
    rw [List.flatMap_cons]
    cases i with
    | zero => rw [Nat.zero_mul, Nat.zero_add, List.getElem?_append_left (by show j < 4; exact hj)]; rfl
    | succ i =>
      rw [List.getElem?_append_right (by show 4 ≤ _; omega), show (i + 1) * 4 + j - (nodeC x).length = i * 4 + j by show (i + 1) * 4 + j - 4 = _; omega]
      exact ih i j (by simpa using h) hj
end Tr
/-- The nodes l lie in memory, behind the slice (a, n). -/
def NodesAt (w : World) (B : Nat) (a : Option Addr) (n : Nat) (l : List Tr.Node) : Prop :=
  l.length = n ∧ (0 < n → ∃ b off, a = some ⟨b, off, none⟩ ∧ b < B ∧ ∀ i (h : i < l.length), w.cell? ⟨b, off + i * 4, none⟩ = some (.int .u32 (l[i].a : Int)) ∧ w.cell? ⟨b, off + i * 4 + 1, none⟩ = some (.int .i64 l[i].b) ∧ w.cell? ⟨b, off + i * 4 + 2, none⟩ = some (.string l[i].o) ∧ w.cell? ⟨b, off + i * 4 + 3, none⟩ = some (.int .i64 l[i].s))
theorem NodesAt.below {w w' : World} {B n : Nat} {a : Option Addr} {l : List Tr.Node} (h : NodesAt w B a n l) (hb : Below B w w') : NodesAt w' B a n l :=
  ⟨h.1, fun hn => by
    obtain ⟨b, off, e, hlt, hc⟩ := h.2 hn
    exact ⟨b, off, e, hlt, fun i hi => by
      rw [hb.cell (p := ⟨b, off + i * 4, none⟩) hlt, hb.cell (p := ⟨b, off + i * 4 + 1, none⟩) hlt, hb.cell (p := ⟨b, off + i * 4 + 2, none⟩) hlt, hb.cell (p := ⟨b, off + i * 4 + 3, none⟩) hlt]
      exact hc i hi⟩⟩
theorem info_node : ∃ i, Tryz.prog.info? 53 = some i ∧ i.zero = some (.agg #[.int .u32 0, .int .i64 0, .string ByteArray.empty, .int .i64 0]) ∧ i.size = 4 ∧ i.bytes = 40 := info_parts (by kernel_rfl)
/-- The nodes so far, in a row of the call's own. -/
def OwnN (w : World) (B : Nat) (v : Value) (l : List Tr.Node) : Prop := ∃ a c, v = .slice a l.length c ∧ w.ownsRow B 53 4 (.slice a l.length c) l.length (Tr.nodesC l)
theorem OwnN.nil (w : World) (B : Nat) : OwnN w B (.slice none 0 0) [] := ⟨none, 0, rfl, World.ownsRow_nil _ _ _ _⟩
theorem news_node (w : World) (n : Tr.Node) (t : TypeId) : ∀ j u, (Tr.nodeC n)[j]? = some u → (w.alloc (.cells (Tr.nodeC n).toArray t)).cell? ((⟨w.heap.size, 0, none⟩ : Addr).add j) = some u := by
  intro j u hj
  rw [Addr.add_lit, Nat.zero_add, cell_of_row _ _ j _ _ _ (heap_alloc_last w _), List.getElem?_toArray]
  exact hj
theorem own_to {w : World} {B n : Nat} {v : Value} {xs : List Value} (h : w.ownsRow B 53 4 v n xs) : ∃ a c, v = .slice a n c := by
  rcases h.2 with ⟨rfl, rfl⟩ | ⟨g, cap, cur, rfl, _⟩
  · exact ⟨none, 0, rfl⟩
  · exact ⟨_, cap, rfl⟩
theorem ownsRow_base4 {w : World} {B B' n : Nat} {v : Value} {xs : List Value} (h : w.ownsRow B 53 4 v n xs) (hb : B' ≤ B) : w.ownsRow B' 53 4 v n xs := by
  refine ⟨h.1, ?_⟩
  rcases h.2 with hn | ⟨g, cap, cur, hv, hg, r⟩
  · exact .inl hn
  · exact .inr ⟨g, cap, cur, hv, Nat.le_trans hb hg, r⟩
theorem OwnN.alloc {w : World} {B : Nat} {v : Value} {l : List Tr.Node} (h : OwnN w B v l) (o : Obj) : OwnN (w.alloc o) B v l := by
  obtain ⟨a, c, e, ho⟩ := h
  exact ⟨a, c, e, ho.alloc o⟩
theorem wpL_append_node (w : World) {ops : Array Oper} {rest : List Oper} {o : Oper} {a : Act} {Q : Exit → Act → World → Prop} (hgd : o.guard = none) (s x : Operand)
    (ho : o.op = .call { callee := .builtin .append, args := #[s, x], argTypes := #[33, 33] }) (B : Nat) (v : Value) (l : List Tr.Node) (hs : a.eval s = v) (hO : OwnN w B v l)
    (ad : Addr) (m c : Nat) (news : List Tr.Node) (hx : a.eval x = .slice (some ad) m c) (hm : news.length = m) (hnews : ∀ j u, (Tr.nodesC news)[j]? = some u → w.cell? (ad.add j) = some u) (hmax : l.length + m ≤ 3518437208883) (hB : B ≤ w.heap.size)
    (h : ∀ v' w', OwnN w' B v' (l ++ news) → Below B w w' → wpList Tryz.prog ops Q rest (a.put o.dst v') w') : wpList Tryz.prog ops Q (o :: rest) a w := by
  obtain ⟨i, hi, hz0, hz1, hz2⟩ := info_node
  obtain ⟨av, cv, rfl, hown⟩ := hO
  refine wpList_append_own w hgd s x 33 ho B 53 i _ 4 40 Tryz.underlying33 hi hz0 hz1 hz2 rfl (by decide) _ l.length _ hs hown ad m c (Tr.nodesC news) hx (by rw [Tr.nodesC_length, hm]) hnews (Tr.nodesC_one _) (by unfold maxLen; omega) (by omega) hB ?_
  intro v' w' ho' hg _
  obtain ⟨a', c', rfl⟩ := own_to ho'
  refine h _ w' ⟨a', c', by rw [List.length_append, hm], ?_⟩ ((Below.refl B _).grown hg hB (fun k hk => (hown.lt k hk).1))
  rw [List.length_append, hm, Tr.nodesC_append]
  exact ho'
end Go.Proofs.YtjdflnnpamjjcaaGreatDoor
