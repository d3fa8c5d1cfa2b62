/- the owner that Find gives for an address is that of the longest of the networks (put in one after the other) that have the address, and there is one just where a network has it.
   Conditions: none (every input that the row reads). -/
import Derived.Shelf.Strings.Repeat
import Derived.Test.YtldfamdjdkaloaaProg
import Derived.Test.YtldfamdjdkaloaaRows
import Derived.Test.YtldfamdjdkaloaaMem
import Derived.Test.YtldfamdjdkaloaaHexPlain
import Derived.Test.YtldfamdjdkaloaaKeepPick
import Derived.Test.YtldfamdjdkaloaaTrieKeep1
import Derived.Test.YtldfamdjdkaloaaFrameRaws
import Derived.Test.YtldfamdjdkaloaaKeepNet
import Derived.Test.YtldfamdjdkaloaaNetMem
import Derived.Test.YtldfamdjdkaloaaTriePlain
import Derived.Test.YtldfamdjdkaloaaFrameG
import Derived.Maps.Own
import Derived.DeepKeys4
import Derived.Test.YtldfamdjdkaloaaNodeMem4
import Derived.Laws.CopyRow
import Derived.Lib.AppendZerosOnto
import Derived.Lib.Overlaps
import Derived.Test.YtldfamdjdkaloaaNodeEq
import Derived.StillTailTactics
import Derived.Lib.AppendZeros
import Derived.Test.YtldfamdjdkaloaaTrieRef3
import Derived.Test.YtldfamdjdkaloaaTrieCode7
import Derived.Test.YtldfamdjdkaloaaNetRef3
import Derived.Test.YtldfamdjdkaloaaTrieCode9
import Derived.Test.YtldfamdjdkaloaaTriePut1
import Derived.Deep.DeepCutAuto
import Derived.Deep.RegionHeld3
import Derived.BigQuiet
import Derived.Test.YtldfamdjdkaloaaTrieGet
import Derived.Maps.RangeWalk
import Derived.Orders
import Derived.Deep.WholeRow
import Derived.Test.YtldfamdjdkaloaaMemG
import Derived.BigRegion
import Derived.Laws.ResultCell
import Derived.Laws.Rows
import Derived.Test.YtldfamdjdkaloaaRawVal
import Derived.Deep.AppendLies
import Derived.Laws.CopyOwn
import Derived.Test.YtldfamdjdkaloaaNetCodeHas
import Derived.Lib.SmallJoins
namespace Go.Proofs
open Go.Shelf
def Try.lays105_ren : Go.Shelf.Ren := ⟨fun | 105 => 57 | 212 => 70 | 99 => 71 | 165 => 72 | 166 => 73 | 170 => 74 | 169 => 75 | 263 => 86 | 264 => 87 | 206 => 88 | 240 => 89 | 241 => 90 | 276 => 96 | 277 => 97 | n => n, fun | 9 => 9 | 3 => 3 | 4 => 4 | 20 => 20 | 0 => 0 | 46 => 82 | 109 => 84 | 5 => 5 | 72 => 90 | 76 => 94 | 51 => 26 | 146 => 104 | 53 => 106 | 148 => 107 | 70 => 87 | 37 => 88 | 75 => 93 | 127 => 109 | 164 => 114 | 80 => 97 | n => n, fun | n => n⟩
theorem Try.lays105 : Go.Proofs.Lays.n105 Try.prog Try.lays105_ren := {
  mixed := by kernel_rfl
  f99 := Try.func71.trans (congrArg some (by kernel_rfl))
  f105 := Try.func57.trans (congrArg some (by kernel_rfl))
  f165 := Try.func72.trans (congrArg some (by kernel_rfl))
  f166 := Try.func73.trans (congrArg some (by kernel_rfl))
  f169 := Try.func75.trans (congrArg some (by kernel_rfl))
  f170 := Try.func74.trans (congrArg some (by kernel_rfl))
  f206 := Try.func88.trans (congrArg some (by kernel_rfl))
  f212 := Try.func70.trans (congrArg some (by kernel_rfl))
  f240 := Try.func89.trans (congrArg some (by kernel_rfl))
  f241 := Try.func90.trans (congrArg some (by kernel_rfl))
  f263 := Try.func86.trans (congrArg some (by kernel_rfl))
  f264 := Try.func87.trans (congrArg some (by kernel_rfl))
  f276 := Try.func96.trans (congrArg some (by kernel_rfl))
  f277 := Try.func97.trans (congrArg some (by kernel_rfl))
  t0 := Try.underlying0
  a0 := Try.isAgg0
  z0 := Try.sizeOf0
  v0 := Try.zeroValue0
  t3 := Try.underlying3
  a3 := Try.isAgg3
  z3 := Try.sizeOf3
  v3 := Try.zeroValue3
  t4 := Try.underlying4
  a4 := Try.isAgg4
  z4 := Try.sizeOf4
  v4 := Try.zeroValue4
  t5 := Try.underlying5
  a5 := Try.isAgg5
  z5 := Try.sizeOf5
  v5 := Try.zeroValue5
  t9 := Try.underlying9
  a9 := Try.isAgg9
  z9 := Try.sizeOf9
  v9 := Try.zeroValue9
  t20 := Try.underlying20
  a20 := Try.isAgg20
  z20 := Try.sizeOf20
  v20 := Try.zeroValue20
  t37 := Try.underlying88
  a37 := Try.isAgg88
  z37 := Try.sizeOf88
  v37 := Try.zeroValue88
  t46 := Try.underlying82
  a46 := Try.isAgg82
  z46 := Try.sizeOf82
  v46 := Try.zeroValue82
  t51 := Try.underlying26
  a51 := Try.isAgg26
  z51 := Try.sizeOf26
  v51 := Try.zeroValue26
  t53 := Try.underlying106
  a53 := Try.isAgg106
  z53 := Try.sizeOf106
  v53 := Try.zeroValue106
  t70 := Try.underlying87
  a70 := Try.isAgg87
  z70 := Try.sizeOf87
  v70 := Try.zeroValue87
  t72 := Try.underlying90
  a72 := Try.isAgg90
  z72 := Try.sizeOf90
  v72 := Try.zeroValue90
  t75 := Try.underlying93
  a75 := Try.isAgg93
  z75 := Try.sizeOf93
  v75 := Try.zeroValue93
  t76 := Try.underlying94
  a76 := Try.isAgg94
  z76 := Try.sizeOf94
  v76 := Try.zeroValue94
  t109 := Try.underlying84
  a109 := Try.isAgg84
  z109 := Try.sizeOf84
  v109 := Try.zeroValue84
  t127 := Try.underlying109
  a127 := Try.isAgg109
  z127 := Try.sizeOf109
  v127 := Try.zeroValue109
  t146 := Try.underlying104
  a146 := Try.isAgg104
  z146 := Try.sizeOf104
  v146 := Try.zeroValue104
  t148 := Try.underlying107
  a148 := Try.isAgg107
  z148 := Try.sizeOf107
  v148 := Try.zeroValue107
  t164 := Try.underlying114
  a164 := Try.isAgg114
  z164 := Try.sizeOf114
  v164 := Try.zeroValue114 }
theorem Try.Builder_Extra_105 : Builder.Extra Try.prog Try.lays105_ren := {
  sizeBuilder := by kernel_rfl
  liesBuilder := by kernel_rfl
  t5 := Try.underlying5
  a5 := Try.isAgg5
  z5 := Try.sizeOf5
  v5 := Try.zeroValue5
  infoByte := by kernel_rfl
  cellsByte := by kernel_rfl
  sizeByte := by kernel_rfl
  neB5 := by decide }
open Go.RowKit Go.Lib in
theorem Try.strings_Repeat (s : ByteArray) (c : Nat) (w : World) (hc : c ≤ 9223372036854775807) (hlen : s.size * c ≤ 140737488355328) :
    Calls Try.prog 57 #[.string s, .int .i64 c] w fun e w' => e = .returned (.string ⟨(Lib.repeatL s.data.toList c).toArray⟩) ∧ Below w.heap.size w w' := Any.strings_Repeat Try.lays105 Try.Builder_Extra_105 s c w hc hlen
end Go.Proofs

namespace Go.Proofs.Ytldfamdjdkaloaa
open Go.RowKit

/-- The keys that the properties use. -/
def keyOf (p : Nat) : ByteArray := strOf (Lib.repeatL [49, UInt8.ofNat (50 + p)] 32)
theorem keyOf_good (p : Nat) (h : p < 8) : (keyOf p).size = 64 ∧ Hx.checkErr (keyOf p).data.toList = 0 := by
  have : p = 0 ∨ p = 1 ∨ p = 2 ∨ p = 3 ∨ p = 4 ∨ p = 5 ∨ p = 6 ∨ p = 7 := by omega
  rcases this with rfl | rfl | rfl | rfl | rfl | rfl | rfl | rfl <;> decide +kernel

set_option maxHeartbeats 400000 in
theorem keep_Key (n : Int) (w : World) (h0 : -9223372036854775808 ≤ n) (h1 : n ≤ 9223372036854775807) :
    Calls Try.prog 33 #[.int .i64 n] w fun e w' => e = .returned (.string (keyOf (pick n 8))) ∧ Below w.heap.size w w' := by
  have hp := pick_lt n 8 (by decide)
  have hP := fun W => keep_picked n 8 W h0 h1 (by decide) (by decide)
  generalize pick n 8 = p at *
  have : p = 0 ∨ p = 1 ∨ p = 2 ∨ p = 3 ∨ p = 4 ∨ p = 5 ∨ p = 6 ∨ p = 7 := by omega
  rcases this with rfl | rfl | rfl | rfl | rfl | rfl | rfl | rfl <;>
  · go_enter Try.func33, Try.ntmps33
    go_wp2_with (go_at_call 54; refine (hP _).mono ?_; rintro e w' ⟨rfl, rfl⟩)
    refine (Try.strings_Repeat _ 32 _ (by decide) (by decide +kernel)).mono ?_
    rintro e w1 ⟨rfl, hb1⟩
    go_wp2
    go_ret
    exact ⟨congrArg (fun x => Ending.returned (.string x)) (by decide +kernel), hb1⟩
end Go.Proofs.Ytldfamdjdkaloaa

namespace Go.Proofs.Ytldfamdjdkaloaa
open Go.RowKit

namespace Tr
def rawN (r : RawD) : Nw := (Nt.rawA r.k r.a r.b, (Nt.rawB r.k r.a r.b : Int))
def rawO (r : RawD) : ByteArray := keyOf (pick r.b 8)
/-- The trie of the first k raw things, put in one after the other. -/
noncomputable def tree (l : List RawD) : Nat → List Node
  | 0 => []
  | k + 1 => putL (rawN (l.getD k default)) (rawO (l.getD k default)) (tree l k)
theorem rawN_good (r : RawD) : good (rawN r) := ⟨(raw_good r.k r.a r.b).1, (raw_good r.k r.a r.b).2.2⟩
theorem rawO_size (r : RawD) : (rawO r).size = 64 := (keyOf_good _ (pick_lt r.b 8 (by decide))).1
theorem trie_nil : trie [] = [] := by simp [trie, grown]
theorem fault_nil : fault [] = 0 := by
  have h := (trie_fault (l := []) (by simp) List.Pairwise.nil (fun n hn => by cases hn)).1
  rwa [trie_nil] at h
theorem fit_nil : fit [] := fun _ h => by cases h
theorem put_len {x : Nw} {o : ByteArray} {l : List Node} (hf : fit l) (hl : fault l = 0) (hx : good x) (ho : 0 < o.size) : (putL x o l).length ≤ 2 * (owned (putL x o l)).length ∧ (owned (putL x o l)).length = (others x l).length + 1 := by
  obtain ⟨_, he, _, hp, _⟩ := put_fits hf hl hx ho
  obtain ⟨_, hg, hso, _, _⟩ := fault_facts hf hl
  obtain ⟨og, _, _, _, _⟩ := others_facts (x := x) hg hso
  have h1 := grown_two 33 (others x l ++ [newN x o]) (new_good hx og)
  have h2 := hp.length_eq
  rw [List.length_append, List.length_singleton] at h2
  refine ⟨?_, h2⟩
  rw [h2, he]
  rw [List.length_append, List.length_singleton] at h1
  exact h1
theorem tree_inv (l : List RawD) : ∀ k, fault (tree l k) = 0 ∧ fit (tree l k) ∧ (owned (tree l k)).length ≤ k ∧ (tree l k).length ≤ 2 * (owned (tree l k)).length
  | 0 => ⟨fault_nil, fit_nil, Nat.le_refl _, Nat.zero_le _⟩
  | k + 1 => by
    obtain ⟨h1, h2, h3, _⟩ := tree_inv l k
    have ho : 0 < (rawO (l.getD k default)).size := by rw [rawO_size]; decide
    obtain ⟨_, _, h4, _, h5⟩ := put_fits h2 h1 (rawN_good (l.getD k default)) ho
    obtain ⟨h6, h7⟩ := put_len h2 h1 (rawN_good (l.getD k default)) ho
    refine ⟨h4, h5, ?_, h6⟩
    show (owned (putL _ _ _)).length ≤ _
    rw [h7]
    have : (others (rawN (l.getD k default)) (tree l k)).length ≤ (owned (tree l k)).length := List.length_filter_le _ _
    omega
end Tr

end Go.Proofs.Ytldfamdjdkaloaa

namespace Go.Proofs.Ytldfamdjdkaloaa
open Go.RowKit

/-- A network as a map's key. -/
def netLit (x : Tr.Nw) : Lit := .string (keyBytes [.int .u32 (x.1 : Int), .int .i64 x.2])
set_option maxRecDepth 20000 in
theorem net_key (x : Tr.Nw) (h : Tr.good x) : Go.keyOf Try.prog 28 (netV x.1 x.2) = some (netLit x) := by
  obtain ⟨a, b⟩ := x
  obtain ⟨b0, b1, _⟩ := Nt.err_zero h.2
  have ha := h.1
  change a < 4294967296 at ha
  change 0 ≤ b at b0
  change b ≤ 32 at b1
  have w1 : (Lit.int .u32 (a : Int)).wf = true := by
    show (decide (IntKind.u32.min ≤ (a : Int)) && decide ((a : Int) ≤ IntKind.u32.max)) = true
    rw [show IntKind.u32.min = 0 from rfl, show IntKind.u32.max = 4294967295 from rfl]
    simp; omega
  have w2 : (Lit.int .i64 b).wf = true := by
    show (decide (IntKind.i64.min ≤ b) && decide (b ≤ IntKind.i64.max)) = true
    rw [show IntKind.i64.min = -9223372036854775808 from rfl, show IntKind.i64.max = 9223372036854775807 from rfl]
    simp; omega
  unfold Go.keyOf
  rw [Try.underlying28]
  have hk : Try.prog.keyType 28 = true := by kernel_rfl
  have hf : (Value.agg #[.int .u32 (a : Int), .int .i64 b]).formed Try.prog 28 = true := by kernel_rfl
  have hc : Try.prog.cellsOf 28 = 2 := by kernel_rfl
  have hc1 : Try.prog.cellsOf 26 = 1 := by kernel_rfl
  have hc2 : Try.prog.cellsOf 3 = 1 := by kernel_rfl
  have hl : Try.prog.keyLits (Try.prog.types.size + 1) 28 [.int .u32 (a : Int), .int .i64 b] = some [.int .u32 (a : Int), .int .i64 b] := by
    have hpos' : 0 < Try.prog.types.size := of_decide_eq_true (by kernel_rfl)
    obtain ⟨m, hm⟩ : ∃ m, Try.prog.types.size = m + 1 := ⟨Try.prog.types.size - 1, by omega⟩
    rw [hm]
    simp [Program.keyLits, Try.underlying28, Try.underlying26, Try.underlying3, hc, hc1, hc2, w1, w2]
  simp only [netV, Value.cells]
  refine (if_pos (by rw [hk, Bool.true_and]; exact hf)).trans ?_
  rw [hl]
  rfl
theorem net_law : Go.Maps.Keyed Try.prog 28 := Go.Maps.Keyed.of_law (deep_law_laid (by kernel_rfl) (m := 2) (by omega) (of_decide_eq_true (by kernel_rfl)) (by kernel_rfl) (by kernel_rfl))
end Go.Proofs.Ytldfamdjdkaloaa

namespace Go.Proofs.Ytldfamdjdkaloaa
open Go.RowKit

theorem run_copy_nodes (w : World) (g o dLen dCap : Nat) (a : Addr) (sLen sCap : Nat) (cur cs : List Value) (hg : w.heap[g]? = some (.cells cur.toArray 56 (0, 0))) (hn : cs.length = Nat.min sLen dLen * 4)
    (hsrc : ∀ j v, cs[j]? = some v → w.cell? (a.add j) = some v) (hfit : o + cs.length ≤ cur.length) (h1 : ∀ v ∈ cs, v.oneCell' = true) :
    ∃ W, (∀ ty, (Builtin.copy_ #[22, 22] ty #[.slice (some ⟨g, o, none⟩) dLen dCap, .slice (some a) sLen sCap]).run Try.prog w = .ok (goInt (Nat.min sLen dLen)) W) ∧
      W.heap[g]? = some (.cells (cur.take o ++ cs ++ cur.drop (o + cs.length)).toArray 56 (0, 0)) ∧ w.grownBy W (some g) := by
  obtain ⟨i, hi, _, hz1, _⟩ := info_node
  have hl := run_loadCells_list (P := Try.prog) w a cs hsrc
  have hst := run_storeCells_at Try.prog g o 56 cs 0 cur.toArray w hg (by simpa using hfit) h1
  refine ⟨w.setRow g (cur.take o ++ cs ++ cur.drop (o + cs.length)).toArray, fun ty => ?_, ?_, ?_⟩
  · simp [Builtin.copy_, run_underlying Try.underlying22, Builtin.lenOf, Builtin.firstCells, sizeOf, typeInfo, hi, hz1, ← hn, hl, hst]
  · simpa using setRow_heap w g _ _ 56 _ hg
  · refine ⟨rfl, rfl, rfl, by simp [World.setRow], fun k hk hne => ?_⟩
    have hkg : g ≠ k := fun e => hne (by rw [e])
    simp [World.setRow, Array.getElem?_modify, hkg]
/-- A row of nodes: its block's cells, the nodes ahead, the room behind. -/
theorem OwnN.block {w : World} {B : Nat} {v : Value} {l : List Tr.Node} (h : OwnN w B v l) (hl : l ≠ []) : ∃ g c X, v = .slice (some ⟨g, 0, none⟩) l.length c ∧ l.length ≤ c ∧ c ≤ maxLen ∧ B ≤ g ∧ g < w.heap.size ∧ w.heap[g]? = some (.cells (Tr.nodesC l ++ X).toArray 56 (0, 0)) ∧ X.length = (c - l.length) * 4 := by
  obtain ⟨g, c, rfl, hc, hB, hlt, ho⟩ := h.row hl
  rcases ho.2 with ⟨hv, _⟩ | ⟨g', cap, cur, hv, _, hg, hk, hm, hs, ht⟩
  · cases hv
  · injection hv with h1 _ h3
    injection h1 with h1
    injection h1 with h1
    subst h1 h3
    refine ⟨g, c, cur.toList.drop (l.length * 4), rfl, hc, hm, hB, hlt, ?_, ?_⟩
    · rw [← ht, List.take_append_drop]
      exact hg
    · rw [List.length_drop, Array.length_toList, hs]
      omega
theorem own_of_block {w : World} {B g c : Nat} {l : List Tr.Node} {X : List Value} (hg : w.heap[g]? = some (.cells (Tr.nodesC l ++ X).toArray 56 (0, 0))) (hX : X.length = (c - l.length) * 4) (hc : l.length ≤ c) (hm : c ≤ maxLen) (hB : B ≤ g) : OwnN w B (.slice (some ⟨g, 0, none⟩) l.length c) l := by
  refine ⟨_, c, rfl, Tr.nodesC_length l, .inr ⟨g, c, _, rfl, hB, hg, hc, hm, ?_, ?_⟩⟩
  · rw [List.size_toArray, List.length_append, Tr.nodesC_length, hX]
    omega
  · show (Tr.nodesC l ++ X).take (l.length * 4) = _
    rw [← Tr.nodesC_length, List.take_left']
    rfl
theorem block_cell {w : World} {g : Nat} {L : List Value} (hg : w.heap[g]? = some (.cells L.toArray 56 (0, 0))) (j : Nat) : w.cell? ⟨g, j, none⟩ = L[j]? := by
  rw [cell_of_row _ _ j _ _ _ hg, List.getElem?_toArray]
theorem run_overlaps_nodes (w : World) (g gv la ca lb cb o : Nat) (cv cg : Array Value) (hv : w.heap[gv]? = some (.cells cv 56 (0, 0))) (hg : w.heap[g]? = some (.cells cg 56 (0, 0))) (hne : gv ≠ g) (hk : cg.size ≠ 0) :
    (callFunc 65 #[.slice (some ⟨gv, 0, none⟩) la ca, .slice (some ⟨g, o, none⟩) lb cb]).run Try.prog w = .ok (.value (.bool false)) w := by
  obtain ⟨i, hi, _, hz1, _⟩ := info_node
  rw [run_callFunc_extern Try.func65 (by kernel_rfl) (by kernel_rfl) (by kernel_rfl) (e := Extern.SlicesOverlaps.overlaps #[22, 22] #[4]) (by kernel_rfl),
    Lib.run_overlaps_apart w 22 4 56 Try.underlying22 4 (fun w => by simp [sizeOf, typeInfo, hi, hz1]) ⟨gv, 0, none⟩ ⟨g, o, none⟩ la ca lb cb hne 56 56 cv.size cg.size (by simp [World.shape?, hv]) (by simp [World.shape?, hg]) hk (by simp [World.frozen?, hv]) (by simp [World.frozen?, hv])]
  rfl
end Go.Proofs.Ytldfamdjdkaloaa

namespace Go.Proofs.Ytldfamdjdkaloaa
open Go.RowKit

theorem OwnN.addr {w : World} {B n c : Nat} {ad : Addr} {l : List Tr.Node} (h : OwnN w B (.slice (some ad) n c) l) : ∃ g, ad = ⟨g, 0, none⟩ := by
  obtain ⟨a', c', e, ho⟩ := h
  injection e with e1 e2 e3
  rcases ho.2 with ⟨h1, _⟩ | ⟨g, cap, cur, h1, _⟩
  · injection h1 with h1
    rw [← e1] at h1
    cases h1
  · injection h1 with h1
    rw [← e1] at h1
    injection h1 with h1
    exact ⟨g, h1⟩
set_option maxRecDepth 20000 in
set_option maxHeartbeats 3200000 in
/-- At the end. -/
theorem nodes_Insert_end (v : Value) (S : List Tr.Node) (gv : Nat) (nd : Tr.Node) (w : World) (B : Nat) (hO : OwnN w B v S) (hB : B ≤ w.heap.size) (hn : S.length + 1 ≤ 3518437208883) (hnd : NodeIn w gv nd) :
    Calls Try.prog 45 #[v, .int .i64 (S.length : Int), .slice (some ⟨gv, 0, none⟩) 1 1] w fun e w' => ∃ v', e = .returned v' ∧ OwnN w' B v' (S ++ [nd]) ∧ Below B w w' := by
  obtain ⟨va, vc, rfl, hown⟩ := hO
  have hO : OwnN w B (.slice va S.length vc) S := ⟨va, vc, rfl, hown⟩
  have hcap : S.length ≤ vc := by
    rcases hown.2 with ⟨_, hz⟩ | ⟨g, cap, cur, hv, _, _, hk, _⟩
    · omega
    · injection hv with _ _ h3; omega
  have hnil := hO.at'.1
  have HO := Lib.hid hO
  have hnw : NodesAt w w.heap.size (some ⟨gv, 0, none⟩) 1 [nd] := ⟨rfl, fun _ => ⟨gv, 0, rfl, hnd.lt, fun i hi => by
    obtain rfl : i = 0 := by simpa using hi
    exact hnd.cells⟩⟩
  have Hnw := Lib.hid hnw
  obtain ⟨n, hnn⟩ : ∃ n, n = S.length := ⟨_, rfl⟩
  rw [← hnn] at hcap hn hnil ⊢
  have Hn := Lib.hid hnn
  rw [← hnn] at HO
  clear hO hown hnd hnw hnn
  have hw : IntKind.i64.wrap ((n : Int) + 1) = (n : Int) + 1 := IntWalk.i64_in _ (by omega)
  cases va with
  | none =>
    obtain ⟨rfl, rfl⟩ := hnil rfl
    go_enter Try.func45, Try.ntmps45
    go_wp2_with (at_builtin; refine wpL_append_nodes _ rfl _ _ rfl B _ S rfl HO.out _ 1 _ [nd] rfl (fun h => by cases h) Hnw.out (by have := Hn.out; omega) hB ?_)
    intro v' w2 hO2 hgr _
    have b2 := below_grownN HO.out hgr hB
    have HO2 := Lib.hid hO2
    clear hO2 hgr
    go_wp2
    go_ret
    exact ⟨_, rfl, HO2.out, b2⟩
  | some ad =>
    obtain ⟨g, rfl⟩ := HO.out.addr
    by_cases hcn : vc = n
    · subst hcn
      go_enter Try.func45, Try.ntmps45
      go_wp2_with (at_builtin; refine wpL_append_nodes _ rfl _ _ rfl B _ S rfl HO.out _ 1 _ [nd] rfl (fun h => by cases h) Hnw.out (by have := Hn.out; omega) hB ?_)
      intro v' w2 hO2 hgr _
      have b2 := below_grownN HO.out hgr hB
      have HO2 := Lib.hid hO2
      clear hO2 hgr
      go_wp2
      go_ret
      exact ⟨_, rfl, HO2.out, b2⟩
    · have hcd : ¬ vc - n = 0 := by omega
      go_enter Try.func45, Try.ntmps45
      go_wp2_with (at_builtin; refine wpL_append_nodes _ rfl _ _ rfl B _ S rfl HO.out _ 1 _ [nd] rfl (fun h => by cases h) Hnw.out (by have := Hn.out; omega) hB ?_)
      intro v' w2 hO2 hgr _
      have b2 := below_grownN HO.out hgr hB
      have HO2 := Lib.hid hO2
      clear hO2 hgr
      go_wp2
      go_ret
      exact ⟨_, rfl, HO2.out, b2⟩
end Go.Proofs.Ytldfamdjdkaloaa

namespace Go.Proofs.Ytldfamdjdkaloaa
open Go.RowKit

theorem nodesC_drop_get {S : List Tr.Node} {k j : Nat} {u : Value} (hk : k ≤ S.length) (h : (Tr.nodesC (S.drop k))[j]? = some u) : (Tr.nodesC S)[k * 4 + j]? = some u := by
  have e : Tr.nodesC S = Tr.nodesC (S.take k) ++ Tr.nodesC (S.drop k) := by rw [← Tr.nodesC_append, List.take_append_drop]
  rw [e, List.getElem?_append_right (by rw [Tr.nodesC_length, List.length_take]; omega), Tr.nodesC_length, List.length_take, show k * 4 + j - min k S.length * 4 = j by rw [Nat.min_eq_left hk]; omega]
  exact h
/-- What two copies make of a row with room: the new node in its place. -/
theorem two_splices (S : List Tr.Node) (k : Nat) (hk : k ≤ S.length) (nd : Tr.Node) (X : List Value) (hX : 4 ≤ X.length) :
    ((((Tr.nodesC S ++ X).take ((k + 1) * 4) ++ Tr.nodesC (S.drop k) ++ (Tr.nodesC S ++ X).drop ((k + 1) * 4 + (Tr.nodesC (S.drop k)).length)).take (k * 4) ++ Tr.nodeC nd ++ ((Tr.nodesC S ++ X).take ((k + 1) * 4) ++ Tr.nodesC (S.drop k) ++ (Tr.nodesC S ++ X).drop ((k + 1) * 4 + (Tr.nodesC (S.drop k)).length)).drop (k * 4 + (Tr.nodeC nd).length))) = Tr.nodesC (S.take k ++ nd :: S.drop k) ++ X.drop 4 := by
  have hA : (Tr.nodesC (S.take k)).length = k * 4 := by rw [Tr.nodesC_length, List.length_take, Nat.min_eq_left hk]
  have hD : (Tr.nodesC (S.drop k)).length = (S.length - k) * 4 := by rw [Tr.nodesC_length, List.length_drop]
  have e : Tr.nodesC S = Tr.nodesC (S.take k) ++ Tr.nodesC (S.drop k) := by rw [← Tr.nodesC_append, List.take_append_drop]
  have hl : (Tr.nodesC S ++ X).length = S.length * 4 + X.length := by rw [List.length_append, Tr.nodesC_length]
  have ht : ((Tr.nodesC S ++ X).take ((k + 1) * 4)).length = (k + 1) * 4 := by rw [List.length_take, hl]; omega
  have t1 : ((Tr.nodesC S ++ X).take ((k + 1) * 4) ++ Tr.nodesC (S.drop k) ++ (Tr.nodesC S ++ X).drop ((k + 1) * 4 + (Tr.nodesC (S.drop k)).length)).take (k * 4) = Tr.nodesC (S.take k) := by
    rw [List.append_assoc, List.take_append_of_le_length (by rw [ht]; omega), List.take_take, Nat.min_eq_left (by omega), e, List.append_assoc, List.take_append_of_le_length (by rw [hA]; exact Nat.le_refl _), ← hA, List.take_length]
  have t2 : ((Tr.nodesC S ++ X).take ((k + 1) * 4) ++ Tr.nodesC (S.drop k) ++ (Tr.nodesC S ++ X).drop ((k + 1) * 4 + (Tr.nodesC (S.drop k)).length)).drop (k * 4 + (Tr.nodeC nd).length) = Tr.nodesC (S.drop k) ++ X.drop 4 := by
    rw [show k * 4 + (Tr.nodeC nd).length = ((Tr.nodesC S ++ X).take ((k + 1) * 4)).length by rw [ht]; show k * 4 + 4 = _; omega, List.append_assoc, List.drop_left']
    · congr 1
      rw [hD, show (k + 1) * 4 + (S.length - k) * 4 = (Tr.nodesC S).length + 4 by rw [Tr.nodesC_length]; omega, ← List.drop_drop, List.drop_left']
      rfl
    · rfl
  rw [t1, t2, Tr.nodesC_append, nodesC_cons]
  simp only [List.append_assoc]

set_option maxRecDepth 20000 in
set_option maxHeartbeats 3200000 in
/-- There is room. -/
theorem nodes_Insert_room (g c : Nat) (S : List Tr.Node) (k gv : Nat) (nd : Tr.Node) (w : World) (B : Nat) (X : List Value) (hg : w.heap[g]? = some (.cells (Tr.nodesC S ++ X).toArray 56 (0, 0))) (hX : X.length = (c - S.length) * 4) (hBg : B ≤ g) (hB : B ≤ w.heap.size) (hm : c ≤ maxLen) (hk : k < S.length) (hroom : S.length + 1 ≤ c) (hn : S.length + 1 ≤ 3518437208883) (hnd : NodeIn w gv nd) (hap : gv ≠ g) :
    Calls Try.prog 45 #[.slice (some ⟨g, 0, none⟩) S.length c, .int .i64 (k : Int), .slice (some ⟨gv, 0, none⟩) 1 1] w fun e w' => ∃ v', e = .returned v' ∧ OwnN w' B v' (S.take k ++ nd :: S.drop k) ∧ Below B w w' := by
  have hvv : w.heap[gv]? = some (.cells (Tr.nodeC nd).toArray 56 (0, 0)) := hnd
  have hov := fun la ca lb cb o => run_overlaps_nodes w g gv la ca lb cb o _ _ hvv hg hap (by rw [List.size_toArray, List.length_append, Tr.nodesC_length]; omega)
  -- the copies
  have hD : (Tr.nodesC (S.drop k)).length = (S.length - k) * 4 := by rw [Tr.nodesC_length, List.length_drop]
  have hL : (Tr.nodesC S ++ X).length = S.length * 4 + X.length := by rw [List.length_append, Tr.nodesC_length]
  obtain ⟨wd, hwd⟩ : ∃ wd, wd = w.drew := ⟨_, rfl⟩
  have hgd : wd.heap[g]? = some (.cells (Tr.nodesC S ++ X).toArray 56 (0, 0)) := by rw [hwd]; exact hg
  have hvd : wd.heap[gv]? = some (.cells (Tr.nodeC nd).toArray 56 (0, 0)) := by rw [hwd]; exact hvv
  obtain ⟨W1, hc1, hh1, hgr1⟩ := run_copy_nodes wd g ((k + 1) * 4) (S.length - k) (c - (k + 1)) ⟨g, k * 4, none⟩ (S.length + 1 - k) (c - k) (Tr.nodesC S ++ X) (Tr.nodesC (S.drop k)) hgd (by rw [hD]; congr 1; simp only [Nat.min_def]; split <;> omega)
    (fun j v hj => by
      rw [Addr.add_lit, block_cell hgd, List.getElem?_append_left (by have := (List.getElem?_eq_some_iff.1 hj).1; rw [hD] at this; rw [Tr.nodesC_length]; omega)]
      exact nodesC_drop_get (by omega) hj) (by rw [hD, hL, hX]; omega) (Tr.nodesC_one _)
  have hv1 : W1.heap[gv]? = some (.cells (Tr.nodeC nd).toArray 56 (0, 0)) := by
    have hlt : gv < wd.heap.size := by have := hnd.lt; rw [hwd]; exact this
    exact (hgr1.block gv hlt (fun e => hap (by injection e))).trans hvd
  obtain ⟨W2, hc2, hh2, hgr2⟩ := run_copy_nodes W1 g (k * 4) (S.length + 1 - k) (c - k) ⟨gv, 0, none⟩ 1 1 _ (Tr.nodeC nd) hh1 (by show 4 = Nat.min 1 (S.length + 1 - k) * 4; simp only [Nat.min_def]; split <;> omega)
    (fun j v hj => by rw [Addr.add_lit, block_cell hv1, Nat.zero_add]; exact hj) (by
      rw [List.length_append, List.length_append, List.length_take, List.length_drop, hD, hL]
      show k * 4 + 4 ≤ _
      omega) (by
      intro v hv
      simp only [Tr.nodeC, List.mem_cons, List.not_mem_nil, or_false] at hv
      rcases hv with rfl | rfl | rfl | rfl <;> rfl)
  rw [two_splices S k (by omega) nd X (by rw [hX]; omega)] at hh2
  have hlen : (S.take k ++ nd :: S.drop k).length = S.length + 1 := by rw [List.length_append, List.length_cons, List.length_take, List.length_drop]; omega
  have hOwn := own_of_block (B := B) (c := c) (l := S.take k ++ nd :: S.drop k) hh2 (by rw [List.length_drop, hX, hlen]; omega) (by omega) hm hBg
  rw [hlen] at hOwn
  have HOwn := Lib.hid hOwn
  have hgr := hgr1.trans hgr2
  have HBel : Hid (Below B w W2) := Lib.hid ((show Below B w wd by rw [hwd]; exact (Below.refl _ _).drew).trans (below_of_grown hgr (by rw [hwd]; exact hB) (fun q hq => by injection hq with hq; omega)))
  have hmin1 : Nat.min (S.length + 1 - k) (S.length - k) = S.length - k := by simp only [Nat.min_def]; split <;> omega
  have hmin2 : Nat.min 1 (S.length + 1 - k) = 1 := by simp only [Nat.min_def]; split <;> omega
  rw [hmin1] at hc1
  rw [hmin2] at hc2
  clear hg hX hnd hgd hvd hvv hh1 hv1 hh2 hgr1 hgr2 hgr hD hL hOwn hlen hmin1 hmin2
  unfold maxLen at hm
  generalize S.length = n at *
  have hz2 : ((k : Int) == (n : Int)) = false := beq_eq_false_iff_ne.2 (by omega)
  have hz3 : decide ((c : Int) < (n : Int) + 1) = false := decide_eq_false (by omega)
  have hw1 : IntKind.i64.wrap ((n : Int) + 1) = (n : Int) + 1 := IntWalk.i64_in _ (by omega)
  have hw2 : IntKind.i64.wrap ((k : Int) + 1) = (k : Int) + 1 := IntWalk.i64_in _ (by omega)
  have hck : ¬ c - k = 0 := by omega
  have hck1 : ¬ c - (k + 1) = 0 := by omega
  have i1 : (k : Int) ≤ (n : Int) := by omega
  have i2 : (n : Int) + 1 ≤ (c : Int) := by omega
  have i3 : (k : Int) + 1 ≤ (n : Int) + 1 := by omega
  have i4 : ((k : Int) + 1).toNat = k + 1 := by omega
  have i5 : ((n : Int) + 1).toNat = n + 1 := by omega
  have i6 : (n + 1) - (k + 1) = n - k := by omega
  have i7 : (0 : Int) ≤ (k : Int) + 1 := by omega
  have i8 : (k : Int) ≤ (n : Int) + 1 := by omega
  have i9 : (0 : Int) ≤ (k : Int) := by omega
  go_enter Try.func45, Try.ntmps45
  go_wp2_with fail
  go_still_tail 8, (by kernel_rfl)
  change wpList _ _ _ _ _ w.drew
  rw [← hwd]
  clear hwd
  go_wp2
  go_ret
  exact ⟨_, rfl, HOwn.out, HBel.out⟩
end Go.Proofs.Ytldfamdjdkaloaa

namespace Go.Proofs.Ytldfamdjdkaloaa
open Go.RowKit

theorem two_splices_new (S : List Tr.Node) (k : Nat) (hk : k ≤ S.length) (nd : Tr.Node) (Z1 Z2 : List Value) (hZ1 : Z1.length = (S.length + 1 - k) * 4) :
    (((Tr.nodesC (S.take k) ++ Z1 ++ Z2).take (k * 4) ++ Tr.nodeC nd ++ (Tr.nodesC (S.take k) ++ Z1 ++ Z2).drop (k * 4 + (Tr.nodeC nd).length)).take ((k + 1) * 4) ++ Tr.nodesC (S.drop k) ++ ((Tr.nodesC (S.take k) ++ Z1 ++ Z2).take (k * 4) ++ Tr.nodeC nd ++ (Tr.nodesC (S.take k) ++ Z1 ++ Z2).drop (k * 4 + (Tr.nodeC nd).length)).drop ((k + 1) * 4 + (Tr.nodesC (S.drop k)).length)) = Tr.nodesC (S.take k ++ nd :: S.drop k) ++ Z2 := by
  have hA : (Tr.nodesC (S.take k)).length = k * 4 := by rw [Tr.nodesC_length, List.length_take, Nat.min_eq_left hk]
  have hD : (Tr.nodesC (S.drop k)).length = (S.length - k) * 4 := by rw [Tr.nodesC_length, List.length_drop]
  have hN : (Tr.nodeC nd).length = 4 := rfl
  have t1 : (Tr.nodesC (S.take k) ++ Z1 ++ Z2).take (k * 4) = Tr.nodesC (S.take k) := by rw [List.append_assoc, ← hA, List.take_left']; rfl
  have t2 : (Tr.nodesC (S.take k) ++ Z1 ++ Z2).drop (k * 4 + (Tr.nodeC nd).length) = Z1.drop 4 ++ Z2 := by
    rw [hN, ← List.drop_drop, List.append_assoc, ← hA, List.drop_left', List.drop_append_of_le_length (by rw [hZ1]; omega)]
    rfl
  have hAN : (Tr.nodesC (S.take k) ++ Tr.nodeC nd).length = (k + 1) * 4 := by rw [List.length_append, hA, hN]; omega
  rw [t1, t2]
  have t3 : (Tr.nodesC (S.take k) ++ Tr.nodeC nd ++ (Z1.drop 4 ++ Z2)).take ((k + 1) * 4) = Tr.nodesC (S.take k) ++ Tr.nodeC nd := by rw [← hAN, List.take_left']; rfl
  have t4 : (Tr.nodesC (S.take k) ++ Tr.nodeC nd ++ (Z1.drop 4 ++ Z2)).drop ((k + 1) * 4 + (Tr.nodesC (S.drop k)).length) = Z2 := by
    rw [← List.drop_drop, ← hAN, List.drop_left' rfl, List.drop_left' (by rw [List.length_drop, hZ1, hD]; omega)]
  rw [t3, t4, Tr.nodesC_append, nodesC_cons]
  simp only [List.append_assoc]

set_option maxRecDepth 20000 in
set_option maxHeartbeats 3200000 in
theorem nodes_Insert_grow (g c : Nat) (S : List Tr.Node) (k gv : Nat) (nd : Tr.Node) (w : World) (B : Nat) (X : List Value) (hg : w.heap[g]? = some (.cells (Tr.nodesC S ++ X).toArray 56 (0, 0))) (hB : B ≤ w.heap.size) (hk : k < S.length) (hSc : S.length ≤ c) (hroom : c < S.length + 1) (hn : S.length + 1 ≤ 3518437208883) (hnd : NodeIn w gv nd) :
    Calls Try.prog 45 #[.slice (some ⟨g, 0, none⟩) S.length c, .int .i64 (k : Int), .slice (some ⟨gv, 0, none⟩) 1 1] w fun e w' => ∃ v', e = .returned v' ∧ OwnN w' B v' (S.take k ++ nd :: S.drop k) ∧ Below B w w' := by
  have hvv : w.heap[gv]? = some (.cells (Tr.nodeC nd).toArray 56 (0, 0)) := hnd
  have hglt : g < w.heap.size := by
    by_cases hc : g < w.heap.size
    · exact hc
    · rw [Array.getElem?_eq_none (by omega)] at hg; cases hg
  have hD : (Tr.nodesC (S.drop k)).length = (S.length - k) * 4 := by rw [Tr.nodesC_length, List.length_drop]
  have hA : (Tr.nodesC (S.take k)).length = k * 4 := by rw [Tr.nodesC_length, List.length_take, Nat.min_eq_left (by omega)]
  obtain ⟨i0, hi0, hz0, hzs, hzb⟩ := info_node
  have hcell : ∀ j v, (Tr.nodesC (S.take k))[j]? = some v → w.cell? ⟨g, j, none⟩ = some v := fun j v hj => by
    have hjl := (List.getElem?_eq_some_iff.1 hj).1
    have e : Tr.nodesC S = Tr.nodesC (S.take k) ++ Tr.nodesC (S.drop k) := by rw [← Tr.nodesC_append, List.take_append_drop]
    rw [block_cell hg, e, List.append_assoc, List.getElem?_append_left hjl]
    exact hj
  have hold : (Builtin.firstCells i0.size k (.slice (some ⟨g, 0, none⟩) k c)).run Try.prog w.drew = .ok (Tr.nodesC (S.take k)).toArray w.drew := by
    rw [hzs]
    exact run_firstCells_some w.drew 4 k ⟨g, 0, none⟩ k c (Tr.nodesC (S.take k)) hA (fun j v hj => by
      rw [Addr.add_lit, Nat.zero_add]
      exact hcell j v hj)
  have hkk : (S.length : Int) + 1 - (k : Int) = ((S.length + 1 - k : Nat) : Int) := by omega
  have hik : k + (S.length + 1 - k) = S.length + 1 := by omega
  obtain ⟨G, hG⟩ : ∃ G, G = grownCap w (S.length + 1) c 56 := ⟨_, rfl⟩
  obtain ⟨Z1, hZ1⟩ : ∃ Z1, Z1 = (Builtin.zeroCells (Value.agg #[.int .u32 0, .int .i64 0, .string ByteArray.empty, .int .i64 0]).cells (S.length + 1 - k)).toList := ⟨_, rfl⟩
  obtain ⟨Z2, hZ2⟩ : ∃ Z2, Z2 = (Builtin.zeroCells (Value.agg #[.int .u32 0, .int .i64 0, .string ByteArray.empty, .int .i64 0]).cells (G - (S.length + 1))).toList := ⟨_, rfl⟩
  have hZ1l : Z1.length = (S.length + 1 - k) * 4 := by rw [hZ1]; simp [Builtin.zeroCells, Value.cells]
  have hZ2l : Z2.length = (G - (S.length + 1)) * 4 := by rw [hZ2]; simp [Builtin.zeroCells, Value.cells]
  obtain ⟨W1, hW1⟩ : ∃ W1, W1 = w.drew.alloc (.cells (Tr.nodesC (S.take k) ++ Z1 ++ Z2).toArray 56) := ⟨_, rfl⟩
  have hrz : ∀ ty, (Builtin.append_ #[22, 3] ty #[.slice (some ⟨g, 0, none⟩) k c, .int .i64 ((S.length : Int) + 1 - (k : Int))]).run Try.prog w = .ok (.slice (some ⟨w.heap.size, 0, none⟩) (S.length + 1) G) W1 := fun ty => by
    have h := Lib.run_append_grow_zeros w 22 3 ty 56 i0 _ .i64 .i64 Try.underlying22 Try.underlying3 hi0 hz0 (some ⟨g, 0, none⟩) k c (Tr.nodesC (S.take k)) hold (S.length + 1 - k) (by omega) (by omega) (by omega) (by omega) (by rw [hzb]; omega) (by rw [hzb, hik]; exact growslice_fits hroom (by omega))
    rw [hik] at h
    rw [hkk, hG, hW1, h]
    congr 3
    rw [hZ1, hZ2, hG]
    simp
  have hGn : S.length + 1 ≤ G := by rw [hG]; exact grownCap_ge w _ _ _
  have hGm : G ≤ maxLen := by rw [hG]; exact grownCap_le_maxLen w (S.length + 1) c 56 (by unfold maxLen; omega)
  have hg2 : W1.heap[w.heap.size]? = some (.cells (Tr.nodesC (S.take k) ++ Z1 ++ Z2).toArray 56 (0, 0)) := by rw [hW1]; exact heap_alloc_last w.drew _
  have hold1 : ∀ q, q < w.heap.size → W1.heap[q]? = w.heap[q]? := fun q hq => by rw [hW1]; exact Below.heap_alloc w.drew _ _ hq
  have hvl : gv < w.heap.size := hnd.lt
  have hv1 : W1.heap[gv]? = some (.cells (Tr.nodeC nd).toArray 56 (0, 0)) := (hold1 gv hvl).trans hvv
  have hL : (Tr.nodesC (S.take k) ++ Z1 ++ Z2).length = G * 4 := by rw [List.length_append, List.length_append, hA, hZ1l, hZ2l]; omega
  obtain ⟨W2, hc1, hh2, hgr2⟩ := run_copy_nodes W1 w.heap.size (k * 4) (S.length + 1 - k) (G - k) ⟨gv, 0, none⟩ 1 1 _ (Tr.nodeC nd) hg2 (by show 4 = Nat.min 1 (S.length + 1 - k) * 4; simp only [Nat.min_def]; split <;> omega)
    (fun j v hj => by rw [Addr.add_lit, block_cell hv1, Nat.zero_add]; exact hj) (by rw [hL]; show k * 4 + 4 ≤ _; omega) (by
      intro v hv
      simp only [Tr.nodeC, List.mem_cons, List.not_mem_nil, or_false] at hv
      rcases hv with rfl | rfl | rfl | rfl <;> rfl)
  have hW1s : W1.heap.size = w.heap.size + 1 := by rw [hW1]; simp
  obtain ⟨wd, hwd⟩ : ∃ wd, wd = W2.drew := ⟨_, rfl⟩
  have hhd : wd.heap = W2.heap := by rw [hwd]; rfl
  have hgd : wd.heap[g]? = some (.cells (Tr.nodesC S ++ X).toArray 56 (0, 0)) := by
    rw [hhd]
    exact ((hgr2.block g (by omega) (fun e => by injection e with e; omega)).trans (hold1 g hglt)).trans hg
  have hh2d := hh2
  rw [← hhd] at hh2d
  obtain ⟨W3, hc2, hh3, hgr3⟩ := run_copy_nodes wd w.heap.size ((k + 1) * 4) (S.length - k) (G - (k + 1)) ⟨g, k * 4, none⟩ (S.length - k) (c - k) _ (Tr.nodesC (S.drop k)) hh2d (by rw [hD]; congr 1; simp only [Nat.min_def]; split <;> omega)
    (fun j v hj => by
      rw [Addr.add_lit, block_cell hgd, List.getElem?_append_left (by have := (List.getElem?_eq_some_iff.1 hj).1; rw [hD] at this; rw [Tr.nodesC_length]; omega)]
      exact nodesC_drop_get (by omega) hj) (by
      rw [List.length_append, List.length_append, List.length_take, List.length_drop, hD, hL]
      show (k + 1) * 4 + (S.length - k) * 4 ≤ min (k * 4) (G * 4) + 4 + (G * 4 - (k * 4 + 4))
      omega) (Tr.nodesC_one _)
  rw [two_splices_new S k (by omega) nd Z1 Z2 hZ1l] at hh3
  have hlen : (S.take k ++ nd :: S.drop k).length = S.length + 1 := by rw [List.length_append, List.length_cons, List.length_take, List.length_drop]; omega
  have hOwn := own_of_block (B := B) (c := G) (l := S.take k ++ nd :: S.drop k) hh3 (by rw [hZ2l, hlen]) (by omega) hGm hB
  rw [hlen] at hOwn
  have HOwn := Lib.hid hOwn
  have HBel : Hid (Below B w W3) := Lib.hid (by
    have b1 : Below B w W1 := by rw [hW1]; exact ((Below.refl _ _).drew).alloc hB _
    have b2 := b1.trans (below_of_grown hgr2 (by omega) (fun q hq => by injection hq with hq; omega))
    have b3 : Below B w wd := by rw [hwd]; exact b2.drew
    exact b3.trans (below_of_grown hgr3 (by have := b3.size; omega) (fun q hq => by injection hq with hq; omega)))
  have hmin1 : Nat.min 1 (S.length + 1 - k) = 1 := by simp only [Nat.min_def]; split <;> omega
  have hmin2 : Nat.min (S.length - k) (S.length - k) = S.length - k := Nat.min_self _
  rw [hmin1] at hc1
  rw [hmin2] at hc2
  unfold maxLen at hGm
  clear hg hnd hvv hD hA hi0 hz0 hzs hzb hcell hold hkk hik hG hZ1 hZ2 hZ1l hZ2l hW1 hg2 hold1 hv1 hL hh2 hgr2 hgd hh2d hhd hh3 hgr3 hlen hOwn hmin1 hmin2 hW1s
  generalize S.length = n at *
  have hz2 : ((k : Int) == (n : Int)) = false := beq_eq_false_iff_ne.2 (by omega)
  have hz3 : decide ((c : Int) < (n : Int) + 1) = true := decide_eq_true (by omega)
  have hz4 : (c : Int) < (n : Int) + 1 := by omega
  have hw1 : IntKind.i64.wrap ((n : Int) + 1) = (n : Int) + 1 := IntWalk.i64_in _ (by omega)
  have hw2 : IntKind.i64.wrap ((k : Int) + 1) = (k : Int) + 1 := IntWalk.i64_in _ (by omega)
  have hw3 : IntKind.i64.wrap ((n : Int) + 1 - (k : Int)) = (n : Int) + 1 - (k : Int) := IntWalk.i64_in _ (by omega)
  have hck : ¬ c - k = 0 := by omega
  have hGk : ¬ G - k = 0 := by omega
  have hGk1 : ¬ G - (k + 1) = 0 := by omega
  have i1 : (k : Int) ≤ (n : Int) := by omega
  have i2 : (n : Int) ≤ (c : Int) := by omega
  have i2' : (k : Int) ≤ (c : Int) := by omega
  have i3 : (k : Int) + 1 ≤ (n : Int) + 1 := by omega
  have i4 : ((k : Int) + 1).toNat = k + 1 := by omega
  have i6 : (n + 1) - (k + 1) = n - k := by omega
  have i7 : (0 : Int) ≤ (k : Int) + 1 := by omega
  have i8 : (k : Int) ≤ (n : Int) + 1 := by omega
  have i9 : (0 : Int) ≤ (k : Int) := by omega
  go_enter Try.func45, Try.ntmps45
  go_wp2_with (at_builtin; refine Lib.wpList_append_run _ rfl _ _ _ _ rfl _ _ rfl rfl _ _ (hrz _) ?_)
  go_wp2_with fail
  go_still_tail 8, (by kernel_rfl)
  change wpList _ _ _ _ _ W2.drew
  rw [← hwd]
  clear hwd
  go_wp2
  go_ret
  exact ⟨_, rfl, HOwn.out, HBel.out⟩

/-- slices.Insert of one node into a row of nodes of the call's own. -/
theorem nodes_Insert (v : Value) (S : List Tr.Node) (k gv : Nat) (nd : Tr.Node) (w : World) (B : Nat) (hO : OwnN w B v S) (hB : B ≤ w.heap.size) (hk : k ≤ S.length) (hn : S.length + 1 ≤ 3518437208883) (hnd : NodeIn w gv nd) (hap : v.ownBlock ≠ some gv) :
    Calls Try.prog 45 #[v, .int .i64 (k : Int), .slice (some ⟨gv, 0, none⟩) 1 1] w fun e w' => ∃ v', e = .returned v' ∧ OwnN w' B v' (S.take k ++ nd :: S.drop k) ∧ Below B w w' := by
  rcases Nat.eq_or_lt_of_le hk with rfl | hlt
  · rw [List.take_length, List.drop_length]
    exact nodes_Insert_end v S gv nd w B hO hB hn hnd
  · obtain ⟨g, c, X, rfl, hSc, hm, hBg, _, hg, hX⟩ := hO.block (by intro e; rw [e] at hlt; simp at hlt)
    by_cases hroom : S.length + 1 ≤ c
    · exact nodes_Insert_room g c S k gv nd w B X hg hX hBg hB hm hlt hroom hn hnd (fun e => hap (by rw [e]; rfl))
    · exact nodes_Insert_grow g c S k gv nd w B X hg hB hlt hSc (by omega) hn hnd
end Go.Proofs.Ytldfamdjdkaloaa

namespace Go.Proofs.Ytldfamdjdkaloaa
open Go.RowKit

theorem mostO_bounds (x : Nat) : ∀ (l : List Tr.Node), (∀ n ∈ l, Tr.good (Tr.nw n)) → -1 ≤ (Tr.mostO x l).2 ∧ (Tr.mostO x l).2 ≤ 32 := by
  intro l hg
  have key : ∀ (l : List Tr.Node) (p : ByteArray × Int), (∀ n ∈ l, Tr.good (Tr.nw n)) → -1 ≤ p.2 ∧ p.2 ≤ 32 → -1 ≤ (l.foldl (fun p n => if Tr.hasN x n = true ∧ p.2 < n.b then (n.o, n.b) else p) p).2 ∧ (l.foldl (fun p n => if Tr.hasN x n = true ∧ p.2 < n.b then (n.o, n.b) else p) p).2 ≤ 32 := by
    intro l
    induction l with
    | nil => intro p _ h; exact h
    | cons n r ih =>
      intro p hg h
      rw [List.foldl_cons]
      refine ih _ (fun k hk => hg k (List.mem_cons_of_mem _ hk)) ?_
      split
      · obtain ⟨h0, h1, _⟩ := Nt.err_zero (hg n (List.mem_cons_self ..)).2
        change 0 ≤ n.b at h0
        change n.b ≤ 32 at h1
        exact ⟨by show (-1 : Int) ≤ n.b; omega, h1⟩
      · exact h
  exact key l _ hg ⟨by decide, by decide⟩

set_option maxRecDepth 20000 in
set_option maxHeartbeats 3200000 in
theorem ref_TrieFind (a : Option Addr) (n c : Nat) (l : List Tr.Node) (x : Nat) (w : World) (h : NodesAt w w.heap.size a n l) (hf : Tr.fit l) (hn : n ≤ 3518437208780) (hx : x < 4294967296) :
    Calls Try.prog 28 #[.slice a n c, .int .u32 (x : Int)] w fun e w' => e = .returned (.tuple #[.string (Tr.fo x l), .int .i64 (Tr.fe x l : Int)]) ∧ Below w.heap.size w w' := by
  have H1 := Lib.hid (ref_TrieFault a n c l w h hf hn)
  by_cases hz : Tr.fault l = 0
  · obtain ⟨he0, hfit⟩ := Tr.fault_zero hz
    have hg := Tr.fit_good hf he0
    have hso := Tr.fits_sorted hg hfit
    have hog := Tr.owned_good hg
    have Hms := Lib.hid (Tr.most_sorted (x := x) hso hog (Tr.owned_single l))
    rw [Tr.lastO_owned] at Hms
    have hos := Tr.owned_single l
    have Ho : Hid (Tr.fo x l = Tr.lastO x l) := Lib.hid (if_pos hz)
    have He : Hid (Tr.fe x l = if (Tr.lastO x l).size = 0 then 11 else 0) := Lib.hid (if_pos hz)
    have H2 := Lib.hid (fun (W : World) (hb : Below w.heap.size w W) => ref_owned a n c l W ((h.below hb).up hb.size) hn)
    have hol := Tr.owned_le l
    rw [h.1] at hol
    rw [hz] at H1
    clear hz h hf he0 hfit hg hso
    generalize Tr.owned l = al at *
    have Hog := Lib.hid hog
    have Hos := Lib.hid hos
    clear hog hos
    go_enter Try.func28, Try.ntmps28
    go_wp2_with fail
    refine H1.out.mono ?_
    rintro e w2 ⟨rfl, b2⟩
    clear H1
    go_wp2_with fail
    refine (H2.out w2 b2).mono ?_
    rintro e w3 ⟨v3, rfl, o3, b3⟩
    obtain ⟨a3, c3, rfl, _, at3⟩ := o3.at
    have B3 := b2.trans (b3.mono b2.size)
    have HA := Lib.hid at3
    clear b2 b3 o3 at3 H2
    obtain ⟨m, hm⟩ : ∃ m, m = al.length := ⟨_, rfl⟩
    rw [← hm] at HA hol ⊢
    have Hm := Lib.hid hm
    clear hm
    have hB3 := B3.size
    go_wp2
    go_loopw [7, 8, 19] (fun v7 v8 i wr => ∃ k : Nat, k ≤ m ∧ i = .int .i64 k ∧ (∃ o q, v7 = .string o ∧ v8 = .int .i64 q ∧ Hid ((o, q) = Tr.mostO x (al.take k))) ∧ Below w3.heap.size w3 wr) (fun _ _ i _ => m - (intOf i).toNat)
    case atStart => exact ⟨0, Nat.zero_le _, rfl, ⟨_, _, rfl, rfl, Lib.hid rfl⟩, Below.refl _ _⟩
    case round =>
      obtain ⟨k, hk, rfl, ⟨o, q, rfl, rfl, Hq⟩, hB⟩ := hrel
      obtain ⟨wo, hwo⟩ : ∃ wo, wo = wr := ⟨_, rfl⟩
      subst hwo
      have hsz := hB.size
      by_cases hlt : k < m
      · obtain ⟨b, off, rfl, hbl, hcs⟩ := (HA.out.below hB).2 (by omega)
        have hkl : k < al.length := by rw [← Hm.out]; exact hlt
        obtain ⟨c0, c1, c2, c3'⟩ := hcs k hkl
        have hfx := Hog.out _ (List.getElem_mem hkl)
        have Hsn := Lib.hid (Tr.mostO_snoc x (al.take k) al[k])
        rw [← List.take_succ_eq_append_getElem hkl, ← Hq.out] at Hsn
        have hqb := mostO_bounds x (al.take k) (fun n hn => Hog.out n (List.mem_of_mem_take hn))
        rw [← Hq.out] at hqb
        change -1 ≤ q ∧ q ≤ 32 at hqb
        clear hcs
        generalize al[k] = nd at *
        obtain ⟨na, nb, no, ns⟩ := nd
        have HC := Lib.hid (fun W => ref_NetHas na nb x W hfx.1 hx)
        unfold netV at HC
        have HN : Hid (NodeIn (wo.alloc (.cells #[.int .u32 (na : Int), .int .i64 nb, .string no, .int .i64 ns] 56)) wo.heap.size ⟨na, nb, no, ns⟩) := Lib.hid (heap_alloc_last wo _)
        have hbo : Below w3.heap.size w3 (wo.alloc (.cells #[.int .u32 (na : Int), .int .i64 nb, .string no, .int .i64 ns] 56)) := hB.alloc hsz _
        have Hbo := Lib.hid hbo
        have hszo := hbo.size
        have HCells := Lib.hid (fun (W : World) (hb : Below (wo.alloc (.cells #[.int .u32 (na : Int), .int .i64 nb, .string no, .int .i64 ns] 56)).heap.size (wo.alloc (.cells #[.int .u32 (na : Int), .int .i64 nb, .string no, .int .i64 ns] 56)) W) => (HN.out.low hb HN.out.lt).cells)
        clear hfx hbo
        change Hid (Tr.mostO x (al.take (k + 1)) = if Nt.has na nb x = true ∧ q < nb then (no, nb) else (o, q)) at Hsn
        cases hh : Nt.has na nb x with
        | false =>
          rw [hh, if_neg (fun h => by cases h.1)] at Hsn
          rw [hh] at HC
          clear hh
          go_wp2_with fail
          refine (HC.out _).mono ?_
          rintro e w4 ⟨rfl, b4⟩
          have hB4 := Hbo.out.trans (b4.mono hszo)
          clear b4 c0 c1 c2 c3' HCells
          go_wp2
          go_roundw
          case rel => exact ⟨k + 1, by omega, by go_num, ⟨_, _, rfl, rfl, Lib.hid Hsn.out.symm⟩, hB4⟩
          case measure => simp [intOf]; omega
        | true =>
          rw [hh] at HC Hsn
          clear hh
          by_cases hlt2 : q < nb
          · rw [if_pos ⟨rfl, hlt2⟩] at Hsn
            go_wp2_with fail
            refine (HC.out _).mono ?_
            rintro e w4 ⟨rfl, b4⟩
            obtain ⟨d0, d1, d2, d3⟩ := HCells.out w4 b4
            have hB4 := Hbo.out.trans (b4.mono hszo)
            clear b4 c0 c1 c2 c3' HCells
            go_wp2_with fail
            go_quiet (fail)
            go_wp2
            go_roundw
            case rel => exact ⟨k + 1, by omega, by go_num, ⟨_, _, rfl, rfl, Lib.hid Hsn.out.symm⟩, belowDrewN hB4 _⟩
            case measure => simp [intOf]; omega
          · rw [if_neg (fun h => hlt2 h.2)] at Hsn
            go_wp2_with fail
            refine (HC.out _).mono ?_
            rintro e w4 ⟨rfl, b4⟩
            obtain ⟨d0, d1, d2, d3⟩ := HCells.out w4 b4
            have hB4 := Hbo.out.trans (b4.mono hszo)
            clear b4 c0 c1 c2 c3' HCells
            go_wp2
            go_roundw
            case rel => exact ⟨k + 1, by omega, by go_num, ⟨_, _, rfl, rfl, Lib.hid Hsn.out.symm⟩, hB4⟩
            case measure => simp [intOf]; omega
      · have htk : al.take k = al := List.take_of_length_le (by rw [← Hm.out]; omega)
        rw [htk] at Hq
        have hBw := B3.trans (hB.mono hB3)
        rcases Hms.out with ⟨e1, e2⟩ | ⟨nd, hnd, _, e1, e2⟩
        · have Hfe : Hid (Tr.fo x l = ⟨#[]⟩ ∧ Tr.fe x l = 11) := Lib.hid ⟨by rw [Ho.out, e2]; rfl, by rw [He.out, e2]; rfl⟩
          rw [e1] at Hq
          obtain ⟨rfl, rfl⟩ : o = ByteArray.empty ∧ q = -1 := by have := Hq.out; injection this with h1 h2; exact ⟨h1, h2⟩
          clear Hq e1 e2 HA Hms
          go_wp2
          go_ret2
          exact ⟨by rw [Hfe.out.1, Hfe.out.2]; rfl, hBw⟩
        · have hs1 := (Hos.out nd hnd).1
          have hb0 := (Nt.err_zero (Hog.out nd hnd).2).1
          change 0 ≤ nd.b at hb0
          rw [e1] at Hq
          obtain ⟨rfl, rfl⟩ : o = nd.o ∧ q = nd.b := by have := Hq.out; injection this with h1 h2; exact ⟨h1, h2⟩
          have Hfe : Hid (Tr.fo x l = nd.o ∧ Tr.fe x l = 0) := Lib.hid ⟨by rw [Ho.out, e2], by rw [He.out, e2, if_neg (by omega)]⟩
          have hnl : decide (nd.b < 0) = false := decide_eq_false (by omega)
          clear Hq e1 e2 HA Hms hnd
          generalize nd.o = oo at *
          generalize nd.b = bb at *
          go_wp2
          go_ret2
          exact ⟨by rw [Hfe.out.1, Hfe.out.2]; rfl, hBw⟩
  · have Ho : Hid (Tr.fo x l = ⟨#[]⟩) := Lib.hid (if_neg hz)
    have He : Hid (Tr.fe x l = Tr.fault l) := Lib.hid (if_neg hz)
    have hz' : ((Tr.fault l : Int) != 0) = true := by simp; omega
    clear hz h hf
    generalize Tr.fault l = F at *
    go_enter Try.func28, Try.ntmps28
    go_wp2_with fail
    refine H1.out.mono ?_
    rintro e w2 ⟨rfl, b2⟩
    go_wp2
    go_ret2
    exact ⟨by rw [Ho.out, He.out]; rfl, b2⟩
end Go.Proofs.Ytldfamdjdkaloaa

namespace Go.Proofs.Ytldfamdjdkaloaa
open Go.RowKit

set_option maxRecDepth 20000 in
set_option maxHeartbeats 1600000 in
theorem law_owned (a : Option Addr) (n c : Nat) (l : List Tr.Node) (w : World) (h : NodesAt w w.heap.size a n l) (hf : Tr.fit l) (hn : n ≤ 3518437208780) :
    Calls Try.prog 29 #[.slice a n c] w fun e w' => (∃ v, e = .returned (.tuple #[v, .int .i64 (Tr.fault l : Int)]) ∧ OwnN w' w.heap.size v (Tr.ao l)) ∧ Below w.heap.size w w' := by
  have H1 := Lib.hid (ref_TrieFault a n c l w h hf hn)
  by_cases hfz : Tr.fault l = 0
  · have Ha : Hid (Tr.ao l = Tr.owned l) := Lib.hid (if_pos hfz)
    rw [hfz] at H1 ⊢
    have Hh := Lib.hid h
    clear h hf hfz
    go_enter Try.func29, Try.ntmps29
    go_wp2_with fail
    refine H1.out.mono ?_
    rintro e w2 ⟨rfl, b2⟩
    clear H1
    go_wp2
    go_loopw [5, 15] (fun v i wr => ∃ k : Nat, k ≤ n ∧ i = .int .i64 k ∧ OwnSo w l k v wr) (fun _ i _ => n - (intOf i).toNat)
    case atStart => exact ⟨0, Nat.zero_le _, rfl, OwnN.nil _ _, b2⟩
    case round =>
      obtain ⟨k, hk, rfl, hO, hB⟩ := hrel
      obtain ⟨wo, hwo⟩ : ∃ wo, wo = wr := ⟨_, rfl⟩
      subst hwo
      have hsz := hB.size
      by_cases hlt : k < n
      · obtain ⟨b, off, rfl, hbl, hcs⟩ := (Hh.out.below hB).2 (by omega)
        have hkl : k < l.length := by rw [Hh.out.1]; exact hlt
        obtain ⟨c0, c1, c2, c3⟩ := hcs k hkl
        have Hs := Lib.hid (Tr.owned_snoc (l.take k) l[k])
        rw [← List.take_succ_eq_append_getElem hkl] at Hs
        have hol := Tr.owned_le (l.take k)
        rw [List.length_take] at hol
        have HO := Lib.hid hO
        have HB := Lib.hid hB
        clear hcs hO hB
        generalize l[k] = nd at *
        obtain ⟨na, nb, no, ns⟩ := nd
        by_cases hz : 0 < no.size
        · rw [if_pos hz] at Hs
          have hse : no.toList.isEmpty = false := by
            rw [ByteArray.toList_eq]
            cases hx : no.data.toList with
            | nil => have : no.size = 0 := by show no.data.size = 0; rw [← Array.length_toList, hx]; rfl
                     omega
            | cons _ _ => rfl
          have hnl : (Tr.owned (l.take k)).length + 1 ≤ 3518437208883 := by omega
          have HO2 := Lib.hid ((HO.out.alloc (.cells #[.int .u32 (na : Int), .int .i64 nb, .string no, .int .i64 1] 56)).alloc (.cells #[.int .u32 (na : Int), .int .i64 nb, .string no, .int .i64 1] 56))
          have hnw := news_node (wo.alloc (.cells #[.int .u32 (na : Int), .int .i64 nb, .string no, .int .i64 1] 56)) ⟨na, nb, no, 1⟩ 56
          rw [show (wo.alloc (.cells #[.int .u32 (na : Int), .int .i64 nb, .string no, .int .i64 1] 56)).heap.size = wo.heap.size + 1 by simp] at hnw
          have Hnw := Lib.hid hnw
          clear hnw
          go_wp2_with (at_builtin; refine wpL_append_node _ rfl _ _ rfl w.heap.size _ (Tr.owned (l.take k)) rfl HO2.out _ 1 _ [⟨na, nb, no, 1⟩] rfl rfl Hnw.out hnl (by simp; omega) ?_)
          intro v' w2 hO2 hb2
          have hB2 := ((HB.out.alloc hsz _).alloc (by simp; omega) _).trans hb2
          rw [← Hs.out] at hO2
          have HO3 := Lib.hid hO2
          clear hO2 hb2
          go_wp2
          go_roundw
          case rel => exact ⟨k + 1, by omega, by go_num, HO3.out, hB2⟩
          case measure => simp [intOf]; omega
        · rw [if_neg hz, List.append_nil] at Hs
          obtain rfl : no = ⟨#[]⟩ := by
            apply WideShapes.bytes_inj
            have : no.data.toList.length = 0 := by have : no.data.toList.length = no.size := by simp
                                                   omega
            rw [List.eq_nil_of_length_eq_zero this]
          go_wp2
          go_roundw
          case rel => exact ⟨k + 1, by omega, by go_num, by unfold OwnSo; rw [Hs.out]; exact ⟨HO.out.alloc _, HB.out.alloc hsz _⟩⟩
          case measure => simp [intOf]; omega
      · have hta : l.take k = l := List.take_of_length_le (by rw [Hh.out.1]; omega)
        rw [hta] at hO
        have HO := Lib.hid hO
        clear hO
        go_wp2
        go_ret2
        exact ⟨⟨_, rfl, by rw [Ha.out]; exact HO.out⟩, hB⟩
  · have Ha : Hid (Tr.ao l = []) := Lib.hid (if_neg hfz)
    have hz' : ((Tr.fault l : Int) != 0) = true := by simp; omega
    clear hfz h hf
    generalize Tr.fault l = F at *
    go_enter Try.func29, Try.ntmps29
    go_wp2_with fail
    refine H1.out.mono ?_
    rintro e w2 ⟨rfl, b2⟩
    go_wp2
    go_ret2
    exact ⟨⟨_, rfl, by rw [Ha.out]; exact OwnN.nil _ _⟩, b2⟩
theorem law_sameNodes (a b : Option Addr) (n m c d : Nat) (l k : List Tr.Node) (w : World) (hl : NodesAt w w.heap.size a n l) (hk : NodesAt w w.heap.size b m k) (hn : n ≤ 3518437208883) :
    Calls Try.prog 19 #[.slice a n c, .slice b m d] w fun e w' => ∃ r : Bool, e = .returned (.bool r) ∧ (r = true ↔ l = k) ∧ Below w.heap.size w w' := by
  have H := Lib.hid (nodes_Equal a b n m c d l k w hl hk hn)
  clear hl hk
  go_enter Try.func19, Try.ntmps19
  go_wp2_with fail
  refine H.out.mono ?_
  rintro e w2 ⟨r, rfl, hr, b2⟩
  have Hr := Lib.hid hr
  clear hr H
  go_wp2
  go_ret
  exact ⟨_, rfl, Hr.out, b2⟩

set_option maxRecDepth 20000 in
set_option maxHeartbeats 1600000 in
theorem trieFinds_walk (a : Option Addr) (n c : Nat) (l : List Tr.Node) (x : Nat) (w : World) (h : NodesAt w w.heap.size a n l) (_hc : n ≤ c) (hf : Tr.fit l) (hn : n ≤ 3518437208780) (hx : x < 4294967296) :
    Calls Try.prog 7 #[.slice a n c, .int .u32 (x : Int)] w fun e w' => e = .returned (.bool true) ∧ Below w.heap.size w w' := by
  have H1 := Lib.hid (trie_Find a n c l x w h hf hn hx)
  have H2 := Lib.hid (fun (W : World) (hb : Below w.heap.size w W) => trie_All a n c l W ((h.below hb).up hb.size) hf hn)
  have H3 := Lib.hid (fun (W : World) (hb : Below w.heap.size w W) => ref_TrieFind a n c l x W ((h.below hb).up hb.size) hf hn hx)
  have H4 := Lib.hid (fun (W : World) (hb : Below w.heap.size w W) => law_owned a n c l W ((h.below hb).up hb.size) hf hn)
  have hal : (Tr.ao l).length ≤ 3518437208780 := by
    unfold Tr.ao
    split
    · have := Tr.owned_le l; rw [h.1] at this; omega
    · simp
  clear h hf
  generalize Tr.fault l = F at *
  generalize Tr.fo x l = O at *
  generalize Tr.fe x l = E at *
  generalize Tr.ao l = A at *
  go_enter Try.func7, Try.ntmps7
  go_wp2_with fail
  refine H1.out.mono ?_
  rintro e w2 ⟨rfl, b2⟩
  go_wp2_with fail
  refine (H2.out w2 b2).mono ?_
  rintro e w3 ⟨⟨v3, rfl, o3⟩, b3⟩
  have B3 := b2.trans (b3.mono b2.size)
  go_wp2_with fail
  refine (H3.out w3 B3).mono ?_
  rintro e w4 ⟨rfl, b4⟩
  have B4 := B3.trans (b4.mono B3.size)
  go_wp2_with fail
  refine (H4.out w4 B4).mono ?_
  rintro e w5 ⟨⟨v5, rfl, o5⟩, b5⟩
  have B5 := B4.trans (b5.mono B4.size)
  have o3' := (o3.below b4).below b5
  obtain ⟨a3, c3, rfl, _, at3⟩ := o3'.at
  obtain ⟨a5, c5, rfl, _, at5⟩ := o5.at
  have HE := Lib.hid (law_sameNodes a3 a5 _ _ c3 c5 A A w5 at3 at5 (by omega))
  clear b2 b3 b4 b5 B3 B4 o3 o5 o3' at3 at5 H1 H2 H3 H4
  go_wp2_with fail
  refine HE.out.mono ?_
  rintro e w6 ⟨r6, rfl, hr6, b6⟩
  obtain rfl : r6 = true := by first | exact hr6.2 rfl | exact hr6.2 trivial | simpa using hr6
  have B6 := B5.trans (b6.mono B5.size)
  clear hr6 b6 B5 HE
  go_wp2
  go_ret
  exact ⟨by simp, B6⟩
end Go.Proofs.Ytldfamdjdkaloaa

namespace Go.Proofs.Ytldfamdjdkaloaa
open Go.RowKit

theorem dropO_len {o : ByteArray} {l : List Tr.Node} (hf : Tr.fit l) : (Tr.dropO o l).length ≤ 3518437208883 := by
  unfold Tr.dropO
  split
  · next hz =>
    obtain ⟨_, hg, _, hol, _⟩ := Tr.fault_facts hf hz
    have h1 := Tr.grown_two 33 ((Tr.owned l).filter fun x => !decide (x.o = o)) (fun x hx => hg x (List.mem_filter.1 hx).1)
    have h2 : ((Tr.owned l).filter fun x => !decide (x.o = o)).length ≤ (Tr.owned l).length := List.length_filter_le _ _
    refine Nat.le_trans h1 ?_
    omega
  · simp
set_option maxRecDepth 20000 in
set_option maxHeartbeats 1600000 in
theorem trieDrops_walk (a : Option Addr) (n c : Nat) (l : List Tr.Node) (o : ByteArray) (w : World) (h : NodesAt w w.heap.size a n l) (_hc : n ≤ c) (hf : Tr.fit l) (hn : n ≤ 3518437208780) (_ho : o.size ≤ reachBytes) :
    Calls Try.prog 6 #[.slice a n c, .string o] w fun e w' => e = .returned (.bool true) ∧ Below w.heap.size w w' := by
  have H1 := Lib.hid (trie_DropOwner a n c l o w h hf hn)
  have H2 := Lib.hid (fun (W : World) (hb : Below w.heap.size w W) => ref_DropOwner a n c l o W ((h.below hb).up hb.size) hf hn)
  have hal := dropO_len (o := o) hf
  clear h hf
  generalize Tr.fault l = F at *
  generalize Tr.dropO o l = A at *
  go_enter Try.func6, Try.ntmps6
  go_wp2_with fail
  refine H1.out.mono ?_
  rintro e w3 ⟨⟨v3, rfl, o3⟩, B3⟩
  go_wp2_with fail
  refine (H2.out w3 B3).mono ?_
  rintro e w5 ⟨⟨v5, rfl, o5⟩, b5⟩
  have B5 := B3.trans (b5.mono B3.size)
  have o3' := o3.below b5
  obtain ⟨a3, c3, rfl, _, at3⟩ := o3'.at
  obtain ⟨a5, c5, rfl, _, at5⟩ := o5.at
  have HE := Lib.hid (law_sameNodes a3 a5 _ _ c3 c5 A A w5 at3 at5 (by omega))
  clear b5 B3 o3 o5 o3' at3 at5 H1 H2
  go_wp2_with fail
  refine HE.out.mono ?_
  rintro e w6 ⟨r6, rfl, hr6, b6⟩
  obtain rfl : r6 = true := by first | exact hr6.2 rfl | exact hr6.2 trivial | simpa using hr6
  have B6 := B5.trans (b6.mono B5.size)
  clear hr6 b6 B5 HE
  go_wp2
  go_ret
  exact ⟨by simp, B6⟩
end Go.Proofs.Ytldfamdjdkaloaa

namespace Go.Proofs.Ytldfamdjdkaloaa
open Go.RowKit

/-- The row ahead of the last store: the node at k bears the network, and what is around it. -/
structure PutSo (x : Tr.Nw) (o : ByteArray) (l : List Tr.Node) (k : Nat) (A C : List Tr.Node) (nd : Tr.Node) : Prop where
  len : A.length = k
  node : { nd with o := o } = Tr.newN x o
  rest : A ++ C = Tr.others x l
  sorted : Tr.sorted (A ++ Tr.newN x o :: C)
theorem put_sorted {A C : List Tr.Node} {x : Tr.Nw} {o : ByteArray} (h : Tr.sorted (A ++ C)) (h1 : ∀ n ∈ A, Tr.lt (Tr.nw n) x) (h2 : ∀ n ∈ C, Tr.lt x (Tr.nw n)) : Tr.sorted (A ++ Tr.newN x o :: C) := by
  obtain ⟨a, b, c⟩ := List.pairwise_append.1 h
  refine List.pairwise_append.2 ⟨a, List.Pairwise.cons (fun n hn => h2 n hn) b, fun n hn m hm => ?_⟩
  rcases List.mem_cons.1 hm with rfl | hm
  · exact h1 n hn
  · exact c n hn m hm
theorem put_found {x : Tr.Nw} {o : ByteArray} {l : List Tr.Node} {k : Nat} (hs : Tr.sorted (Tr.owned l)) (hp : Place (Tr.owned l) x k) (hk : k < (Tr.owned l).length) (he : Tr.nw (Tr.owned l)[k] = x) :
    PutSo x o l k ((Tr.owned l).take k) ((Tr.owned l).drop (k + 1)) (Tr.owned l)[k] := by
  have h1 := Tr.owned_single l _ (List.getElem_mem hk)
  have hS : Tr.owned l = (Tr.owned l).take k ++ (Tr.owned l)[k] :: (Tr.owned l).drop (k + 1) := by rw [List.getElem_cons_drop, List.take_append_drop]
  have hA : ∀ n ∈ (Tr.owned l).take k, Tr.lt (Tr.nw n) x := fun n hn => by
    obtain ⟨i, hi, rfl⟩ := List.mem_iff_getElem.1 hn
    rw [List.length_take] at hi
    rw [List.getElem_take]
    exact hp.low i (by omega) (by omega)
  have hC : ∀ n ∈ (Tr.owned l).drop (k + 1), Tr.lt x (Tr.nw n) := fun n hn => by
    obtain ⟨i, hi, rfl⟩ := List.mem_iff_getElem.1 hn
    rw [List.length_drop] at hi
    rw [List.getElem_drop, ← he]
    exact Tr.sorted_get hs (by omega) (by omega)
  refine ⟨by rw [List.length_take]; omega, ?_, ?_, ?_⟩
  · subst he
    unfold Tr.newN Tr.nw
    rw [h1.2]
  · unfold Tr.others
    conv => rhs; rw [hS]
    rw [List.filter_append, List.filter_cons_of_neg (by simp [he]), List.filter_eq_self.2, List.filter_eq_self.2]
    · intro n hn
      have := hC n hn
      simp only [Bool.not_eq_true', decide_eq_false_iff_not]
      intro e
      rw [e] at this
      exact Tr.lt_irrefl _ this
    · intro n hn
      have := hA n hn
      simp only [Bool.not_eq_true', decide_eq_false_iff_not]
      intro e
      rw [e] at this
      exact Tr.lt_irrefl _ this
  · refine put_sorted ?_ hA hC
    refine List.Pairwise.sublist ?_ hs
    conv => rhs; rw [hS]
    exact List.Sublist.append_left (List.sublist_cons_self _ _) _
theorem put_new {x : Tr.Nw} {o : ByteArray} {l : List Tr.Node} {k : Nat} (hs : Tr.sorted (Tr.owned l)) (hp : Place (Tr.owned l) x k) (hno : ¬ ∃ h : k < (Tr.owned l).length, Tr.nw (Tr.owned l)[k] = x) :
    PutSo x o l k ((Tr.owned l).take k) ((Tr.owned l).drop k) ⟨x.1, x.2, ⟨#[]⟩, 1⟩ := by
  have hne := place_none hp hs hno
  refine ⟨by rw [List.length_take]; have := hp.le; omega, rfl, ?_, ?_⟩
  · rw [List.take_append_drop]
    unfold Tr.others
    rw [List.filter_eq_self.2]
    intro n hn
    simp only [Bool.not_eq_true', decide_eq_false_iff_not]
    exact hne n hn
  · refine put_sorted (by rw [List.take_append_drop]; exact hs) (fun n hn => ?_) (fun n hn => ?_)
    · obtain ⟨i, hi, rfl⟩ := List.mem_iff_getElem.1 hn
      rw [List.length_take] at hi
      rw [List.getElem_take]
      exact hp.low i (by omega) (by omega)
    · have hn' := List.mem_of_mem_drop hn
      obtain ⟨i, hi, rfl⟩ := List.mem_iff_getElem.1 hn
      rw [List.length_drop] at hi
      rw [List.getElem_drop] at hn' ⊢
      exact Tr.lt_or (hp.high (k + i) (by omega) (by omega)) (hne _ hn')

set_option maxRecDepth 20000 in
set_option maxHeartbeats 3200000 in
theorem trie_Put (a : Option Addr) (n c : Nat) (l : List Tr.Node) (na : Nat) (nb : Int) (o : ByteArray) (w : World) (h : NodesAt w w.heap.size a n l) (hf : Tr.fit l) (hn : n ≤ 3518437208780) (ha : na < 4294967296) (b0 : -9223372036854775808 ≤ nb) (b1 : nb ≤ 9223372036854775807) :
    Calls Try.prog 17 #[.slice a n c, .agg #[.int .u32 (na : Int), .int .i64 nb], .string o] w fun e w' => (∃ v, e = .returned (.tuple #[v, .int .i64 (Tr.pe (na, nb) o l : Int)]) ∧ OwnN w' w.heap.size v (Tr.putL (na, nb) o l)) ∧ Below w.heap.size w w' := by
  obtain ⟨w1, hw1⟩ : ∃ w1, w1 = w.alloc (.cells #[.int .u32 (na : Int), .int .i64 nb] 28) := ⟨_, rfl⟩
  have hA : Below w.heap.size w w1 := by rw [hw1]; exact (Below.refl _ _).alloc (Nat.le_refl _) _
  have hz1 : w.heap.size < w1.heap.size := by rw [hw1]; simp
  have hN1 : NetIn w1 w.heap.size na nb := by rw [hw1]; exact heap_alloc_last w _
  have hat1 := (h.below hA).up (show w.heap.size ≤ w1.heap.size by omega)
  have H1 := Lib.hid (trie_checkBoth a n c l na nb w1 hat1 hf hn ha b0 b1)
  have HN1 := Lib.hid hN1
  obtain ⟨t0, t1⟩ := two_cells hN1.own
  by_cases hz : Tr.be (na, nb) l = 0
  · obtain ⟨hfz, hez⟩ := Tr.be_zero hz
    change Nt.err na nb = 0 at hez
    rw [hz] at H1
    by_cases ho : o.size = 0
    · have Hr : Hid (Tr.pe (na, nb) o l = 3 ∧ Tr.putL (na, nb) o l = []) := Lib.hid (by
        have e1 : Tr.pe (na, nb) o l = 3 := by unfold Tr.pe; rw [if_pos hz, if_pos ho]
        exact ⟨e1, by unfold Tr.putL; rw [e1]; rfl⟩)
      rw [Hr.out.1, Hr.out.2]
      obtain rfl := empty_of_size ho
      clear h hf hfz hez hat1 hN1 hz ho Hr
      go_enter Try.func17, Try.ntmps17
      go_wp2_with fail
      rw [← hw1]
      clear hw1
      refine H1.out.mono ?_
      rintro e w2 ⟨rfl, b2⟩
      have B2 := hA.trans (b2.mono (by omega))
      clear t0 t1 b2 H1
      go_wp2
      go_ret2
      exact ⟨⟨_, rfl, OwnN.nil _ _⟩, B2⟩
    · have Hr : Hid (Tr.pe (na, nb) o l = 0 ∧ Tr.putL (na, nb) o l = Tr.trie (Tr.others (na, nb) l ++ [Tr.newN (na, nb) o])) := Lib.hid (by
        have e1 : Tr.pe (na, nb) o l = 0 := by unfold Tr.pe; rw [if_pos hz, if_neg ho]
        exact ⟨e1, by unfold Tr.putL; rw [if_pos e1]⟩)
      rw [Hr.out.1, Hr.out.2]
      obtain ⟨_, hg, hso, hol, _⟩ := Tr.fault_facts hf hfz
      obtain ⟨og, _, _, _, _⟩ := Tr.others_facts (x := (na, nb)) hg hso
      have hgx : Tr.good (na, nb) := ⟨ha, hez⟩
      have H2 := Lib.hid (fun (W : World) (hb : Below w1.heap.size w1 W) => trie_owned a n c l W ((hat1.below hb).up hb.size) hn)
      have Hse := Lib.hid (fun (W : World) (a3 : Option Addr) (c3 : Nat) (hat : NodesAt W W.heap.size a3 (Tr.owned l).length (Tr.owned l)) => trie_search a3 (Tr.owned l).length c3 (Tr.owned l) na nb W hat (by omega) hg hso hgx)
      have HPf := Lib.hid (fun k (hp : Place (Tr.owned l) (na, nb) k) (hk : k < (Tr.owned l).length) he => put_found (o := o) hso hp hk he)
      have HPn := Lib.hid (fun k (hp : Place (Tr.owned l) (na, nb) k) hno => put_new (o := o) hso hp hno)
      have HFin := Lib.hid (fun k A C nd (hP : PutSo (na, nb) o l k A C nd) => (show Tr.trie (A ++ Tr.newN (na, nb) o :: C) = Tr.trie (Tr.others (na, nb) l ++ [Tr.newN (na, nb) o]) ∧ (∀ y ∈ A ++ Tr.newN (na, nb) o :: C, Tr.good (Tr.nw y)) by
        have hgA : ∀ y ∈ A ++ Tr.newN (na, nb) o :: C, Tr.good (Tr.nw y) := fun y hy => by
          rcases List.mem_append.1 hy with hy | hy
          · exact og y (by rw [← hP.rest]; exact List.mem_append_left _ hy)
          · rcases List.mem_cons.1 hy with rfl | hy
            · exact hgx
            · exact og y (by rw [← hP.rest]; exact List.mem_append_right _ hy)
        exact ⟨by rw [← hP.rest]; exact Tr.put_perm hP.sorted hgA, hgA⟩))
      have hse := isEmpty_of_pos (show 0 < o.size by omega)
      clear h hf hfz hez hat1 hN1 hz ho Hr hg og hso hgx
      generalize Tr.trie (Tr.others (na, nb) l ++ [Tr.newN (na, nb) o]) = FIN at *
      go_enter Try.func17, Try.ntmps17
      go_wp2_with fail
      rw [← hw1]
      clear hw1
      refine H1.out.mono ?_
      rintro e w2 ⟨rfl, b2⟩
      have hsz2 := b2.size
      clear t0 t1 H1
      go_wp2_with fail
      refine (H2.out w2 b2).mono ?_
      rintro e w3 ⟨v3, rfl, o3, b3⟩
      have b3' := b2.trans (b3.mono hsz2)
      have hsz3 := b3'.size
      have hsz23 := b3.size
      obtain ⟨a3, c3, rfl, _, at3⟩ := o3.at
      obtain ⟨t0, t1⟩ := two_cells (HN1.out.below b3').own
      have HS := Lib.hid (Hse.out w3 a3 c3 at3)
      clear at3 H2 Hse
      go_wp2_with fail
      refine HS.out.mono ?_
      rintro e w4 ⟨⟨k, r, rfl, hp, hr⟩, b4⟩
      have b4' := b3'.trans (b4.mono hsz3)
      have hsz4 := b4'.size
      have hsz34 := b4.size
      have HO4 := Lib.hid (o3.below b4)
      have hlt3 := o3.lt
      have B24 : Below w2.heap.size w2 w4 := b3.trans (b4.mono hsz23)
      have HB24 := Lib.hid B24
      have hple := hp.le
      clear o3 t0 t1 HS B24
      cases r with
      | true =>
        obtain ⟨hk, he⟩ := hr.1 rfl
        have hP := HPf.out k hp hk he
        obtain ⟨q1, q2⟩ := HFin.out _ _ _ _ hP
        have hS : Tr.owned l = (Tr.owned l).take k ++ (Tr.owned l)[k] :: (Tr.owned l).drop (k + 1) := by rw [List.getElem_cons_drop, List.take_append_drop]
        obtain ⟨g, c9, hv9, hc9, hBg, hglt, hrow⟩ := HO4.out.row (by intro e; rw [e] at hk; simp at hk)
        injection hv9 with hv1 _ hv3
        subst hv1 hv3
        have hrow' := hrow
        rw [hS] at hrow'
        obtain ⟨m2, _, f2, _⟩ := row_node hrow'
        obtain ⟨p1, p2⟩ := OwnN.put2 hrow' o
        have hAl := hP.len
        rw [hAl] at m2 f2 p1 p2
        rw [hP.node] at p1
        have hO6 : OwnN (w4.setCell ⟨g, k * 4 + 2, none⟩ (.string o)) w2.heap.size (.slice (some ⟨g, 0, none⟩) ((Tr.owned l).take k ++ Tr.newN (na, nb) o :: (Tr.owned l).drop (k + 1)).length c3) ((Tr.owned l).take k ++ Tr.newN (na, nb) o :: (Tr.owned l).drop (k + 1)) := ⟨_, c3, rfl, p1⟩
        have hlen : ((Tr.owned l).take k ++ Tr.newN (na, nb) o :: (Tr.owned l).drop (k + 1)).length = (Tr.owned l).length := by rw [List.length_append, List.length_cons, List.length_take, List.length_drop]; omega
        have hB6 := HB24.out.trans (below_of_grown p2 (by omega) (fun q hq => by injection hq with hq; omega))
        have hcap := hO6.cap
        have HG := Lib.hid (trie_build (some ⟨g, 0, none⟩) _ c3 _ _ hO6.at'.2 hcap q2 hP.sorted (by rw [hlen]; omega))
        rw [hlen] at HG
        change Hid (Calls Try.prog 39 _ _ fun e w' => ∃ v', e = .returned v' ∧ OwnN w' _ v' (Tr.trie _) ∧ Below _ _ w') at HG
        rw [q1] at HG
        have Hb6 := Lib.hid hB6
        have hi1 : (k : Int) < ((Tr.owned l).length : Int) := by omega
        clear hS hrow hrow' p1 p2 hO6 hP q1 q2 hp hr he hAl hlen hcap hB6
        clear HPf HPn HFin
        go_wp2_with fail
        refine HG.out.mono ?_
        rintro e w7 ⟨v7, rfl, o7, b7⟩
        have hb7s : w.heap.size ≤ (w4.setCell ⟨g, k * 4 + 2, none⟩ (.string o)).heap.size := by simp; omega
        have B7 := hA.trans ((b2.trans ((Hb6.out.trans (b7.mono (by simp; omega))).mono hsz2)).mono (by omega))
        have HO7 := Lib.hid (o7.base hb7s)
        clear o7 b7 HG
        go_wp2
        go_ret2
        exact ⟨⟨_, rfl, HO7.out⟩, B7⟩
      | false =>
        have hP := HPn.out k hp (fun h => by have := hr.2 h; cases this)
        obtain ⟨q1, q2⟩ := HFin.out _ _ _ _ hP
        obtain ⟨t0, t1⟩ := two_cells (HN1.out.below b4').own
        have hnd : NodeIn (w4.alloc (.cells #[.int .u32 (na : Int), .int .i64 nb, .string ⟨#[]⟩, .int .i64 1] 56)) w4.heap.size ⟨na, nb, ⟨#[]⟩, 1⟩ := heap_alloc_last w4 _
        have HI := Lib.hid (nodes_Insert _ (Tr.owned l) k w4.heap.size ⟨na, nb, ⟨#[]⟩, 1⟩ _ w2.heap.size (HO4.out.alloc _) (by simp; omega) hple (by omega) hnd (fun e => by have := (HO4.out.lt _ e).2; omega))
        have HA4 := Lib.hid ((Below.refl w2.heap.size w4).alloc (show w2.heap.size ≤ w4.heap.size by omega) (.cells #[.int .u32 (na : Int), .int .i64 nb, .string ⟨#[]⟩, .int .i64 1] 56))
        have hAl := hP.len
        have HP := Lib.hid hP
        have Hq1 := Lib.hid q1
        have Hq2 := Lib.hid q2
        clear hp hr hnd hP q1 q2
        clear HPf HPn HFin
        go_wp2_with fail
        refine HI.out.mono ?_
        rintro e w5 ⟨v5, rfl, o5, b5⟩
        obtain ⟨g, c9, rfl, hc9, hBg, hglt, hrow⟩ := o5.row (by simp)
        obtain ⟨m2, _, f2, _⟩ := row_node hrow
        obtain ⟨p1, p2⟩ := OwnN.put2 hrow o
        rw [hAl] at m2 f2 p1 p2
        have hnode := HP.out.node
        change (⟨na, nb, o, 1⟩ : Tr.Node) = _ at hnode
        rw [hnode] at p1
        have hB5 : Below w2.heap.size w2 w5 := HB24.out.trans (HA4.out.trans b5)
        have hsz5 := hB5.size
        have hO6 : OwnN (w5.setCell ⟨g, k * 4 + 2, none⟩ (.string o)) w2.heap.size (.slice (some ⟨g, 0, none⟩) ((Tr.owned l).take k ++ Tr.newN (na, nb) o :: (Tr.owned l).drop k).length c9) ((Tr.owned l).take k ++ Tr.newN (na, nb) o :: (Tr.owned l).drop k) := ⟨_, c9, rfl, p1⟩
        have hlen : ((Tr.owned l).take k ++ Tr.newN (na, nb) o :: (Tr.owned l).drop k).length = ((Tr.owned l).take k ++ (⟨na, nb, ⟨#[]⟩, 1⟩ : Tr.Node) :: (Tr.owned l).drop k).length := by simp
        have hlen2 : ((Tr.owned l).take k ++ (⟨na, nb, ⟨#[]⟩, 1⟩ : Tr.Node) :: (Tr.owned l).drop k).length ≤ 141733920769 ∧ k < ((Tr.owned l).take k ++ (⟨na, nb, ⟨#[]⟩, 1⟩ : Tr.Node) :: (Tr.owned l).drop k).length := by
          have h9 : (Tr.owned l).length ≤ 141733920768 := by first | assumption | omega
          rw [List.length_append, List.length_cons, List.length_take, List.length_drop]
          rw [List.length_take] at hAl
          omega
        have hB6 := hB5.trans (below_of_grown p2 hsz5 (fun q hq => by injection hq with hq; omega))
        have hcap := hO6.cap
        have HG := Lib.hid (trie_build (some ⟨g, 0, none⟩) _ c9 _ _ hO6.at'.2 hcap Hq2.out HP.out.sorted (by rw [hlen]; omega))
        rw [hlen] at HG
        rw [Hq1.out] at HG
        have Hb6 := Lib.hid hB6
        generalize ((Tr.owned l).take k ++ (⟨na, nb, ⟨#[]⟩, 1⟩ : Tr.Node) :: (Tr.owned l).drop k).length = N5 at *
        have hi1 : (k : Int) < (N5 : Int) := by omega
        clear hrow p1 p2 hO6 hlen hcap hB6 hnode o5 b5 HI t0 t1
        go_wp2_with fail
        refine HG.out.mono ?_
        rintro e w7 ⟨v7, rfl, o7, b7⟩
        have hb7s : w.heap.size ≤ (w5.setCell ⟨g, k * 4 + 2, none⟩ (.string o)).heap.size := by simp; omega
        have B7 := hA.trans ((b2.trans ((Hb6.out.trans (b7.mono (by simp; omega))).mono hsz2)).mono (by omega))
        have HO7 := Lib.hid (o7.base hb7s)
        clear o7 b7 HG
        go_wp2
        go_ret2
        exact ⟨⟨_, rfl, HO7.out⟩, B7⟩
  · have Hr : Hid (Tr.pe (na, nb) o l = Tr.be (na, nb) l ∧ Tr.putL (na, nb) o l = []) := Lib.hid (by
      have e1 : Tr.pe (na, nb) o l = Tr.be (na, nb) l := by unfold Tr.pe; rw [if_neg hz]
      exact ⟨e1, by unfold Tr.putL; rw [e1, if_neg hz]⟩)
    rw [Hr.out.1, Hr.out.2]
    have hz' : ((Tr.be (na, nb) l : Int) != 0) = true := by simp; omega
    clear h hf hz hat1 hN1 Hr
    generalize Tr.be (na, nb) l = E at *
    go_enter Try.func17, Try.ntmps17
    go_wp2_with fail
    rw [← hw1]
    clear hw1
    refine H1.out.mono ?_
    rintro e w2 ⟨rfl, b2⟩
    have B2 := hA.trans (b2.mono (by omega))
    clear t0 t1 b2 H1
    go_wp2
    go_ret2
    exact ⟨⟨_, rfl, OwnN.nil _ _⟩, B2⟩
end Go.Proofs.Ytldfamdjdkaloaa

namespace Go.Proofs.Ytldfamdjdkaloaa
open Go.RowKit

namespace Tr
/-- The map of the first k raw things, as data. -/
noncomputable def mapD (l : List RawD) : Nat → DataW Unit
  | 0 => .map []
  | k + 1 => (mapD l k).put (netLit (rawN (l.getD k default))) (.lit (.string (rawO (l.getD k default)).data.toList))
end Tr
/-- Block b is the map after k rounds. -/
def MapK (l : List RawD) (b k : Nat) (W : World) : Prop := W.ownsMap Try.prog 28 (plainElem (H := Unit) Try.prog 9) b k (Tr.mapD l k)
theorem MapK.below {l : List RawD} {b k : Nat} {W W' : World} (h : MapK l b k W) (hb : Below W.heap.size W W') : MapK l b k W' :=
  World.ownsMap.kept (row := none) h ⟨hb.os, hb.tape, hb.output, hb.size, fun j hj _ => hb.block j hj⟩ (by simp)
open Classical in
theorem map_step (l : List RawD) (b k : Nat) (hk : k < 1000) (r : RawD) (hr : r = l.getD k default) : ∃ mf : World → World, ∀ W, MapK l b k W →
    (Instr.mapUpdate 43 (.map (some b)) (.agg #[.int .u32 ((Tr.rawN r).1 : Int), .int .i64 (Tr.rawN r).2]) (.string (Tr.rawO r))).run Try.prog W = .ok () (mf W) ∧ MapK l b (k + 1) (mf W) ∧ W.grownBy (mf W) (some b) := by
  subst hr
  have h0 : ∀ W, MapK l b k W → ∃ W', (Instr.mapUpdate 43 (.map (some b)) (.agg #[.int .u32 ((Tr.rawN (l.getD k default)).1 : Int), .int .i64 (Tr.rawN (l.getD k default)).2]) (.string (Tr.rawO (l.getD k default)))).run Try.prog W = .ok () W' ∧ MapK l b (k + 1) W' ∧ W.grownBy W' (some b) := fun W hW =>
    World.ownsMap.update (t := 43) (e := 9) hW net_law Try.underlying43 (Nat.lt_trans hk (by decide)) (net_key _ (Tr.rawN_good _)) (plainElem_string Try.underlying9 (by rw [Tr.rawO_size]; decide))
  refine ⟨fun W => if h : MapK l b k W then (h0 W h).choose else W, fun W hW => ?_⟩
  have := (h0 W hW).choose_spec
  simp only [dif_pos hW]
  exact this
theorem RawsAt.cells {w : World} {B n : Nat} {a : Option Addr} {l : List RawD} (h : RawsAt w B a n l) {k : Nat} (hk : k < n) : ∃ b off, a = some ⟨b, off, none⟩ ∧ b < B ∧ w.cell? ⟨b, off + k * 4, none⟩ = some (.int .i64 (l.getD k default).k) ∧ w.cell? ⟨b, off + k * 4 + 1, none⟩ = some (.int .i64 (l.getD k default).a) ∧ w.cell? ⟨b, off + k * 4 + 2, none⟩ = some (.int .i64 (l.getD k default).b) ∧ w.cell? ⟨b, off + k * 4 + 3, none⟩ = some (.string (l.getD k default).s) := by
  obtain ⟨b, off, e, hlt, hc⟩ := h.2 (by omega)
  have hk' : k < l.length := by rw [h.1]; exact hk
  have := hc k hk'
  rw [List.getD_eq_getElem?_getD, List.getElem?_eq_getElem hk']
  exact ⟨b, off, e, hlt, this⟩
theorem raw_ok {l : List RawD} (h : ∀ r ∈ l, r.ok) (k : Nat) : (l.getD k default).ok := by
  rw [List.getD_eq_getElem?_getD]
  by_cases hk : k < l.length
  · rw [List.getElem?_eq_getElem hk]; exact h _ (List.getElem_mem hk)
  · rw [List.getElem?_eq_none (by omega)]
    exact ⟨by decide, by decide, by decide⟩
/-- The network "everywhere" with the owner "x", alone. -/
theorem one_x : Tr.pe (0, 0) ⟨#[120]⟩ [] = 0 ∧ Tr.putL (0, 0) ⟨#[120]⟩ [] = [⟨0, 0, ⟨#[120]⟩, 1⟩] := by
  have hg : Tr.good (0, 0) := ⟨by decide, by decide⟩
  obtain ⟨h1, h2, _⟩ := Tr.put_fits (x := (0, 0)) (o := ⟨#[120]⟩) Tr.fit_nil Tr.fault_nil hg (by decide)
  refine ⟨h1, h2.trans ?_⟩
  have e : Tr.others (0, 0) [] ++ [Tr.newN (0, 0) ⟨#[120]⟩] = [⟨0, 0, ⟨#[120]⟩, 1⟩] := rfl
  rw [e]
  show Tr.grown 33 [⟨0, 0, ⟨#[120]⟩, 1⟩] = _
  rfl
end Go.Proofs.Ytldfamdjdkaloaa

namespace Go.Proofs.Ytldfamdjdkaloaa
open Go.RowKit

/-- What stands behind k rounds. -/
def Built (w : World) (l : List RawD) (mb k : Nat) (v : Value) (wr : World) : Prop :=
  OwnN wr w.heap.size v (Tr.tree l k) ∧ MapK l mb k wr ∧ Below w.heap.size w wr

theorem Built.move {w wr w8 : World} {l : List RawD} {mb k : Nat} {v : Value} (h : Built w l mb k v wr) (hA : Below wr.heap.size wr w8) : Built w l mb k v w8 := ⟨h.1.below hA, h.2.1.below hA, h.2.2.trans (hA.mono h.2.2.size)⟩
set_option maxRecDepth 20000 in
set_option maxHeartbeats 8000000 in
theorem keep_treeOf (a : Option Addr) (n c : Nat) (l : List RawD) (w : World) (h : RawsAt w w.heap.size a n l) (hok : ∀ r ∈ l, r.ok) :
    Calls Try.prog 30 #[.slice a n c] w fun e w' => ∃ v mb, e = .returned (.tuple #[v, .map (some mb), .bool true]) ∧ Built w l mb (min n 16) v w' ∧ w.heap.size ≤ mb := by
  obtain ⟨w0, hw0⟩ : ∃ w0, w0 = w.alloc (.map #[] 0) := ⟨_, rfl⟩
  have hA : Below w.heap.size w w0 := by rw [hw0]; exact (Below.refl _ _).alloc (Nat.le_refl _) _
  have hM0 : MapK l w.heap.size 0 w0 := by rw [hw0]; exact World.ownsMap_made w Try.prog 28 _
  have hz0 : w0.heap.size = w.heap.size + 1 := by rw [hw0]; simp
  have Hb := Lib.hid h
  have Hok := Lib.hid hok
  have HW := Lib.hid hw0
  obtain ⟨mb, hmb⟩ : ∃ mb, mb = w.heap.size := ⟨_, rfl⟩
  have Hmb := Lib.hid hmb
  rw [← hmb] at hM0
  have HB0 : Hid (Built w l mb 0 (.slice none 0 0) w0) := Lib.hid ⟨OwnN.nil _ _, hM0, hA⟩
  have hmk := fun W => run_makeMap (P := Try.prog) 43 W
  clear h hok hA hM0 hw0 hmb hz0
  go_enter Try.func30, Try.ntmps30
  go_upto_region 3 with fail
  rw [← HW.out, ← Hmb.out]
  go_wp2
  go_loopw [5, 16] (fun vt vi wr => ∃ k : Nat, k ≤ n ∧ k ≤ 16 ∧ vi = .int .i64 (k : Int) ∧ Hid (Built w l mb k vt wr)) (fun _ vi _ => n - (intOf vi).toNat)
  case atStart => exact ⟨0, Nat.zero_le _, by omega, rfl, HB0⟩
  case round =>
    clear HB0
    obtain ⟨k, hkn, hk16, rfl, HB⟩ := hrel
    by_cases hlt : k < n
    · by_cases h15 : 15 < k
      · obtain rfl : k = 16 := by omega
        have hraws := Hb.out.below HB.out.2.2
        obtain ⟨rb, roff, rfl, hrb, x0, x1, x2, x3⟩ := hraws.cells hlt
        generalize l.getD 16 default = r at *
        obtain ⟨rk, ra, rr, rs⟩ := r
        obtain ⟨w8, hw8⟩ : ∃ w8, w8 = wr.alloc (.cells #[.int .i64 rk, .int .i64 ra, .int .i64 rr, .string rs] 48) := ⟨_, rfl⟩
        have hA8 : Below wr.heap.size wr w8 := by rw [hw8]; exact (Below.refl _ _).alloc (Nat.le_refl _) _
        have HBw := Lib.hid (HB.out.move hA8)
        rw [show 16 = min n 16 from (Nat.min_eq_right (by omega)).symm] at HBw
        have hn16 : (16 : Int) < (n : Int) := by omega
        have HW8 := Lib.hid hw8
        rw [show ((16 : Nat) : Int) = (16 : Int) from rfl]
        clear hraws hA8 hw8 HB
        go_upto_region 13 with fail
        rw [← HW8.out]
        have HP := trie_Put none 0 0 [] 0 0 ⟨#[120]⟩ w8 ⟨rfl, fun h => absurd h (by omega)⟩ Tr.fit_nil (by decide) (by decide) (by decide) (by decide)
        rw [one_x.1, one_x.2, show ((0 : Nat) : Int) = (0 : Int) from rfl] at HP
        have HPp := Lib.hid HP
        clear HP
        go_wp2_with fail
        refine HPp.out.mono ?_
        rintro e w9 ⟨⟨v9, rfl, ho9⟩, hb9⟩
        obtain ⟨xa, xc, e9, _, hn9⟩ := ho9.at
        change v9 = .slice xa 1 xc at e9
        change NodesAt w9 w9.heap.size xa 1 _ at hn9
        subst e9
        obtain ⟨gb, goff, rfl, _, hc9⟩ := hn9.2 (by decide)
        have hx9 : w9.cell? ⟨gb, goff + 2, none⟩ = some (.string ⟨#[120]⟩) := by have := (hc9 0 (by decide)).2.2.1; simpa using this
        have HBf := Lib.hid (HBw.out.move hb9)
        clear ho9 hb9 hn9 hc9
        go_upto_region 14 with fail
        go_quiet (fail)
        go_wp2
        go_ret3
        exact ⟨_, mb, rfl, HBf.out.move (belowDrewN (Below.refl _ w9) _), by rw [Hmb.out]; exact Nat.le_refl _⟩
      · have hdi : decide ((15 : Int) < (k : Int)) = false := by simp; omega
        have hraws := Hb.out.below HB.out.2.2
        obtain ⟨rb, roff, rfl, hrb, x0, x1, x2, x3⟩ := hraws.cells hlt
        have hrok := raw_ok Hok.out k
        obtain ⟨mf, HM⟩ := map_step l mb k (by omega) _ rfl
        have hT : Tr.tree l (k + 1) = Tr.putL (Tr.rawN (l.getD k default)) (Tr.rawO (l.getD k default)) (Tr.tree l k) := rfl
        obtain ⟨i1, i2, i3, i4⟩ := Tr.tree_inv l k
        obtain ⟨j1, j2, j3, j4⟩ := Tr.tree_inv l (k + 1)
        generalize l.getD k default = r at *
        obtain ⟨rk, ra, rr, rs⟩ := r
        obtain ⟨⟨k0, k1⟩, ⟨a0, a1⟩, b0, b1⟩ := hrok
        have hN : Tr.rawN ⟨rk, ra, rr, rs⟩ = (Nt.rawA rk ra rr, (Nt.rawB rk ra rr : Int)) := rfl
        have hgood := Tr.rawN_good ⟨rk, ra, rr, rs⟩
        have hO : Tr.rawO ⟨rk, ra, rr, rs⟩ = keyOf (pick rr 8) := rfl
        have hos : 0 < (Tr.rawO ⟨rk, ra, rr, rs⟩).size := by rw [Tr.rawO_size]; decide
        have hpe := (Tr.put_fits i2 i1 hgood hos).1
        rw [hN, hO] at HM hT hpe
        dsimp only at HM
        have hga : Nt.rawA rk ra rr < 4294967296 := (raw_good rk ra rr).1
        have hgb : Nt.rawB rk ra rr ≤ 32 := (raw_good rk ra rr).2.1
        obtain ⟨ta, tc, rfl, _, hnodes⟩ := HB.out.1.at
        obtain ⟨w8, hw8⟩ : ∃ w8, w8 = wr.alloc (.cells #[.int .i64 rk, .int .i64 ra, .int .i64 rr, .string rs] 48) := ⟨_, rfl⟩
        have hA8 : Below wr.heap.size wr w8 := by rw [hw8]; exact (Below.refl _ _).alloc (Nat.le_refl _) _
        have hP8 : w8.heap[wr.heap.size]? = some (.cells #[.int .i64 rk, .int .i64 ra, .int .i64 rr, .string rs] 48 (0, 0)) := by rw [hw8]; exact heap_alloc_last wr _
        have hz8 : wr.heap.size < w8.heap.size := by rw [hw8]; simp
        have HS : Hid (∀ W, Below w8.heap.size w8 W → (W.cell? ⟨wr.heap.size, 0, none⟩ = some (.int .i64 rk) ∧ W.cell? ⟨wr.heap.size, 1, none⟩ = some (.int .i64 ra) ∧ W.cell? ⟨wr.heap.size, 2, none⟩ = some (.int .i64 rr) ∧ W.cell? ⟨wr.heap.size, 3, none⟩ = some (.string rs) ∧ Below w8.heap.size w8 W)) := Lib.hid (fun W hW => by
          have h := (hW.block _ hz8).trans hP8
          refine ⟨?_, ?_, ?_, ?_, hW⟩ <;> rw [cell_of_row _ _ _ _ _ _ h] <;> rfl)
        have HNet : Hid (∀ W, Below w8.heap.size w8 W → Calls Try.prog 31 #[.agg #[.int .i64 rk, .int .i64 ra, .int .i64 rr, .string rs]] W fun e w' => e = .returned (.agg #[.int .u32 (Nt.rawA rk ra rr : Int), .int .i64 (Nt.rawB rk ra rr : Int)]) ∧ Below W.heap.size W w' ∧ Below w8.heap.size w8 w') := Lib.hid (fun W hW =>
          (keep_Net rk ra rr rs W k0 k1 a0 a1 b0 b1).mono fun e w' ⟨he, hb⟩ => ⟨he, hb, hW.trans (hb.mono hW.size)⟩)
        have HKey : Hid (∀ W, Below w8.heap.size w8 W → Calls Try.prog 33 #[.int .i64 rr] W fun e w' => e = .returned (.string (keyOf (pick rr 8))) ∧ Below W.heap.size W w' ∧ Below w8.heap.size w8 w') := Lib.hid (fun W hW =>
          (keep_Key rr W b0 b1).mono fun e w' ⟨he, hb⟩ => ⟨he, hb, hW.trans (hb.mono hW.size)⟩)
        have HPut : Hid (∀ W, Below w8.heap.size w8 W → Calls Try.prog 17 #[.slice ta (Tr.tree l k).length tc, .agg #[.int .u32 (Nt.rawA rk ra rr : Int), .int .i64 (Nt.rawB rk ra rr : Int)], .string (keyOf (pick rr 8))] W fun e w' => ∃ v', e = .returned (.tuple #[v', .int .i64 0]) ∧ Hid (OwnN w' w8.heap.size v' (Tr.tree l (k + 1))) ∧ Below w8.heap.size w8 w') := Lib.hid (fun W hW => by
          have hbW := hA8.trans (hW.mono (Nat.le_of_lt hz8))
          refine (trie_Put ta _ tc (Tr.tree l k) (Nt.rawA rk ra rr) (Nt.rawB rk ra rr : Int) (keyOf (pick rr 8)) W ((hnodes.below hbW).up hbW.size) i2 (by omega) hga (by omega) (by omega)).mono ?_
          rintro e w' ⟨⟨v', rfl, ho⟩, hb⟩
          rw [hpe]
          rw [← hT] at ho
          exact ⟨v', rfl, Lib.hid (ho.base hW.size), hW.trans (hb.mono hW.size)⟩)
        have HMk := Lib.hid (HB.out.2.1.below hA8)
        have Hbw := Lib.hid (HB.out.2.2.trans (hA8.mono HB.out.2.2.size))
        have HHM := Lib.hid HM
        have HW8 := Lib.hid hw8
        have hD0 : Below w8.heap.size w8 w8.drew := (Below.refl _ _).drew
        have hS0 := HS.out _ hD0
        have hmsz := HB.out.2.2.size
        have hTl := j4
        generalize Nt.rawA rk ra rr = nx at *
        generalize (Nt.rawB rk ra rr : Int) = ny at *
        generalize keyOf (pick rr 8) = ow at *
        clear hraws hnodes HM hT i1 i2 i3 i4 hN hgood hO hos hpe hga hgb hA8 hP8 hw8
        go_upto_region 7 with fail
        rw [← HW8.out]
        go_region_held3 (fun W => W.cell? ⟨wr.heap.size, 0, none⟩ = some (.int .i64 rk) ∧ W.cell? ⟨wr.heap.size, 1, none⟩ = some (.int .i64 ra) ∧ W.cell? ⟨wr.heap.size, 2, none⟩ = some (.int .i64 rr) ∧ W.cell? ⟨wr.heap.size, 3, none⟩ = some (.string rs) ∧ Below w8.heap.size w8 W) (first | assumption)
          (first
            | (go_at_call 31; refine (HNet.out _ (by assumption)).mono ?_; rintro e w2 ⟨rfl, _, hb2⟩; have hs2 := HS.out _ hb2)
            | (go_at_call 33; refine (HKey.out _ (by assumption)).mono ?_; rintro e w3 ⟨rfl, _, hb3⟩; have hs3 := HS.out _ hb3)
            | (go_at_call 17; refine (HPut.out _ (by assumption)).mono ?_; rintro e w4 ⟨v4, rfl, ho4, hb4⟩; have hs4 := HS.out _ hb4))
        obtain ⟨xa, xc, rfl, _, hn4⟩ := ho4.out.at
        have HCk := Lib.hid (trie_Check xa _ xc (Tr.tree l (k + 1)) w4 hn4 j2 (by omega))
        rw [j1] at HCk
        have Hb4 := Lib.hid hb4
        clear hb2 hs2 hb3 hs3 hs4 hS0 hD0 hn4
        go_wp2_with fail
        refine HCk.out.mono ?_
        rintro e w5 ⟨rfl, hb5⟩
        have hb85 := Hb4.out.trans (hb5.mono Hb4.out.size)
        have Ho5 := Lib.hid (ho4.out.below hb5)
        clear hb5 ho4 HCk
        have hS4 : Hid (∀ W, Below w8.heap.size w8 W → (W.cell? ⟨wr.heap.size, 0, none⟩ = some (.int .i64 rk) ∧ W.cell? ⟨wr.heap.size, 1, none⟩ = some (.int .i64 ra) ∧ W.cell? ⟨wr.heap.size, 2, none⟩ = some (.int .i64 rr) ∧ W.cell? ⟨wr.heap.size, 3, none⟩ = some (.string rs))) := Lib.hid (fun W hW => ⟨(HS.out W hW).1, (HS.out W hW).2.1, (HS.out W hW).2.2.1, (HS.out W hW).2.2.2.1⟩)
        have hmbw : mb < wr.heap.size := by have := Hmb.out; have := HB.out.2.1.lt; omega
        have hSM : Hid (∀ W, (W.cell? ⟨wr.heap.size, 0, none⟩ = some (.int .i64 rk) ∧ W.cell? ⟨wr.heap.size, 1, none⟩ = some (.int .i64 ra) ∧ W.cell? ⟨wr.heap.size, 2, none⟩ = some (.int .i64 rr) ∧ W.cell? ⟨wr.heap.size, 3, none⟩ = some (.string rs)) → MapK l mb k W → ((mf W).cell? ⟨wr.heap.size, 0, none⟩ = some (.int .i64 rk) ∧ (mf W).cell? ⟨wr.heap.size, 1, none⟩ = some (.int .i64 ra) ∧ (mf W).cell? ⟨wr.heap.size, 2, none⟩ = some (.int .i64 rr) ∧ (mf W).cell? ⟨wr.heap.size, 3, none⟩ = some (.string rs))) := Lib.hid (fun W h hm => by
          have hg := (HHM.out W hm).2.2
          have hcell : ∀ i v, W.cell? ⟨wr.heap.size, i, none⟩ = some v → (mf W).cell? ⟨wr.heap.size, i, none⟩ = some v := fun i v hv => by
            rw [World.cell?_of_block (w := W) (hg.block wr.heap.size (by have := lt_of_cell hv; exact this) (fun e => by injection e with e; omega))]
            exact hv
          exact ⟨hcell _ _ h.1, hcell _ _ h.2.1, hcell _ _ h.2.2.1, hcell _ _ h.2.2.2⟩)
        have hMU : ∀ W, MapK l mb k W → (Instr.mapUpdate 43 (.map (some mb)) (.agg #[.int .u32 (nx : Int), .int .i64 ny]) (.string ow)).run Try.prog W = .ok () (mf W) := fun W hm => (HHM.out W hm).1
        have hD5 : Below w8.heap.size w8 w5.drew := hb85.drew
        have hS5 := hS4.out _ hD5
        have hM5 := HMk.out.below hD5
        go_upto_region 11 with fail
        go_region_held3 (fun W => W.cell? ⟨wr.heap.size, 0, none⟩ = some (.int .i64 rk) ∧ W.cell? ⟨wr.heap.size, 1, none⟩ = some (.int .i64 ra) ∧ W.cell? ⟨wr.heap.size, 2, none⟩ = some (.int .i64 rr) ∧ W.cell? ⟨wr.heap.size, 3, none⟩ = some (.string rs)) (first | assumption | (exact hSM.out _ (by assumption) (by assumption)))
          (first
            | (go_at_call 31; refine (HNet.out _ (by assumption)).mono ?_; rintro e w6 ⟨rfl, hc6, hb6⟩; have hs6 := hS4.out _ hb6; have hm6 := HMk.out.below hb6)
            | (go_at_call 33; refine (HKey.out _ (by assumption)).mono ?_; rintro e w7 ⟨rfl, hc7, hb7⟩; have hs7 := hS4.out _ hb7; have hm7 := HMk.out.below hb7))
        have HF := HHM.out w7 hm7
        have hb07 := Hbw.out.trans (hb7.mono Hbw.out.size)
        have HBk : Hid (Built w l mb (k + 1) (.slice xa (Tr.tree l (k + 1)).length xc) (mf w7)) := Lib.hid (by
          refine ⟨?_, HF.2.1, hb07.grown HF.2.2 hb07.size (fun j hj => by injection hj with hj; have := Hmb.out; omega)⟩
          have ho7 := ((Ho5.out.below (Below.refl _ w5).drew).below hc6).below hc7
          obtain ⟨xa', xc', e', ho⟩ := ho7
          refine OwnN.base (B := w8.heap.size) ⟨xa', xc', e', ho.kept HF.2.2 ?_⟩ (by have := Hbw.out.size; omega)
          cases hbk : (Value.slice xa' (Tr.tree l (k + 1)).length xc').ownBlock with
          | none => exact .inl rfl
          | some j => exact .inr (fun e => by injection e with e; have := (ho.lt j hbk).1; omega))
        clear HF hb07 hc6 hc7 hb6 hb7 hs6 hs7 hm6 hm7 hMU hD5 hS5 hM5 hb85
        go_wp2_with fail
        go_roundw
        case rel => exact ⟨k + 1, by omega, by omega, by go_num, HBk⟩
        case measure => simp [intOf]; omega
    · obtain rfl : k = n := by omega
      have HBw := HB
      rw [show Built w l mb k = Built w l mb (min k 16) by rw [Nat.min_eq_left (by omega)]] at HBw
      clear HB
      go_upto_region 13 with fail
      have HP := trie_Put none 0 0 [] 0 0 ⟨#[120]⟩ wr ⟨rfl, fun h => absurd h (by omega)⟩ Tr.fit_nil (by decide) (by decide) (by decide) (by decide)
      rw [one_x.1, one_x.2, show ((0 : Nat) : Int) = (0 : Int) from rfl] at HP
      have HPp := Lib.hid HP
      clear HP
      go_wp2_with fail
      refine HPp.out.mono ?_
      rintro e w9 ⟨⟨v9, rfl, ho9⟩, hb9⟩
      obtain ⟨xa, xc, e9, _, hn9⟩ := ho9.at
      change v9 = .slice xa 1 xc at e9
      change NodesAt w9 w9.heap.size xa 1 _ at hn9
      subst e9
      obtain ⟨gb, goff, rfl, _, hc9⟩ := hn9.2 (by decide)
      have hx9 : w9.cell? ⟨gb, goff + 2, none⟩ = some (.string ⟨#[120]⟩) := by have := (hc9 0 (by decide)).2.2.1; simpa using this
      have HBf := Lib.hid (HBw.out.move hb9)
      clear ho9 hb9 hn9 hc9
      go_upto_region 14 with fail
      go_quiet (fail)
      go_wp2
      go_ret3
      exact ⟨_, mb, rfl, HBf.out.move (belowDrewN (Below.refl _ w9) _), by rw [Hmb.out]; exact Nat.le_refl _⟩
end Go.Proofs.Ytldfamdjdkaloaa

namespace Go.Proofs.Ytldfamdjdkaloaa
open Go.RowKit

namespace Tr
def litOf (n : Node) : Lit := netLit (nw n)
theorem netLit_inj {x y : Nw} (hx : good x) (hy : good y) (h : netLit x = netLit y) : x = y := by
  have h1 := net_key x hx
  have h2 := net_key y hy
  rw [← h] at h2
  have e := net_law.inj h1 h2
  unfold netV at e
  have e2 := congrArg (fun v => match v with | .agg xs => xs.toList | _ => []) e
  simp only [List.cons.injEq, Value.int.injEq, true_and, and_true] at e2
  exact Prod.ext (by omega) e2.2
theorem netLit_key (x : Nw) : WideAt.IsKeyLit (netLit x) := trivial
/-- The map after k rounds: a list whose keys are the networks of the trie. -/
theorem mapD_keys (l : List RawD) : ∀ k, ∃ L : List (Lit × DataW Unit), mapD l k = .map L ∧ (L.map (·.1)).Perm ((owned (tree l k)).map litOf)
  | 0 => ⟨[], rfl, by show List.Perm [] _; exact List.Perm.refl _⟩
  | k + 1 => by
    obtain ⟨L, hL, hp⟩ := mapD_keys l k
    obtain ⟨i1, i2, _, _⟩ := tree_inv l k
    have hg := rawN_good (l.getD k default)
    have ho : 0 < (rawO (l.getD k default)).size := by rw [rawO_size]; decide
    obtain ⟨_, _, _, hpo, _⟩ := put_fits i2 i1 hg ho
    obtain ⟨_, hgo, _, _, _⟩ := fault_facts i2 i1
    refine ⟨ChangeMaps.putKey (netLit (rawN (l.getD k default))) (.lit (.string (rawO (l.getD k default)).data.toList)) L, ?_, ?_⟩
    · show (mapD l k).put _ _ = _
      rw [hL, DataW.put_eq]
    · show List.Perm _ ((owned (putL (rawN (l.getD k default)) (rawO (l.getD k default)) (tree l k))).map litOf)
      generalize l.getD k default = r at *
      refine List.Perm.trans ?_ (hpo.map litOf).symm
      rw [List.map_append]
      unfold ChangeMaps.putKey
      refine ((WideShapes.insert_perm _ _).map (·.1)).trans ?_
      show List.Perm (netLit (rawN r) :: (L.filter (ChangeMaps.notKey (netLit (rawN r)))).map (·.1)) ((others (rawN r) (tree l k)).map litOf ++ [netLit (rawN r)])
      refine List.Perm.trans (List.Perm.cons _ ?_) (List.perm_append_singleton _ _).symm
      have e1 : (L.filter (ChangeMaps.notKey (netLit (rawN r)))).map (·.1) = (L.map (·.1)).filter fun q => !q.sameKey (netLit (rawN r)) := by
        rw [List.filter_map]
        rfl
      rw [e1]
      have e2 : (others (rawN r) (tree l k)).map litOf = ((owned (tree l k)).map litOf).filter fun q => !q.sameKey (netLit (rawN r)) := by
        unfold others
        rw [List.filter_map]
        congr 1
        apply List.filter_congr
        intro n hn
        have hgn := hgo n hn
        by_cases hq : nw n = rawN r
        · have : (litOf n).sameKey (netLit (rawN r)) = true := by unfold litOf; rw [hq]; exact WideAt.sameKey_self (netLit_key _)
          simp [hq, this]
        · have : (litOf n).sameKey (netLit (rawN r)) = false := by
            cases hb : (litOf n).sameKey (netLit (rawN r))
            · rfl
            · exact absurd (netLit_inj hgn hg (WideAt.sameKey_eq hb)) hq
          simp [hq, this]
      rw [e2]
      exact hp.filter _
theorem mapD_length (l : List RawD) (k : Nat) : ∃ L : List (Lit × DataW Unit), mapD l k = .map L ∧ L.length = (owned (tree l k)).length := by
  obtain ⟨L, h1, h2⟩ := mapD_keys l k
  exact ⟨L, h1, by have := h2.length_eq; simpa using this⟩
/-- Fewer than twice as many nodes as networks. -/
theorem tree_small (l : List RawD) (k : Nat) : (tree l k = [] ∧ owned (tree l k) = []) ∨ (0 < (owned (tree l k)).length ∧ (tree l k).length + 1 ≤ 2 * (owned (tree l k)).length ∧ (owned (tree l k)).length ≤ (tree l k).length) := by
  cases k with
  | zero => exact .inl ⟨rfl, rfl⟩
  | succ k =>
    obtain ⟨i1, i2, _, _⟩ := tree_inv l k
    have hg := rawN_good (l.getD k default)
    have ho : 0 < (rawO (l.getD k default)).size := by rw [rawO_size]; decide
    obtain ⟨_, he, _, hpo, _⟩ := put_fits i2 i1 hg ho
    obtain ⟨_, hgo, hso, _, _⟩ := fault_facts i2 i1
    obtain ⟨og, _, _, _, _⟩ := others_facts (x := rawN (l.getD k default)) hgo hso
    have hs := grown_small 33 (others (rawN (l.getD k default)) (tree l k) ++ [newN (rawN (l.getD k default)) (rawO (l.getD k default))]) (new_good hg og) (by simp)
    have hl := hpo.length_eq
    refine .inr ⟨?_, ?_, ?_⟩
    · show 0 < (owned (putL _ _ _)).length
      rw [hl]; simp
    · show (putL _ _ _).length + 1 ≤ 2 * (owned (putL _ _ _)).length
      rw [hl, he]; exact hs
    · unfold owned
      rw [List.length_map]
      exact List.length_filter_le _ _
end Tr
/-- len(m). -/
theorem map_len {l : List RawD} {b k : Nat} {W : World} (h : MapK l b k W) (ty : TypeId) : (Builtin.len_ #[43] ty #[.map (some b)]).run Try.prog W = .ok (.int .i64 ((Tr.owned (Tr.tree l k)).length : Int)) W := by
  obtain ⟨es, clock, hb, F, hs, hD⟩ := h
  obtain ⟨L, hL, hlen⟩ := Tr.mapD_length l k
  rw [hL] at hD
  have hD := DataW.map.inj hD
  have e : es.size = (Tr.owned (Tr.tree l k)).length := by rw [← hlen, hD, Go.length_sorted]; simp
  simp [Builtin.len_, run_underlying Try.underlying43, MapKept.run_getObj_map hb, goInt, e, Result.andThen]
end Go.Proofs.Ytldfamdjdkaloaa

namespace Go.Proofs.Ytldfamdjdkaloaa
open Go.RowKit

namespace Tr
theorem sorted_ext : ∀ {l m : List Node}, sorted l → sorted m → (∀ x, x ∈ l ↔ x ∈ m) → l = m
  | [], [], _, _, _ => rfl
  | [], y :: m, _, _, h => absurd ((h y).2 (by simp)) (by simp)
  | x :: l, [], _, _, h => absurd ((h x).1 (by simp)) (by simp)
  | x :: l, y :: m, hl, hm, h => by
    obtain ⟨hl1, hl2⟩ := List.pairwise_cons.1 hl
    obtain ⟨hm1, hm2⟩ := List.pairwise_cons.1 hm
    have hxy : x = y := by
      rcases List.mem_cons.1 ((h x).1 (by simp)) with e | e
      · exact e
      · rcases List.mem_cons.1 ((h y).2 (by simp)) with e2 | e2
        · exact e2.symm
        · exact absurd (hl1 y e2) (lt_asymm (hm1 x e))
    subst hxy
    have ht : ∀ z, z ∈ l ↔ z ∈ m := fun z => by
      constructor
      · intro hz
        rcases List.mem_cons.1 ((h z).1 (List.mem_cons_of_mem _ hz)) with e | e
        · subst e; exact absurd (hl1 z hz) (lt_irrefl _)
        · exact e
      · intro hz
        rcases List.mem_cons.1 ((h z).2 (List.mem_cons_of_mem _ hz)) with e | e
        · subst e; exact absurd (hm1 z hz) (lt_irrefl _)
        · exact e
    rw [sorted_ext hl2 hm2 ht]
theorem fault_fits {l : List Node} (hl : fault l = 0) : Fits l := by
  unfold fault at hl
  by_cases h : errs l = 0
  · rw [if_pos h] at hl
    by_cases h2 : Fits l
    · exact h2
    · rw [if_neg h2] at hl; cases hl
  · rw [if_neg h] at hl; exact absurd hl h
/-- Two tries that own the same nodes are one. -/
theorem trie_ext {l m : List Node} (hl : fault l = 0) (hm : fault m = 0) (fl : fit l) (fm : fit m) (h : ∀ x, x ∈ owned l ↔ x ∈ owned m) : l = m := by
  obtain ⟨_, _, sl, _, _⟩ := fault_facts fl hl
  obtain ⟨_, _, sm, _, _⟩ := fault_facts fm hm
  rw [← (fault_fits hl).2, ← (fault_fits hm).2, sorted_ext sl sm h]

/-- The trie of the first k of some networks, all of one owner. -/
noncomputable def seqT (f : Nat → Nw) (o : ByteArray) : Nat → List Node
  | 0 => []
  | k + 1 => putL (f k) o (seqT f o k)
theorem seq_inv (f : Nat → Nw) (o : ByteArray) (hf : ∀ k, good (f k)) (ho : 0 < o.size) : ∀ k, fault (seqT f o k) = 0 ∧ fit (seqT f o k) ∧ (owned (seqT f o k)).length ≤ k ∧ (seqT f o k).length ≤ 2 * (owned (seqT f o k)).length ∧
    (∀ x, x ∈ owned (seqT f o k) ↔ ∃ i, i < k ∧ x = newN (f i) o)
  | 0 => ⟨fault_nil, fit_nil, Nat.le_refl _, Nat.zero_le _, fun x => ⟨fun h => (by cases h), fun ⟨i, hi, _⟩ => absurd hi (Nat.not_lt_zero i)⟩⟩
  | k + 1 => by
    obtain ⟨h1, h2, h3, _, h5⟩ := seq_inv f o hf ho k
    obtain ⟨_, _, h4, hp, h6⟩ := put_fits h2 h1 (hf k) ho
    obtain ⟨h7, h8⟩ := put_len h2 h1 (hf k) ho
    refine ⟨h4, h6, ?_, h7, fun x => ?_⟩
    · show (owned (putL _ _ _)).length ≤ _
      rw [h8]
      have : (others (f k) (seqT f o k)).length ≤ (owned (seqT f o k)).length := List.length_filter_le _ _
      omega
    · show x ∈ owned (putL (f k) o (seqT f o k)) ↔ _
      rw [hp.mem_iff, List.mem_append, List.mem_singleton]
      constructor
      · rintro (hx | hx)
        · obtain ⟨i, hi, e⟩ := (h5 x).1 (List.mem_filter.1 hx).1
          exact ⟨i, by omega, e⟩
        · exact ⟨k, by omega, hx⟩
      · rintro ⟨i, hi, e⟩
        by_cases hx : nw x = f k
        · right
          rw [e] at hx ⊢
          have : f i = f k := hx
          rw [this]
        · left
          refine List.mem_filter.2 ⟨(h5 x).2 ⟨i, ?_, e⟩, by simpa using hx⟩
          by_cases hik : i = k
          · subst hik; rw [e] at hx; exact absurd rfl hx
          · omega
/-- In whatever order the networks are put in. -/
theorem seq_turned (f : Nat → Nw) (o : ByteArray) (hf : ∀ k, good (f k)) (ho : 0 < o.size) (m : Nat) : seqT f o m = seqT (fun i => f (m - 1 - i)) o m := by
  obtain ⟨a1, a2, _, _, a5⟩ := seq_inv f o hf ho m
  obtain ⟨b1, b2, _, _, b5⟩ := seq_inv (fun i => f (m - 1 - i)) o (fun k => hf _) ho m
  refine trie_ext a1 b1 a2 b2 fun x => ?_
  rw [a5, b5]
  constructor
  · rintro ⟨i, hi, e⟩
    exact ⟨m - 1 - i, by omega, by rw [show m - 1 - (m - 1 - i) = i by omega]; exact e⟩
  · rintro ⟨i, hi, e⟩
    exact ⟨m - 1 - i, by omega, e⟩
end Tr
end Go.Proofs.Ytldfamdjdkaloaa

namespace Go.Proofs.Ytldfamdjdkaloaa
open Go.RowKit

set_option maxRecDepth 20000 in
set_option maxHeartbeats 1600000 in
theorem ref_TrieGet (a : Option Addr) (n c : Nat) (l : List Tr.Node) (na : Nat) (nb : Int) (w : World) (h : NodesAt w w.heap.size a n l) (hf : Tr.fit l) (hn : n ≤ 3518437208780) (ha : na < 4294967296) :
    Calls Try.prog 22 #[.slice a n c, .agg #[.int .u32 (na : Int), .int .i64 nb]] w fun e w' => e = .returned (.tuple #[.string (Tr.go (na, nb) l), .int .i64 (Tr.ge (na, nb) l : Int)]) ∧ Below w.heap.size w w' := by
  obtain ⟨w1, hw1⟩ : ∃ w1, w1 = w.alloc (.cells #[.int .u32 (na : Int), .int .i64 nb] 28) := ⟨_, rfl⟩
  have hA : Below w.heap.size w w1 := by rw [hw1]; exact (Below.refl _ _).alloc (Nat.le_refl _) _
  have hz1 : w.heap.size < w1.heap.size := by rw [hw1]; simp
  have hN1 : NetIn w1 w.heap.size na nb := by rw [hw1]; exact heap_alloc_last w _
  have hat1 := (h.below hA).up (show w.heap.size ≤ w1.heap.size by omega)
  have H1 := Lib.hid (ref_TrieFault a n c l w1 hat1 hf hn)
  have HN1 := Lib.hid hN1
  by_cases hfz : Tr.fault l = 0
  · have H2 := Lib.hid (fun W => ref_NetFault na nb W ha)
    unfold netV at H2
    rw [hfz] at H1
    by_cases hez : Nt.err na nb = 0
    · have Hge : Hid (Tr.ge (na, nb) l = if (Tr.getO (na, nb) l).size = 0 then 5 else 0) := Lib.hid (by unfold Tr.ge; rw [if_pos hfz, if_pos hez])
      obtain ⟨hg, _, hso, hol, hsl, _⟩ := Tr.fault_facts hf hfz
      have H3 := Lib.hid (fun (W : World) (hb : Below w1.heap.size w1 W) => ref_owned a n c l W ((hat1.below hb).up hb.size) (by omega))
      have Hon := Lib.hid (Tr.sorted_once hso)
      have hsi := Tr.owned_single l
      rw [hez] at H2
      have Hgo : Hid (Tr.getO (na, nb) l = Tr.ownerOf (na, nb) (Tr.owned l)) := Lib.hid rfl
      have hole := Tr.owned_le l
      rw [h.1] at hole
      clear h hf hfz hez hg hsl hat1 hN1 hso
      generalize Tr.owned l = al at *
      have Hsi := Lib.hid hsi
      clear hsi
      go_enter Try.func22, Try.ntmps22
      go_wp2_with fail
      rw [← hw1]
      clear hw1
      refine H1.out.mono ?_
      rintro e w2 ⟨rfl, b2⟩
      obtain ⟨u0, u1⟩ := two_cells (HN1.out.below b2).own
      have hsz2 := b2.size
      go_wp2_with fail
      refine (H2.out w2).mono ?_
      rintro e w3 ⟨rfl, b3⟩
      have b3' := b2.trans (b3.mono hsz2)
      have hsz3 := b3'.size
      clear u0 u1
      go_wp2_with fail
      refine (H3.out w3 b3').mono ?_
      rintro e w4 ⟨v4, rfl, o4, b4⟩
      obtain ⟨a4, c4, rfl, _, at4⟩ := o4.at
      have B4 := b3'.trans (b4.mono hsz3)
      have hsz4 := B4.size
      have HA4 := Lib.hid at4
      clear b2 b3 b3' b4 o4 at4 H1 H2 H3
      obtain ⟨m, hm⟩ : ∃ m, m = al.length := ⟨_, rfl⟩
      rw [← hm] at HA4 hole ⊢
      have Hm := Lib.hid hm
      clear hm
      have HN4 := Lib.hid (HN1.out.below B4)
      go_wp2
      go_loopw [23] (fun i wr => ∃ k : Nat, k ≤ m ∧ i = .int .i64 k ∧ Hid (∀ q (_ : q < k) (hq : q < al.length), Tr.nw al[q] ≠ (na, nb)) ∧ Below w4.heap.size w4 wr) (fun i _ => m - (intOf i).toNat)
      case atStart => exact ⟨0, Nat.zero_le _, rfl, Lib.hid (fun q hq => by omega), Below.refl _ _⟩
      case round =>
        obtain ⟨k, hk, rfl, Hq, hB⟩ := hrel
        obtain ⟨wo, hwo⟩ : ∃ wo, wo = wr := ⟨_, rfl⟩
        subst hwo
        have hsz := hB.size
        have hBw := hA.trans ((B4.trans (hB.mono hsz4)).mono (by omega))
        by_cases hlt : k < m
        · obtain ⟨b, off, rfl, hbl, hcs⟩ := (HA4.out.below hB).2 (by omega)
          have hkl : k < al.length := by rw [← Hm.out]; exact hlt
          obtain ⟨c0, c1, c2, c3⟩ := hcs k hkl
          obtain ⟨t0, t1⟩ := two_cells (HN4.out.below hB).own
          have Hqs := Lib.hid (fun (hh : Tr.nw al[k] ≠ (na, nb)) q (hq : q < k + 1) (hql : q < al.length) => (show Tr.nw al[q] ≠ (na, nb) by
            rcases Nat.eq_or_lt_of_le (show q ≤ k by omega) with rfl | hlt
            · exact hh
            · exact Hq.out q hlt hql))
          have Hfo := Lib.hid (fun (hh : Tr.nw al[k] = (na, nb)) => (⟨Tr.owner_mem Hon.out (List.getElem_mem hkl) hh ByteArray.empty, (Hsi.out _ (List.getElem_mem hkl)).1⟩ : Tr.ownerOf (na, nb) al = al[k].o ∧ 0 < al[k].o.size))
          have hgo : w.heap.size < wo.heap.size := by omega
          clear hcs
          generalize al[k] = Y at *
          obtain ⟨ya, yb, yo, ys⟩ := Y
          rcases (show (ya = na ∧ yb = nb) ∨ ((ya : Int) == (na : Int)) = false ∨ (ya = na ∧ (yb == nb) = false) by
            by_cases h1 : ya = na
            · by_cases h2 : yb = nb
              · exact .inl ⟨h1, h2⟩
              · exact .inr (.inr ⟨h1, beq_eq_false_iff_ne.2 h2⟩)
            · exact .inr (.inl (beq_eq_false_iff_ne.2 (by omega)))) with ⟨rfl, rfl⟩ | h0 | ⟨rfl, h0⟩
          · obtain ⟨f1, f2⟩ := Hfo.out rfl
            have Hr : Hid (Tr.go (ya, yb) l = yo ∧ Tr.ge (ya, yb) l = 0) := Lib.hid (by
              have e1 : Tr.ge (ya, yb) l = 0 := by rw [Hge.out, Hgo.out, f1]; exact if_neg (by have : 0 < yo.size := f2; show ¬ yo.size = 0; omega)
              exact ⟨by unfold Tr.go; rw [if_pos e1, Hgo.out, f1], e1⟩)
            have HB1 := Lib.hid (hBw.alloc (by omega) (.cells #[.int .u32 (ya : Int), .int .i64 yb, .string yo, .int .i64 ys] 56))
            clear f1 f2 Hfo Hqs
            go_wp2
            go_ret2
            exact ⟨by rw [Hr.out.1, Hr.out.2]; rfl, HB1.out⟩
          · have hne : Hid (Tr.nw ⟨ya, yb, yo, ys⟩ ≠ (na, nb)) := Lib.hid fun h => by injection h with h1 h2; change ya = na at h1; rw [h1] at h0; simp at h0
            clear Hfo
            go_wp2
            go_roundw
            case rel => exact ⟨k + 1, by omega, by go_num, Lib.hid (Hqs.out hne.out), hB.alloc hsz _⟩
            case measure => simp [intOf]; omega
          · have hne : Hid (Tr.nw ⟨ya, yb, yo, ys⟩ ≠ (ya, nb)) := Lib.hid fun h => by injection h with h1 h2; change yb = nb at h2; rw [h2] at h0; simp at h0
            clear Hfo
            go_wp2
            go_roundw
            case rel => exact ⟨k + 1, by omega, by go_num, Lib.hid (Hqs.out hne.out), hB.alloc hsz _⟩
            case measure => simp [intOf]; omega
        · have hno : Tr.ownerOf (na, nb) al = ByteArray.empty := Tr.owner_none (fun x hx => by
            obtain ⟨i, hi, rfl⟩ := List.mem_iff_getElem.1 hx
            exact Hq.out i (by have := Hm.out; omega) hi) _
          have Hr : Hid (Tr.go (na, nb) l = ⟨#[]⟩ ∧ Tr.ge (na, nb) l = 5) := Lib.hid (by
            have e1 : Tr.ge (na, nb) l = 5 := by rw [Hge.out, Hgo.out, hno]; rfl
            exact ⟨by unfold Tr.go; rw [e1]; rfl, e1⟩)
          clear hno HA4 Hq
          go_wp2
          go_ret2
          exact ⟨by rw [Hr.out.1, Hr.out.2]; rfl, hBw⟩
    · have Hr : Hid (Tr.go (na, nb) l = ⟨#[]⟩ ∧ Tr.ge (na, nb) l = Nt.err na nb) := Lib.hid (by
        have e1 : Tr.ge (na, nb) l = Nt.err na nb := by unfold Tr.ge; rw [if_pos hfz, if_neg hez]
        exact ⟨by unfold Tr.go; rw [e1, if_neg hez]; rfl, e1⟩)
      have hz' : ((Nt.err na nb : Int) != 0) = true := by simp; omega
      clear h hf hfz hez hat1 hN1
      generalize Nt.err na nb = E at *
      go_enter Try.func22, Try.ntmps22
      go_wp2_with fail
      rw [← hw1]
      clear hw1
      refine H1.out.mono ?_
      rintro e w2 ⟨rfl, b2⟩
      obtain ⟨u0, u1⟩ := two_cells (HN1.out.below b2).own
      have hsz2 := b2.size
      go_wp2_with fail
      refine (H2.out w2).mono ?_
      rintro e w3 ⟨rfl, b3⟩
      have B3 := hA.trans ((b2.trans (b3.mono hsz2)).mono (by omega))
      clear u0 u1 b2 b3 H1 H2
      go_wp2
      go_ret2
      exact ⟨by rw [Hr.out.1, Hr.out.2]; rfl, B3⟩
  · have Hr : Hid (Tr.go (na, nb) l = ⟨#[]⟩ ∧ Tr.ge (na, nb) l = Tr.fault l) := Lib.hid (by
      have e1 : Tr.ge (na, nb) l = Tr.fault l := if_neg hfz
      exact ⟨by unfold Tr.go; rw [e1, if_neg hfz]; rfl, e1⟩)
    have hz' : ((Tr.fault l : Int) != 0) = true := by simp; omega
    clear h hf hfz hat1 hN1
    generalize Tr.fault l = E at *
    go_enter Try.func22, Try.ntmps22
    go_wp2_with fail
    rw [← hw1]
    clear hw1
    refine H1.out.mono ?_
    rintro e w2 ⟨rfl, b2⟩
    have B2 := hA.trans (b2.mono (by omega))
    clear b2 H1
    go_wp2
    go_ret2
    exact ⟨by rw [Hr.out.1, Hr.out.2]; rfl, B2⟩

noncomputable def Tr.dropN (x : Tr.Nw) (l : List Tr.Node) : List Tr.Node := if Tr.ge x l = 0 then Tr.trie ((Tr.owned l).filter fun y => !decide (Tr.nw y = x)) else []
theorem Tr.ge_fault {x : Tr.Nw} {l : List Tr.Node} (h : Tr.ge x l = 0) : Tr.fault l = 0 := by
  unfold Tr.ge at h
  by_cases h0 : Tr.fault l = 0
  · exact h0
  · rw [if_neg h0] at h; exact absurd h h0
theorem dropN_len {x : Tr.Nw} {l : List Tr.Node} (hf : Tr.fit l) : (Tr.dropN x l).length ≤ 3518437208883 := by
  unfold Tr.dropN
  split
  · next hz =>
    obtain ⟨_, hg, _, hol, _⟩ := Tr.fault_facts hf (Tr.ge_fault hz)
    have h1 := Tr.grown_two 33 ((Tr.owned l).filter fun y => !decide (Tr.nw y = x)) (fun y hy => hg y (List.mem_filter.1 hy).1)
    have h2 : ((Tr.owned l).filter fun y => !decide (Tr.nw y = x)).length ≤ (Tr.owned l).length := List.length_filter_le _ _
    refine Nat.le_trans h1 ?_
    omega
  · simp
set_option maxRecDepth 20000 in
set_option maxHeartbeats 1600000 in
theorem trie_Drop (a : Option Addr) (n c : Nat) (l : List Tr.Node) (na : Nat) (nb : Int) (w : World) (h : NodesAt w w.heap.size a n l) (hf : Tr.fit l) (hn : n ≤ 3518437208780) (ha : na < 4294967296) (b0 : -9223372036854775808 ≤ nb) (b1 : nb ≤ 9223372036854775807) :
    Calls Try.prog 21 #[.slice a n c, .agg #[.int .u32 (na : Int), .int .i64 nb]] w fun e w' => (∃ v, e = .returned (.tuple #[v, .int .i64 (Tr.ge (na, nb) l : Int)]) ∧ OwnN w' w.heap.size v (Tr.dropN (na, nb) l)) ∧ Below w.heap.size w w' := by
  obtain ⟨w1, hw1⟩ : ∃ w1, w1 = w.alloc (.cells #[.int .u32 (na : Int), .int .i64 nb] 28) := ⟨_, rfl⟩
  have hA : Below w.heap.size w w1 := by rw [hw1]; exact (Below.refl _ _).alloc (Nat.le_refl _) _
  have hz1 : w.heap.size < w1.heap.size := by rw [hw1]; simp
  have hN1 : NetIn w1 w.heap.size na nb := by rw [hw1]; exact heap_alloc_last w _
  obtain ⟨t0, t1⟩ := two_cells hN1.own
  have H1 := Lib.hid (trie_Get a n c l na nb w1 ((h.below hA).up (by omega)) hf hn ha b0 b1)
  by_cases hz : Tr.ge (na, nb) l = 0
  · have Hd : Hid (Tr.dropN (na, nb) l = Tr.trie ((Tr.owned l).filter fun y => !decide (Tr.nw y = (na, nb)))) := Lib.hid (if_pos hz)
    obtain ⟨_, hg, hso, hol, _⟩ := Tr.fault_facts hf (Tr.ge_fault hz)
    have H2 := Lib.hid (fun (W : World) (hb : Below w1.heap.size w1 W) => trie_without 49 w.heap.size w1.heap.size (fun y => decide (Tr.nw y = (na, nb))) a n c l W (((h.below hA).below (hb.mono (by omega))).up (by have := hb.size; omega)) hn hg hso (by omega) (sel_drop w.heap.size w1.heap.size na nb W (hN1.below hb) hz1) hb.size)
    rw [hz] at H1 ⊢
    clear h hf hz hg hso hN1
    generalize Tr.go (na, nb) l = GO at *
    go_enter Try.func21, Try.ntmps21
    go_wp2_with fail
    rw [← hw1]
    clear hw1
    refine H1.out.mono ?_
    rintro e w2 ⟨rfl, b2⟩
    clear t0 t1
    go_wp2_with fail
    refine (H2.out w2 b2).mono ?_
    rintro e w3 ⟨v3, rfl, o3, b3⟩
    have B3 := hA.trans ((b2.trans (b3.mono b2.size)).mono (by omega))
    have O3 := Lib.hid (o3.base (show w.heap.size ≤ w2.heap.size by have := b2.size; omega))
    clear b2 b3 H1 H2 o3
    go_wp2
    go_ret2
    exact ⟨⟨_, rfl, by rw [Hd.out]; exact O3.out⟩, B3⟩
  · have Hd : Hid (Tr.dropN (na, nb) l = []) := Lib.hid (if_neg hz)
    have hz' : ((Tr.ge (na, nb) l : Int) != 0) = true := by simp; omega
    clear hz h hf hN1
    generalize Tr.ge (na, nb) l = FF at *
    generalize Tr.go (na, nb) l = GO at *
    go_enter Try.func21, Try.ntmps21
    go_wp2_with fail
    rw [← hw1]
    clear hw1
    refine H1.out.mono ?_
    rintro e w2 ⟨rfl, b2⟩
    have B2 := hA.trans (b2.mono (by omega))
    clear t0 t1
    go_wp2
    go_ret2
    exact ⟨⟨_, rfl, by rw [Hd.out]; exact OwnN.nil _ _⟩, B2⟩
set_option maxRecDepth 20000 in
set_option maxHeartbeats 1600000 in
theorem ref_TrieDrop (a : Option Addr) (n c : Nat) (l : List Tr.Node) (na : Nat) (nb : Int) (w : World) (h : NodesAt w w.heap.size a n l) (hf : Tr.fit l) (hn : n ≤ 3518437208780) (ha : na < 4294967296) :
    Calls Try.prog 23 #[.slice a n c, .agg #[.int .u32 (na : Int), .int .i64 nb]] w fun e w' => (∃ v, e = .returned (.tuple #[v, .int .i64 (Tr.ge (na, nb) l : Int)]) ∧ OwnN w' w.heap.size v (Tr.dropN (na, nb) l)) ∧ Below w.heap.size w w' := by
  obtain ⟨w1, hw1⟩ : ∃ w1, w1 = w.alloc (.cells #[.int .u32 (na : Int), .int .i64 nb] 28) := ⟨_, rfl⟩
  have hA : Below w.heap.size w w1 := by rw [hw1]; exact (Below.refl _ _).alloc (Nat.le_refl _) _
  have hz1 : w.heap.size < w1.heap.size := by rw [hw1]; simp
  have hN1 : NetIn w1 w.heap.size na nb := by rw [hw1]; exact heap_alloc_last w _
  obtain ⟨t0, t1⟩ := two_cells hN1.own
  have H1 := Lib.hid (ref_TrieGet a n c l na nb w1 ((h.below hA).up (by omega)) hf hn ha)
  by_cases hz : Tr.ge (na, nb) l = 0
  · have Hd : Hid (Tr.dropN (na, nb) l = Tr.trie ((Tr.owned l).filter fun y => !decide (Tr.nw y = (na, nb)))) := Lib.hid (if_pos hz)
    obtain ⟨_, hg, hso, hol, _⟩ := Tr.fault_facts hf (Tr.ge_fault hz)
    have H2 := Lib.hid (fun (W : World) (hb : Below w1.heap.size w1 W) => ref_without 50 w.heap.size w1.heap.size (fun y => decide (Tr.nw y = (na, nb))) a n c l W (((h.below hA).below (hb.mono (by omega))).up (by have := hb.size; omega)) hn hg (by omega) (sel_rdrop w.heap.size w1.heap.size na nb W (hN1.below hb) hz1) hb.size)
    rw [hz] at H1 ⊢
    clear h hf hz hg hso hN1
    generalize Tr.go (na, nb) l = GO at *
    go_enter Try.func23, Try.ntmps23
    go_wp2_with fail
    rw [← hw1]
    clear hw1
    refine H1.out.mono ?_
    rintro e w2 ⟨rfl, b2⟩
    clear t0 t1
    go_wp2_with fail
    refine (H2.out w2 b2).mono ?_
    rintro e w3 ⟨v3, rfl, o3, b3⟩
    have B3 := hA.trans ((b2.trans (b3.mono b2.size)).mono (by omega))
    have O3 := Lib.hid (o3.base (show w.heap.size ≤ w2.heap.size by have := b2.size; omega))
    clear b2 b3 H1 H2 o3
    go_wp2
    go_ret2
    exact ⟨⟨_, rfl, by rw [Hd.out]; exact O3.out⟩, B3⟩
  · have Hd : Hid (Tr.dropN (na, nb) l = []) := Lib.hid (if_neg hz)
    have hz' : ((Tr.ge (na, nb) l : Int) != 0) = true := by simp; omega
    clear hz h hf hN1
    generalize Tr.ge (na, nb) l = FF at *
    generalize Tr.go (na, nb) l = GO at *
    go_enter Try.func23, Try.ntmps23
    go_wp2_with fail
    rw [← hw1]
    clear hw1
    refine H1.out.mono ?_
    rintro e w2 ⟨rfl, b2⟩
    have B2 := hA.trans (b2.mono (by omega))
    clear t0 t1
    go_wp2
    go_ret2
    exact ⟨⟨_, rfl, by rw [Hd.out]; exact OwnN.nil _ _⟩, B2⟩

set_option maxRecDepth 20000 in
set_option maxHeartbeats 1600000 in
theorem trieGets_walk (a : Option Addr) (n c : Nat) (l : List Tr.Node) (na : Nat) (nb : Int) (w : World) (h : NodesAt w w.heap.size a n l) (_hc : n ≤ c) (hf : Tr.fit l) (hn : n ≤ 3518437208780) (ha : na < 4294967296) (b0 : -9223372036854775808 ≤ nb) (b1 : nb ≤ 9223372036854775807) :
    Calls Try.prog 5 #[.slice a n c, netV na nb] w fun e w' => e = .returned (.bool true) ∧ Below w.heap.size w w' := by
  unfold netV
  obtain ⟨w1, hw1⟩ : ∃ w1, w1 = w.alloc (.cells #[.int .u32 (na : Int), .int .i64 nb] 28) := ⟨_, rfl⟩
  have hA : Below w.heap.size w w1 := by rw [hw1]; exact (Below.refl _ _).alloc (Nat.le_refl _) _
  have hz1 : w.heap.size < w1.heap.size := by rw [hw1]; simp
  have hN1 : NetIn w1 w.heap.size na nb := by rw [hw1]; exact heap_alloc_last w _
  have hat1 := (h.below hA).up (show w.heap.size ≤ w1.heap.size by omega)
  have H1 := Lib.hid (trie_Get a n c l na nb w1 hat1 hf hn ha b0 b1)
  have H2 := Lib.hid (fun (W : World) (hb : Below w1.heap.size w1 W) => trie_Drop a n c l na nb W ((hat1.below hb).up hb.size) hf hn ha b0 b1)
  have H3 := Lib.hid (fun (W : World) (hb : Below w1.heap.size w1 W) => ref_TrieGet a n c l na nb W ((hat1.below hb).up hb.size) hf hn ha)
  have H4 := Lib.hid (fun (W : World) (hb : Below w1.heap.size w1 W) => ref_TrieDrop a n c l na nb W ((hat1.below hb).up hb.size) hf hn ha)
  have hal := dropN_len (x := (na, nb)) hf
  have HN := Lib.hid hN1
  obtain ⟨t0, t1⟩ := two_cells hN1.own
  clear h hf hat1 hN1
  generalize Tr.ge (na, nb) l = E at *
  generalize Tr.go (na, nb) l = O at *
  generalize Tr.dropN (na, nb) l = A at *
  go_enter Try.func5, Try.ntmps5
  go_wp2_with fail
  rw [← hw1]
  clear hw1
  refine H1.out.mono ?_
  rintro e w2 ⟨rfl, b2⟩
  obtain ⟨u0, u1⟩ := two_cells (HN.out.below b2).own
  clear t0 t1
  go_wp2_with fail
  refine (H2.out w2 b2).mono ?_
  rintro e w3 ⟨⟨v3, rfl, o3⟩, b3⟩
  have B3 := b2.trans (b3.mono b2.size)
  obtain ⟨t0, t1⟩ := two_cells (HN.out.below B3).own
  clear u0 u1
  go_wp2_with fail
  refine (H3.out w3 B3).mono ?_
  rintro e w4 ⟨rfl, b4⟩
  have B4 := B3.trans (b4.mono B3.size)
  obtain ⟨u0, u1⟩ := two_cells (HN.out.below B4).own
  clear t0 t1
  go_wp2_with fail
  refine (H4.out w4 B4).mono ?_
  rintro e w5 ⟨⟨v5, rfl, o5⟩, b5⟩
  have B5' := B4.trans (b5.mono B4.size)
  have B5 := hA.trans (B5'.mono (by omega))
  have o3' := (o3.below b4).below b5
  obtain ⟨a3, c3, rfl, _, at3⟩ := o3'.at
  obtain ⟨a5, c5, rfl, _, at5⟩ := o5.at
  have HE := Lib.hid (law_sameNodes a3 a5 _ _ c3 c5 A A w5 at3 at5 (by omega))
  have hsz5 := B5.size
  clear b2 b3 b4 b5 B3 B4 B5' o3 o5 o3' at3 at5 H1 H2 H3 H4 u0 u1
  go_wp2_with fail
  refine HE.out.mono ?_
  rintro e w6 ⟨r6, rfl, hr6, b6⟩
  obtain rfl : r6 = true := by first | exact hr6.2 rfl | exact hr6.2 trivial | simpa using hr6
  have B6 := B5.trans (b6.mono hsz5)
  clear hr6 b6 B5 HE
  go_wp2
  go_ret
  exact ⟨by simp, B6⟩
end Go.Proofs.Ytldfamdjdkaloaa

namespace Go.Proofs.Ytldfamdjdkaloaa
open Go.RowKit

namespace Tr
theorem drop_put (T : List Node) (x : Nw) (o : ByteArray) (hf : fit T) (hl : fault T = 0) (hx : good x) (ho : 0 < o.size) (hge : ge x (putL x o T) = 0) :
    fault (dropN x (putL x o T)) = 0 ∧ fit (dropN x (putL x o T)) ∧ (∀ y, y ∈ owned (dropN x (putL x o T)) ↔ y ∈ others x T) := by
  obtain ⟨_, _, p1, p2, p3⟩ := put_fits hf hl hx ho
  obtain ⟨_, hgo, hso, _, _, _⟩ := fault_facts p3 p1
  have hd : dropN x (putL x o T) = trie ((owned (putL x o T)).filter fun y => !decide (nw y = x)) := if_pos hge
  have hgf : ∀ n ∈ (owned (putL x o T)).filter (fun y => !decide (nw y = x)), good (nw n) := fun n hn => hgo n (List.mem_filter.1 hn).1
  have hsf : sorted ((owned (putL x o T)).filter fun y => !decide (nw y = x)) := List.Pairwise.filter _ hso
  obtain ⟨b1, b2⟩ := trie_fault hgf (sorted_once hsf) (fun n hn => owned_single _ n (List.mem_filter.1 hn).1)
  rw [hd]
  refine ⟨b1, fun n hn => ?_, fun y => ?_⟩
  · have g := grown_good 33 _ hgf n hn
    obtain ⟨b0, b1, _⟩ := Nt.err_zero g.2
    change 0 ≤ n.b at b0
    change n.b ≤ 32 at b1
    exact ⟨g.1, by omega, by omega⟩
  · rw [b2.mem_iff, List.mem_filter, p2.mem_iff, List.mem_append, List.mem_singleton]
    constructor
    · rintro ⟨h | h, hne⟩
      · exact h
      · subst h
        exact absurd rfl (show ¬ nw (newN x o) = x by simpa using hne)
    · intro h
      exact ⟨.inl h, (List.mem_filter.1 h).2⟩
/-- Where the network was not there before, Drop restores the trie. -/
theorem drop_back (T : List Node) (x : Nw) (o : ByteArray) (hf : fit T) (hl : fault T = 0) (hx : good x) (ho : 0 < o.size) (hge : ge x (putL x o T) = 0) (hno : ∀ y ∈ owned T, nw y ≠ x) : dropN x (putL x o T) = T := by
  obtain ⟨d1, d2, d3⟩ := drop_put T x o hf hl hx ho hge
  refine trie_ext d1 hl d2 hf fun y => ?_
  rw [d3]
  constructor
  · intro h; exact (List.mem_filter.1 h).1
  · intro h; exact List.mem_filter.2 ⟨h, by simpa using hno y h⟩
/-- What has just been put in is found. -/
theorem ge_put (T : List Node) (x : Nw) (o : ByteArray) (hf : fit T) (hl : fault T = 0) (hx : good x) (ho : 0 < o.size) : ge x (putL x o T) = 0 := by
  obtain ⟨_, _, p1, p2, p3⟩ := put_fits hf hl hx ho
  obtain ⟨_, _, _, _, hs, _⟩ := fault_facts p3 p1
  have hm : newN x o ∈ owned (putL x o T) := by rw [p2.mem_iff]; simp
  obtain ⟨n, hn, hn0, e⟩ := owned_mem hm
  have e1 : nw n = x := by
    have := congrArg nw e
    exact this.symm
  have hg := getO_mem hs hn e1
  unfold ge
  rw [if_pos p1, if_pos hx.2, if_neg (by rw [hg]; omega)]
/-- What has been dropped is not found. -/
theorem ge_gone (T : List Node) (x : Nw) (o : ByteArray) (hf : fit T) (hl : fault T = 0) (hx : good x) (ho : 0 < o.size) : ge x (dropN x (putL x o T)) = 5 := by
  obtain ⟨d1, d2, d3⟩ := drop_put T x o hf hl hx ho (ge_put T x o hf hl hx ho)
  have hg : getO x (dropN x (putL x o T)) = ByteArray.empty := by
    unfold getO
    refine owner_none (fun m hm => ?_) _
    have := (List.mem_filter.1 ((d3 m).1 hm)).2
    simpa using this
  unfold ge
  rw [if_pos d1, if_pos hx.2, if_pos (by rw [hg]; rfl)]
end Tr
end Go.Proofs.Ytldfamdjdkaloaa

namespace Go.Proofs.Ytldfamdjdkaloaa
open Go.RowKit

theorem find_none {L : List (Lit × DataW Unit)} {q : Lit} (h : ∀ zd, (DataW.map L).atKey q zd = zd) : L.find? (fun p => p.1.sameKey q) = none := by
  cases hf : L.find? (fun p => p.1.sameKey q) with
  | none => rfl
  | some p =>
    have h1 := h .nil
    have h2 := h (.lit (.bool true))
    simp only [DataW.atKey, hf] at h1 h2
    rw [h1] at h2
    cases h2
theorem find_some {L : List (Lit × DataW Unit)} {q : Lit} {d : DataW Unit} (h : ∀ zd, (DataW.map L).atKey q zd = d) : ∃ p, L.find? (fun p => p.1.sameKey q) = some p := by
  cases hf : L.find? (fun p => p.1.sameKey q) with
  | some p => exact ⟨p, rfl⟩
  | none =>
    have h1 := h .nil
    have h2 := h (.lit (.bool true))
    simp only [DataW.atKey, hf] at h1 h2
    rw [← h1] at h2
    cases h2
/-- Which networks the map holds: those of the trie. -/
theorem map_look {l : List RawD} {b k : Nat} {W : World} (h : MapK l b k W) (x : Tr.Nw) (hx : Tr.good x) : ∃ v fd, (Instr.lookup 43 (.map (some b)) (.agg #[.int .u32 (x.1 : Int), .int .i64 x.2]) true).run Try.prog W = .ok (.tuple #[v, .bool fd]) W ∧ (fd = true ↔ ∃ y ∈ Tr.owned (Tr.tree l k), Tr.nw y = x) := by
  obtain ⟨es, clock, hb, F, hs, hD⟩ := h
  obtain ⟨L, hL, hp⟩ := Tr.mapD_keys l k
  obtain ⟨i1, i2, _, _⟩ := Tr.tree_inv l k
  obtain ⟨_, hgo, _, _, _⟩ := Tr.fault_facts i2 i1
  rw [hL] at hD
  have hD := DataW.map.inj hD
  have hz : (zeroValue 9).run Try.prog W = .ok (.string ByteArray.empty) W := by kernel_rfl
  have hk := net_key x hx
  rcases Maps.fit_look true net_law Try.underlying43 hz hb F hk with ⟨hrun, _, hat⟩ | ⟨e0, y, _, _, hrun, _, hat, _⟩
  · refine ⟨_, false, hrun, ⟨fun e => (by cases e), fun ⟨y, hy, hyx⟩ => ?_⟩⟩
    rw [← hD] at hat
    have hn := find_none hat
    have hm : Tr.litOf y ∈ L.map (·.1) := hp.symm.subset (List.mem_map.2 ⟨y, hy, rfl⟩)
    obtain ⟨p, hpL, hpe⟩ := List.mem_map.1 hm
    have := List.find?_eq_none.1 hn p hpL
    rw [hpe] at this
    unfold Tr.litOf at this
    rw [hyx] at this
    exact absurd (WideAt.sameKey_self (Tr.netLit_key x)) this
  · refine ⟨_, true, hrun, ⟨fun _ => ?_, fun _ => rfl⟩⟩
    rw [← hD] at hat
    obtain ⟨p, hpf⟩ := find_some hat
    have hpL := List.mem_of_find?_eq_some hpf
    have hpk := List.find?_some hpf
    have hm : p.1 ∈ (Tr.owned (Tr.tree l k)).map Tr.litOf := hp.subset (List.mem_map.2 ⟨p, hpL, rfl⟩)
    obtain ⟨y, hy, hye⟩ := List.mem_map.1 hm
    refine ⟨y, hy, ?_⟩
    have e1 := WideAt.sameKey_eq hpk
    rw [← hye] at e1
    exact Tr.netLit_inj (hgo y hy) hx e1
theorem Tr.drop_small {X : List Tr.Node} {x : Tr.Nw} (hf : Tr.fit X) (hl : Tr.fault X = 0) (hge : Tr.ge x X = 0) : (Tr.dropN x X).length ≤ 2 * (Tr.owned X).length := by
  obtain ⟨_, hgo, _, _, _, _⟩ := Tr.fault_facts hf hl
  have hd : Tr.dropN x X = Tr.trie ((Tr.owned X).filter fun y => !decide (Tr.nw y = x)) := if_pos hge
  have hle : ((Tr.owned X).filter fun y => !decide (Tr.nw y = x)).length ≤ (Tr.owned X).length := List.length_filter_le _ _
  rw [hd]
  by_cases he : ((Tr.owned X).filter fun y => !decide (Tr.nw y = x)) = []
  · rw [he]
    exact Nat.zero_le _
  · have := Tr.grown_small 33 _ (fun n hn => hgo n (List.mem_filter.1 hn).1) he
    show (Tr.grown 33 _).length ≤ _
    omega
end Go.Proofs.Ytldfamdjdkaloaa

namespace Go.Proofs.Ytldfamdjdkaloaa
open Go.RowKit

namespace Tr
def entOf (n : Node) : Lit × DataW Unit := (litOf n, .lit (.string n.o.data.toList))
/-- The map after k rounds: its entries are the trie's networks, each with its owner. -/
theorem mapD_entries (l : List RawD) : ∀ k, ∃ L : List (Lit × DataW Unit), mapD l k = .map L ∧ L.Perm ((owned (tree l k)).map entOf)
  | 0 => ⟨[], rfl, by show List.Perm [] _; exact List.Perm.refl _⟩
  | k + 1 => by
    obtain ⟨L, hL, hp⟩ := mapD_entries l k
    obtain ⟨i1, i2, _, _⟩ := tree_inv l k
    have hg := rawN_good (l.getD k default)
    have ho : 0 < (rawO (l.getD k default)).size := by rw [rawO_size]; decide
    obtain ⟨_, _, _, hpo, _⟩ := put_fits i2 i1 hg ho
    obtain ⟨_, hgo, _, _, _⟩ := fault_facts i2 i1
    refine ⟨ChangeMaps.putKey (netLit (rawN (l.getD k default))) (.lit (.string (rawO (l.getD k default)).data.toList)) L, ?_, ?_⟩
    · show (mapD l k).put _ _ = _
      rw [hL, DataW.put_eq]
    · show List.Perm _ ((owned (putL (rawN (l.getD k default)) (rawO (l.getD k default)) (tree l k))).map entOf)
      generalize l.getD k default = r at *
      refine List.Perm.trans ?_ (hpo.map entOf).symm
      rw [List.map_append]
      unfold ChangeMaps.putKey
      refine (WideShapes.insert_perm _ _).trans ?_
      show List.Perm ((netLit (rawN r), .lit (.string (rawO r).data.toList)) :: (L.filter (ChangeMaps.notKey (netLit (rawN r))))) ((others (rawN r) (tree l k)).map entOf ++ [(netLit (rawN r), .lit (.string (rawO r).data.toList))])
      refine List.Perm.trans (List.Perm.cons _ ?_) (List.perm_append_singleton _ _).symm
      have e2 : (others (rawN r) (tree l k)).map entOf = ((owned (tree l k)).map entOf).filter (ChangeMaps.notKey (netLit (rawN r))) := by
        unfold others
        rw [List.filter_map]
        congr 1
        apply List.filter_congr
        intro n hn
        have hgn := hgo n hn
        show (!decide (nw n = rawN r)) = !(litOf n).sameKey (netLit (rawN r))
        by_cases hq : nw n = rawN r
        · have : (litOf n).sameKey (netLit (rawN r)) = true := by unfold litOf; rw [hq]; exact WideAt.sameKey_self (netLit_key _)
          simp [hq, this]
        · have : (litOf n).sameKey (netLit (rawN r)) = false := by
            cases hb : (litOf n).sameKey (netLit (rawN r))
            · rfl
            · exact absurd (netLit_inj hgn hg (WideAt.sameKey_eq hb)) hq
          simp [hq, this]
      rw [e2]
      exact hp.filter _
end Tr
end Go.Proofs.Ytldfamdjdkaloaa

namespace Go.Proofs.Ytldfamdjdkaloaa
open Go.RowKit

/-- The range under way. -/
def RangeK (l : List RawD) (b r k : Nat) (left : Lit → Bool) (cnt : Nat) (W : World) : Prop := W.ranges Try.prog 28 (plainElem (H := Unit) Try.prog 9) b r k (Tr.mapD l k) left cnt
set_option maxRecDepth 100000 in
theorem elem_string {v : Value} {y : DataW Unit × List MemPlace} (h : plainElem (H := Unit) Try.prog 9 v = some y) : ∃ s, v = .string s ∧ y.1 = .lit (.string s.data.toList) := by
  unfold plainElem at h
  rw [Try.underlying9] at h
  cases v <;> simp at h
  obtain ⟨_, h⟩ := h
  subst h
  exact ⟨_, rfl, rfl⟩
theorem find_entry {L : List (Lit × DataW Unit)} {q : Lit} {d : DataW Unit} (h : ∀ zd, (DataW.map L).atKey q zd = d) : ∃ p ∈ L, p.1.sameKey q = true ∧ p.2 = d := by
  obtain ⟨p, hp⟩ := find_some h
  refine ⟨p, List.mem_of_find?_eq_some hp, List.find?_some (p := fun p : Lit × DataW Unit => p.1.sameKey q) hp, ?_⟩
  have := h .nil
  simp only [DataW.atKey, hp] at this
  exact this
set_option maxRecDepth 100000 in
/-- The step of the range. -/
theorem range_next {l : List RawD} {b r k : Nat} {left : Lit → Bool} {cnt : Nat} {W : World} (h : RangeK l b r k left cnt W) (ty : TypeId) :
    (cnt = 0 ∧ (∀ kl, left kl = false) ∧ (Instr.next (.pointer (some ⟨r, 0, none⟩)) false ty).run Try.prog W = .ok (.tuple #[.bool false]) W) ∨
    ∃ y ∈ Tr.owned (Tr.tree l k), ∃ w' cnt', left (Tr.litOf y) = true ∧ (Instr.next (.pointer (some ⟨r, 0, none⟩)) false ty).run Try.prog W = .ok (.tuple #[.bool true, .agg #[.int .u32 (y.a : Int), .int .i64 y.b], .string y.o]) w' ∧
      RangeK l b r k (fun x => left x && !x.sameKey (Tr.litOf y)) cnt' w' ∧ cnt' < cnt ∧ W.grownBy w' (some r) ∧ w'.heap.size = W.heap.size ∧ (Instr.entry (.pointer (some ⟨r, 0, none⟩))).run Try.prog w' = .ok (.tuple #[.agg #[.int .u32 (y.a : Int), .int .i64 y.b], .string y.o]) w' := by
  obtain ⟨L, hL, hp⟩ := Tr.mapD_entries l k
  obtain ⟨i1, i2, _, _⟩ := Tr.tree_inv l k
  obtain ⟨_, hgo, _, _, _⟩ := Tr.fault_facts i2 i1
  rcases World.ranges.next h net_law ty with h0 | ⟨key, v, kl, yv, w', cnt', hkey, hlk, hv, hat, hrun, hrg, hlt, hgr, hsz, hen⟩
  · exact .inl h0
  · obtain ⟨s, rfl, hs⟩ := elem_string hv
    rw [hL] at hat
    obtain ⟨p, hpL, hpk, hpd⟩ := find_entry hat
    obtain ⟨y, hy, rfl⟩ := List.mem_map.1 (hp.subset hpL)
    have e1 : Tr.litOf y = kl := WideAt.sameKey_eq hpk
    have e2 := net_key (Tr.nw y) (hgo y hy)
    have e3 : key = netV (Tr.nw y).1 (Tr.nw y).2 := net_law.inj hkey (by rw [e2]; exact congrArg some e1)
    have e4 : s = y.o := by
      rw [hs] at hpd
      have h1 : y.o.data.toList = s.data.toList := by
        have h2 : (DataW.lit (.string y.o.data.toList) : DataW Unit) = .lit (.string s.data.toList) := hpd
        injection h2 with h2
        injection h2
      exact (ByteArray.ext (Array.toList_inj.1 h1)).symm
    subst e4 e1
    rw [e3] at hrun hen
    exact .inr ⟨y, hy, w', cnt', hlk, hrun, hrg, hlt, hgr, hsz, hen⟩
/-- What the trie says of one of its networks. -/
theorem Tr.get_owned {T : List Tr.Node} (hf : Tr.fit T) (hl : Tr.fault T = 0) {y : Tr.Node} (hy : y ∈ Tr.owned T) : Tr.ge (Tr.nw y) T = 0 ∧ Tr.go (Tr.nw y) T = y.o := by
  obtain ⟨_, hgo, _, _, hs, _⟩ := Tr.fault_facts hf hl
  obtain ⟨n, hn, hn0, e⟩ := owned_mem hy
  have e1 : Tr.nw n = Tr.nw y := by rw [e]; rfl
  have hg := getO_mem hs hn e1
  have ho : n.o = y.o := by rw [e]
  have hge : Tr.ge (Tr.nw y) T = 0 := by
    unfold Tr.ge
    rw [if_pos hl, if_pos (hgo y hy).2, if_neg (by rw [hg]; omega)]
  exact ⟨hge, by unfold Tr.go; rw [if_pos hge, hg, ho]⟩
end Go.Proofs.Ytldfamdjdkaloaa

namespace Go.Proofs.Ytldfamdjdkaloaa
open Go.RowKit

namespace Tr
theorem most_from (x : Nat) : ∀ (l : List Node) (p : ByteArray × Int), p.2 ≤ (l.foldl (fun p n => if hasN x n = true ∧ p.2 < n.b then (n.o, n.b) else p) p).2 ∧ ∀ n ∈ l, hasN x n = true → n.b ≤ (l.foldl (fun p n => if hasN x n = true ∧ p.2 < n.b then (n.o, n.b) else p) p).2
  | [], p => ⟨Int.le_refl _, fun n hn => by cases hn⟩
  | m :: r, p => by
    rw [List.foldl_cons]
    obtain ⟨h1, h2⟩ := most_from x r (if hasN x m = true ∧ p.2 < m.b then (m.o, m.b) else p)
    have hp : p.2 ≤ (if hasN x m = true ∧ p.2 < m.b then (m.o, m.b) else p).2 := by
      split
      · rename_i h; exact Int.le_of_lt h.2
      · exact Int.le_refl _
    refine ⟨Int.le_trans hp h1, fun n hn hh => ?_⟩
    rcases List.mem_cons.1 hn with rfl | hn
    · refine Int.le_trans ?_ h1
      split
      · exact Int.le_refl _
      · rename_i h
        have : ¬ p.2 < n.b := fun e => h ⟨hh, e⟩
        omega
    · exact h2 n hn hh
/-- What Find gives: the owner of the longest of the trie's networks that have the address. -/
theorem find_longest {T : List Node} (hf : fit T) (hl : fault T = 0) (x : Nat) : ((∀ n ∈ owned T, hasN x n = false) ∧ fo x T = ByteArray.empty ∧ fe x T = 11) ∨
    ∃ n ∈ owned T, hasN x n = true ∧ (∀ m ∈ owned T, hasN x m = true → m.b ≤ n.b) ∧ fo x T = n.o ∧ fe x T = 0 := by
  obtain ⟨_, hgo, hso, _, _, _⟩ := fault_facts hf hl
  have hfo : fo x T = lastO x (owned T) := by unfold fo; rw [if_pos hl, lastO_owned]
  have hfe : fe x T = if (lastO x (owned T)).size = 0 then 11 else 0 := by unfold fe; rw [if_pos hl, lastO_owned]
  have hsi : single (owned T) := owned_single _
  have hge := (most_from x (owned T) (ByteArray.empty, -1)).2
  rcases most_sorted (x := x) hso hgo hsi with ⟨h1, h2⟩ | ⟨n, hn, hh, h1, h2⟩
  · refine .inl ⟨fun n hn => ?_, by rw [hfo, h2], by rw [hfe, h2]; rfl⟩
    cases hx : hasN x n
    · rfl
    · have h3 : n.b ≤ (mostO x (owned T)).2 := hge n hn hx
      rw [h1] at h3
      have h0 := (Nt.err_zero (hgo n hn).2).1
      change 0 ≤ n.b at h0
      change n.b ≤ -1 at h3
      omega
  · refine .inr ⟨n, hn, hh, fun m hm hx => ?_, by rw [hfo, h2], ?_⟩
    · have h3 : m.b ≤ (mostO x (owned T)).2 := hge m hm hx
      rw [h1] at h3
      exact h3
    · have hpos := (hsi n hn).1
      rw [hfe, h2, if_neg (by omega)]
end Tr
end Go.Proofs.Ytldfamdjdkaloaa

namespace Go.Proofs.Ytldfamdjdkaloaa
open Go.RowKit

namespace Tr
/-- Of the networks that have come, o owns the longest that has the address, and b is its bits. -/
def Best (T : List Node) (x : Nat) (come : Node → Prop) (o : ByteArray) (b : Int) : Prop :=
  (b = -1 ∧ o = ByteArray.empty ∧ ∀ n ∈ owned T, come n → hasN x n = false) ∨
  ∃ n ∈ owned T, come n ∧ hasN x n = true ∧ o = n.o ∧ b = n.b ∧ ∀ m ∈ owned T, come m → hasN x m = true → m.b ≤ n.b
theorem best_begin (T : List Node) (x : Nat) (come : Node → Prop) (h : ∀ n ∈ owned T, ¬ come n) : Best T x come ByteArray.empty (-1) := .inl ⟨rfl, rfl, fun n hn hc => absurd hc (h n hn)⟩
theorem best_take {T : List Node} {x : Nat} {come come' : Node → Prop} {o : ByteArray} {b : Int} {y : Node} (h : Best T x come o b) (hy : y ∈ owned T) (hc : ∀ n ∈ owned T, come' n ↔ come n ∨ n = y) (hx : hasN x y = true) (hb : b < y.b) : Best T x come' y.o y.b := by
  refine .inr ⟨y, hy, (hc y hy).2 (.inr rfl), hx, rfl, rfl, fun m hm hcm hmx => ?_⟩
  rcases (hc m hm).1 hcm with hcm | rfl
  · rcases h with ⟨_, _, h⟩ | ⟨n, _, _, _, _, e, h⟩
    · rw [h m hm hcm] at hmx; cases hmx
    · have := h m hm hcm hmx; omega
  · exact Int.le_refl _
theorem best_keep {T : List Node} {x : Nat} {come come' : Node → Prop} {o : ByteArray} {b : Int} {y : Node} (h : Best T x come o b) (hy : y ∈ owned T) (hc : ∀ n ∈ owned T, come' n ↔ come n ∨ n = y) (hx : ¬ (hasN x y = true ∧ b < y.b)) (h0 : 0 ≤ y.b) : Best T x come' o b := by
  rcases h with ⟨e1, e2, h⟩ | ⟨n, hn, hcn, hnx, e1, e2, h⟩
  · refine .inl ⟨e1, e2, fun m hm hcm => ?_⟩
    rcases (hc m hm).1 hcm with hcm | rfl
    · exact h m hm hcm
    · cases hm' : hasN x m
      · rfl
      · exact absurd ⟨hm', by omega⟩ hx
  · refine .inr ⟨n, hn, (hc n hn).2 (.inl hcn), hnx, e1, e2, fun m hm hcm hmx => ?_⟩
    rcases (hc m hm).1 hcm with hcm | rfl
    · exact h m hm hcm hmx
    · have : ¬ b < m.b := fun e => hx ⟨hmx, e⟩
      omega
theorem same_bits {T : List Node} (hs : sorted (owned T)) {x : Nat} {n m : Node} (hn : n ∈ owned T) (hm : m ∈ owned T) (hnx : hasN x n = true) (hmx : hasN x m = true) (hb : n.b = m.b) : n = m := by
  obtain ⟨i, hi, rfl⟩ := List.mem_iff_getElem.1 hn
  obtain ⟨j, hj, rfl⟩ := List.mem_iff_getElem.1 hm
  rcases Nat.lt_trichotomy i j with h | h | h
  · have := has_lt hnx hmx (List.pairwise_iff_getElem.1 hs i j hi hj h); omega
  · subst h; rfl
  · have := has_lt hmx hnx (List.pairwise_iff_getElem.1 hs j i hj hi h); omega
/-- Once all have come it is what Find gives. -/
theorem best_end {T : List Node} (hf : fit T) (hl : fault T = 0) {x : Nat} {come : Node → Prop} {o : ByteArray} {b : Int} (h : Best T x come o b) (hall : ∀ n ∈ owned T, come n) : fo x T = o ∧ ((b < 0 ∧ fe x T = 11) ∨ (0 ≤ b ∧ fe x T = 0)) := by
  obtain ⟨_, hgo, hso, _, _, _⟩ := fault_facts hf hl
  rcases find_longest hf hl x with ⟨h1, h2, h3⟩ | ⟨n, hn, hnx, h1, h2, h3⟩
  · rcases h with ⟨e1, e2, _⟩ | ⟨m, hm, _, hmx, _⟩
    · exact ⟨by rw [h2, e2], .inl ⟨by omega, h3⟩⟩
    · rw [h1 m hm] at hmx; cases hmx
  · have h0 := (Nt.err_zero (hgo n hn).2).1
    change 0 ≤ n.b at h0
    rcases h with ⟨_, _, h⟩ | ⟨m, hm, _, hmx, e1, e2, h⟩
    · rw [h n hn (hall n hn)] at hnx; cases hnx
    · have l1 := h1 m hm hmx
      have l2 := h n hn (hall n hn) hnx
      have e : m = n := same_bits hso hm hn hmx hnx (by omega)
      subst e
      exact ⟨by rw [h2, e1], .inr ⟨by omega, h3⟩⟩
end Tr
end Go.Proofs.Ytldfamdjdkaloaa

namespace Go.Proofs.Ytldfamdjdkaloaa
open Go.RowKit

namespace Tr
theorem once_inj {l : List Node} (h : once l) {n m : Node} (hn : n ∈ l) (hm : m ∈ l) (e : nw n = nw m) : n = m := by
  obtain ⟨i, hi, rfl⟩ := List.mem_iff_getElem.1 hn
  obtain ⟨j, hj, rfl⟩ := List.mem_iff_getElem.1 hm
  rcases Nat.lt_trichotomy i j with h1 | h1 | h1
  · exact absurd e (List.pairwise_iff_getElem.1 h i j hi hj h1)
  · subst h1; rfl
  · exact absurd e.symm (List.pairwise_iff_getElem.1 h j i hj hi h1)
theorem come_begin (l : List RawD) (k : Nat) (n : Node) (hn : n ∈ owned (tree l k)) : ¬ (Maps.has (mapD l k) (litOf n) = false) := by
  obtain ⟨L, hL, hp⟩ := mapD_entries l k
  rw [hL]
  show ¬ (L.any (fun p => p.1.sameKey (litOf n)) = false)
  rw [List.any_eq_false]
  intro h
  have := h (entOf n) (hp.mem_iff.2 (List.mem_map_of_mem hn))
  exact this (WideAt.sameKey_self (netLit_key _))
theorem come_step {T : List Node} (hf : fit T) (hl : fault T = 0) {left : Lit → Bool} {y : Node} (hy : y ∈ owned T) : ∀ n ∈ owned T, ((left (litOf n) && !(litOf n).sameKey (litOf y)) = false) ↔ (left (litOf n) = false ∨ n = y) := by
  obtain ⟨_, hgo, hso, _, _, _⟩ := fault_facts hf hl
  intro n hn
  rw [Bool.and_eq_false_iff]
  constructor
  · rintro (h | h)
    · exact .inl h
    · right
      have h2 : (litOf n).sameKey (litOf y) = true := by simpa using h
      exact once_inj (sorted_once hso) hn hy (netLit_inj (hgo n hn) (hgo y hy) (WideAt.sameKey_eq h2))
  · rintro (h | h)
    · exact .inl h
    · subst h
      right
      rw [WideAt.sameKey_self (show WideAt.IsKeyLit (litOf n) from netLit_key _)]
      rfl
end Tr
theorem wpL_next2 {w : World} {ops : Array Oper} {rest : List Oper} {o : Oper} {a : Act} {Q : Exit → Act → World → Prop} (hg : o.guard = none) (it : Operand) (hop : o.op = Op.next it false) {l : List RawD} {b r k : Nat} {left : Lit → Bool} {cnt : Nat}
    (hit : a.eval it = .pointer (some ⟨r, 0, none⟩)) (h : RangeK l b r k left cnt w)
    (hDone : (∀ kl, left kl = false) → wpList Try.prog ops Q rest (a.put o.dst (.tuple #[.bool false])) w)
    (hMore : ∀ y ∈ Tr.owned (Tr.tree l k), ∀ (w' : World) (cnt' : Nat), RangeK l b r k (fun x => left x && !x.sameKey (Tr.litOf y)) cnt' w' → cnt' < cnt → w.grownBy w' (some r) → w'.heap.size = w.heap.size →
      (Instr.entry (.pointer (some ⟨r, 0, none⟩))).run Try.prog w' = .ok (.tuple #[.agg #[.int .u32 (y.a : Int), .int .i64 y.b], .string y.o]) w' → wpList Try.prog ops Q rest (a.put o.dst (.tuple #[.bool true, .agg #[.int .u32 (y.a : Int), .int .i64 y.b], .string y.o])) w') :
    wpList Try.prog ops Q (o :: rest) a w := by
  refine wpList_plain hg fun K' hK' => ?_
  unfold Oper.wp
  rcases range_next h o.type with ⟨_, h0, hrun⟩ | ⟨y, hy, w', cnt', _, hrun, hrg, hlt, hgr, hsz, hen⟩
  · simp [execOp, hop, hit, hrun, Result.andThen]
    exact hK' _ _ (hDone h0)
  · simp [execOp, hop, hit, hrun, Result.andThen]
    exact hK' _ _ (hMore y hy w' cnt' hrg hlt hgr hsz hen)
end Go.Proofs.Ytldfamdjdkaloaa

namespace Go.Proofs.Ytldfamdjdkaloaa

section
variable {P : Program} {md : Region.Mode} {ops : Array Oper} {Q : Exit → Act → World → Prop}
theorem ready_none {listed : Array Bool} (hs : listed.size = ops.size) (h : listed.toList.count false = 0) : Region.ready md ops listed = [] := by
  apply List.eq_nil_iff_forall_not_mem.2
  intro j hj
  obtain ⟨h0, o, ho, _⟩ := mem_ready.1 hj
  have hlt : j < listed.size := by rw [hs]; exact (Array.getElem?_eq_some_iff.1 ho).1
  have hf : listed[j] = false := by simpa [hlt] using h0
  have hm : false ∈ listed.toList := by rw [← hf]; simp
  have := List.count_pos_iff.2 hm
  omega
theorem wpAny_inv (I : Array Bool → Act → World → Prop) (hsz : ∀ listed a w, I listed a w → listed.size = ops.size)
    (hstep : ∀ listed a w, I listed a w → ∀ i ∈ Region.ready md ops listed, wpOp P ops Q i (fun a' w' => I (listed.setIfInBounds i true) a' w') a w)
    (hdone : ∀ listed a w, I listed a w → Region.ready md ops listed = [] → Q .normal a w) :
    ∀ (fuel : Nat) (listed : Array Bool) (a : Act) (w : World), I listed a w → listed.toList.count false ≤ fuel → wpAny P md ops Q fuel listed a w := by
  intro fuel
  induction fuel with
  | zero =>
    intro listed a w hI hc
    have hr := ready_none (md := md) (ops := ops) (hsz _ _ _ hI) (by omega)
    exact ⟨hr, hdone _ _ _ hI hr⟩
  | succ fuel ih =>
    intro listed a w hI hc
    refine ⟨hdone _ _ _ hI, fun i hi => wpOp_mono (fun a' w' hI' => ih _ _ _ hI' ?_) (hstep _ _ _ hI i hi)⟩
    obtain ⟨h0, o, ho, _⟩ := mem_ready.1 hi
    have hlt : i < listed.size := by rw [hsz _ _ _ hI]; exact (Array.getElem?_eq_some_iff.1 ho).1
    have hf : listed[i] = false := by simpa [hlt] using h0
    have hl : i < listed.toList.length := by simpa using hlt
    have hf' : listed.toList[i] = false := by simpa using hf
    have hm : false ∈ listed.toList := by rw [← hf]; simp
    have hp := List.count_pos_iff.2 hm
    have hcs := List.count_set (a := true) (b := false) (l := listed.toList) (i := i) (h := hl)
    rw [hf'] at hcs
    rw [Array.toList_setIfInBounds, hcs]
    simp only [beq_self_eq_true, if_true, show (true == false) = false from rfl, Bool.false_eq_true, if_false]
    omega
theorem all_listed (hlow : ∀ (i : Nat) (o : Oper), ops[i]? = some o → ∀ e ∈ o.after, e.on < i) {listed : Array Bool} (hs : listed.size = ops.size) (hr : Region.ready md ops listed = []) : listed.toList.count false = 0 := by
  have hall : ∀ j (h : j < listed.size), listed[j] = true := by
    intro j
    induction j using Nat.strongRecOn with
    | _ j ih =>
      intro h
      cases hj : listed[j]
      · exfalso
        have ho : ops[j]? = some ops[j] := Array.getElem?_eq_getElem (by omega)
        have : j ∈ Region.ready md ops listed := mem_ready.2 ⟨by simp [h, hj], ops[j], ho, fun e he _ => by
          have hl := hlow j _ ho e he
          have hlt : e.on < listed.size := by omega
          have := ih e.on hl hlt
          simp [hlt, this]⟩
        rw [hr] at this
        cases this
      · rfl
  apply List.count_eq_zero.2
  intro hm
  obtain ⟨j, hj, he⟩ := List.mem_iff_getElem.1 hm
  have := hall j (by simpa using hj)
  simp at he
  rw [he] at this
  cases this
/-- A region by an invariant. -/
theorem wp_region_inv (I : Array Bool → Act → World → Prop) {id : Nat} {a : Act} {w : World} (hm : P.follows .mixedOrders = true) (hsz : ∀ listed a w, I listed a w → listed.size = ops.size)
    (hI : I (Array.replicate ops.size false) a { w with drawn := w.drawn + 1 })
    (hstep : ∀ listed a w, I listed a w → ∀ (i : Nat) (o : Oper), ops[i]? = some o → listed.getD i true = false → (∀ e ∈ o.after, Region.binds .any e = true → listed.getD e.on false = true) → wpOp P ops Q i (fun a' w' => I (listed.setIfInBounds i true) a' w') a w)
    (hdone : ∀ listed a w, I listed a w → listed.toList.count false = 0 → Q .normal a w) (hlow : ∀ (i : Nat) (o : Oper), ops[i]? = some o → ∀ e ∈ o.after, e.on < i) :
    (Code.region id ops true).wp P Q a w := by
  refine wp_region_any hm (wpAny_inv I hsz (fun listed a w h i hi => ?_) (fun listed a w h hr => hdone listed a w h (all_listed hlow (hsz _ _ _ h) hr)) _ _ _ _ hI (by simp))
  obtain ⟨h0, o, ho, hall⟩ := mem_ready.1 hi
  exact hstep listed a w h i o ho h0 hall
theorem wpOp_plain {i : Nat} {o : Oper} {K : Act → World → Prop} {a : Act} {w : World} (hi : ops[i]? = some o) (hg : o.guard = none) (h : o.wp P a w K Q) : wpOp P ops Q i K a w := by
  unfold wpOp
  simp only [hi]
  rw [if_pos (by simp [Region.wanted, hg])]
  exact .inl h
end
end Go.Proofs.Ytldfamdjdkaloaa

namespace Go.Proofs.Ytldfamdjdkaloaa
open Go.RowKit

theorem three_blocks (w : World) (x y z : Array Value) :
    Below w.heap.size w (((w.alloc (.cells x 48)).alloc (.cells y 48)).alloc (.cells z 48)) ∧ (((w.alloc (.cells x 48)).alloc (.cells y 48)).alloc (.cells z 48)).heap.size = w.heap.size + 3 ∧
    (((w.alloc (.cells x 48)).alloc (.cells y 48)).alloc (.cells z 48)).heap[w.heap.size]? = some (.cells x 48 (0, 0)) ∧
    (((w.alloc (.cells x 48)).alloc (.cells y 48)).alloc (.cells z 48)).heap[w.heap.size + 1]? = some (.cells y 48 (0, 0)) ∧
    (((w.alloc (.cells x 48)).alloc (.cells y 48)).alloc (.cells z 48)).heap[w.heap.size + 1 + 1]? = some (.cells z 48 (0, 0)) := by
  have e1 : (w.alloc (.cells x 48)).heap.size = w.heap.size + 1 := by simp
  have e2 : ((w.alloc (.cells x 48)).alloc (.cells y 48)).heap.size = w.heap.size + 1 + 1 := by simp
  refine ⟨(((Below.refl _ _).alloc (Nat.le_refl _) _).alloc (by omega) _).alloc (by omega) _, by simp, ?_, ?_, ?_⟩
  · rw [Below.heap_alloc _ _ _ (by omega), Below.heap_alloc _ _ _ (by omega)]; exact heap_alloc_last w _
  · rw [Below.heap_alloc _ _ _ (by omega), ← e1]; exact heap_alloc_last _ _
  · rw [← e2]; exact heap_alloc_last _ _
theorem raw_cells {w w' : World} {g : Nat} {x y z u : Value} (hg : w.heap[g]? = some (.cells #[x, y, z, u] 48 (0, 0))) (hb : Below w.heap.size w w') :
    w'.cell? ⟨g, 0, none⟩ = some x ∧ w'.cell? ⟨g, 1, none⟩ = some y ∧ w'.cell? ⟨g, 2, none⟩ = some z ∧ w'.cell? ⟨g, 3, none⟩ = some u := by
  have hlt : g < w.heap.size := by
    by_cases h : g < w.heap.size
    · exact h
    · rw [Array.getElem?_eq_none (by omega)] at hg; cases hg
  have hg' := (hb.block g hlt).trans hg
  refine ⟨?_, ?_, ?_, ?_⟩
  · exact (cell_of_row _ _ 0 _ _ _ hg').trans rfl
  · exact (cell_of_row _ _ 1 _ _ _ hg').trans rfl
  · exact (cell_of_row _ _ 2 _ _ _ hg').trans rfl
  · exact (cell_of_row _ _ 3 _ _ _ hg').trans rfl
theorem listed_all {listed : Array Bool} {n : Nat} (hs : listed.size = n) (hc : listed.toList.count false = 0) : ∀ j, j < n → listed.getD j false = true := by
  intro j hj
  have hlt : j < listed.size := by omega
  cases hx : listed[j]
  · exfalso
    have hm : false ∈ listed.toList := by rw [← hx]; simp
    exact (List.count_eq_zero.1 hc) hm
  · simp [hlt, hx]
theorem getD_false {listed : Array Bool} {i : Nat} (h : listed.getD i true = false) : listed.getD i false = false := by
  by_cases hlt : i < listed.size
  · simpa [hlt] using h
  · simp [hlt] at h
end Go.Proofs.Ytldfamdjdkaloaa

namespace Go.Proofs.Ytldfamdjdkaloaa

/-- The frame where just the marked ones of the first k operations have come up. -/
def detAct (dst : Nat → Option Nat) (F : Nat → Value) (a0 : Act) (listed : Array Bool) : Nat → Act
  | 0 => a0
  | k + 1 => if listed.getD k false = true then (detAct dst F a0 listed k).put (dst k) (F k) else detAct dst F a0 listed k
/-- The frame where all of the first k operations have come up. -/
def putAll (dst : Nat → Option Nat) (F : Nat → Value) (a0 : Act) : Nat → Act
  | 0 => a0
  | k + 1 => (putAll dst F a0 k).put (dst k) (F k)
theorem putAll_some {dst : Nat → Option Nat} {F : Nat → Value} {a0 : Act} (n k d : Nat) (v : Value) (hn : n = k + 1) (hd : dst k = some d) (hF : F k = v) : putAll dst F a0 n = (putAll dst F a0 k).put (some d) v := by
  rw [hn, putAll, hd, hF]
theorem putAll_none {dst : Nat → Option Nat} {F : Nat → Value} {a0 : Act} (n k : Nat) (hn : n = k + 1) (hd : dst k = none) : putAll dst F a0 n = putAll dst F a0 k := by
  rw [hn, putAll, hd]
  rfl
theorem det_all (dst : Nat → Option Nat) (F : Nat → Value) (a0 : Act) (n : Nat) : ∀ k, k ≤ n → detAct dst F a0 (Array.replicate n true) k = putAll dst F a0 k
  | 0, _ => rfl
  | k + 1, h => by
    have hk : k < n := by omega
    rw [detAct, if_pos (by simp [hk]), det_all dst F a0 n k (by omega)]
    rfl
theorem put_comm (a : Act) (d e : Option Nat) (v u : Value) (h : d = none ∨ d ≠ e) : (a.put d v).put e u = (a.put e u).put d v := by
  cases d with
  | none => rfl
  | some d =>
    cases e with
    | none => rfl
    | some e =>
      have hne : d ≠ e := fun x => by rcases h with h | h; cases h; exact h (by rw [x])
      unfold Act.put
      simp only
      congr 1
      exact Array.setIfInBounds_comm v u hne
theorem mark_other {l : Array Bool} {i j : Nat} (h : i ≠ j) : (l.setIfInBounds i true).getD j false = l.getD j false := by simp [Array.getElem?_setIfInBounds_ne h]
theorem mark_same {l : Array Bool} {i : Nat} (h : i < l.size) : (l.setIfInBounds i true).getD i false = true := by simp [h]
section
variable {dst : Nat → Option Nat} {F : Nat → Value} {a0 : Act}
theorem det_below {listed : Array Bool} {i : Nat} : ∀ k, k ≤ i → detAct dst F a0 (listed.setIfInBounds i true) k = detAct dst F a0 listed k
  | 0, _ => rfl
  | k + 1, h => by
    unfold detAct
    rw [det_below k (by omega), mark_other (by omega)]
theorem det_set {listed : Array Bool} {i : Nat} (hi : i < listed.size) (h0 : listed.getD i false = false) : ∀ n, i < n → (∀ j, i < j → j < n → dst i = none ∨ dst i ≠ dst j) → detAct dst F a0 (listed.setIfInBounds i true) n = (detAct dst F a0 listed n).put (dst i) (F i)
  | 0, h, _ => by omega
  | k + 1, h, hd => by
    by_cases hk : k = i
    · subst hk
      rw [detAct, mark_same hi, if_pos rfl, det_below k (Nat.le_refl _)]
      conv => rhs; rw [detAct, h0, if_neg (by decide)]
    · have ih := det_set hi h0 k (by omega) (fun j h1 h2 => hd j h1 (by omega))
      rw [detAct, mark_other (by omega), ih]
      conv => rhs; rw [detAct]
      by_cases hl : listed.getD k false = true
      · rw [if_pos hl, if_pos hl]
        exact put_comm _ _ _ _ _ (hd k (by omega) (by omega))
      · rw [if_neg hl, if_neg hl]
theorem det_size {listed : Array Bool} : ∀ n, (detAct dst F a0 listed n).tmps.size = a0.tmps.size
  | 0 => rfl
  | k + 1 => by
    unfold detAct
    split
    · cases h : dst k with
      | none => exact det_size k
      | some d => simp [Act.put, det_size k]
    · exact det_size k
/-- What a slot holds that none of the operations writes. -/
theorem det_old {listed : Array Bool} {d : Nat} : ∀ n, (∀ j, j < n → dst j ≠ some d) → (detAct dst F a0 listed n).tmps.getD d undef = a0.tmps.getD d undef
  | 0, _ => rfl
  | k + 1, h => by
    have ih := det_old (listed := listed) k (fun j hj => h j (by omega))
    unfold detAct
    split
    · cases hk : dst k with
      | none => exact ih
      | some e =>
        have hne : e ≠ d := fun x => h k (by omega) (by rw [hk, x])
        rw [← ih]
        simp [Act.put, Array.getElem?_setIfInBounds_ne hne]
    · exact ih
/-- What an operation that has come up has left in its slot. -/
theorem det_get {listed : Array Bool} {i d : Nat} (hl : listed.getD i false = true) (hdi : dst i = some d) (hs : d < a0.tmps.size) : ∀ n, i < n → (∀ j, i < j → j < n → dst i = none ∨ dst i ≠ dst j) → (detAct dst F a0 listed n).tmps.getD d undef = F i
  | 0, h, _ => by omega
  | k + 1, h, hd => by
    by_cases hk : k = i
    · subst hk
      have hz : d < (detAct dst F a0 listed k).tmps.size := by rw [det_size]; exact hs
      rw [detAct, if_pos hl, hdi]
      simp [Act.put, hz]
    · have ih := det_get hl hdi hs k (by omega) (fun j h1 h2 => hd j h1 (by omega))
      unfold detAct
      split
      · cases hx : dst k with
        | none => exact ih
        | some e =>
          have hne : e ≠ d := fun x => by
            rcases hd k (by omega) (by omega) with h' | h'
            · rw [hdi] at h'; cases h'
            · exact h' (by rw [hdi, hx, x])
          rw [← ih]
          simp [Act.put, Array.getElem?_setIfInBounds_ne hne]
      · exact ih
end
section
variable {P : Program} {ops : Array Oper} {Q : Exit → Act → World → Prop}
/-- A region whose operations' values (F) and world (Wf) do not hang on their order. -/
theorem wp_region_det (n : Nat) (dst : Nat → Option Nat) (F : Nat → Value) (Wf : Array Bool → World) {id : Nat} {a0 : Act} {w : World} (hm : P.follows .mixedOrders = true) (hn : ops.size = n)
    (hdist : ∀ i j, i < j → j < n → dst i = none ∨ dst i ≠ dst j) (hlow : ∀ (i : Nat) (o : Oper), ops[i]? = some o → ∀ e ∈ o.after, e.on < i)
    (hW0 : Wf (Array.replicate n false) = { w with drawn := w.drawn + 1 })
    (hstep : ∀ listed : Array Bool, listed.size = n → (∀ (i : Nat) (o : Oper), ops[i]? = some o → listed.getD i false = true → ∀ e ∈ o.after, Region.binds .any e = true → listed.getD e.on false = true) → ∀ (i : Nat) (o : Oper), ops[i]? = some o → listed.getD i false = false → (∀ e ∈ o.after, Region.binds .any e = true → listed.getD e.on false = true) →
      wpOp P ops Q i (fun a' w' => a' = (detAct dst F a0 listed n).put (dst i) (F i) ∧ w' = Wf (listed.setIfInBounds i true)) (detAct dst F a0 listed n) (Wf listed))
    (hdone : Q .normal (detAct dst F a0 (Array.replicate n true) n) (Wf (Array.replicate n true))) : (Code.region id ops true).wp P Q a0 w := by
  have hzero : detAct dst F a0 (Array.replicate n false) n = a0 := by
    have : ∀ k, detAct dst F a0 (Array.replicate n false) k = a0 := by
      intro k
      induction k with
      | zero => rfl
      | succ k ih =>
        unfold detAct
        rw [if_neg, ih]
        by_cases hk : k < n <;> simp [hk]
    exact this n
  refine wp_region_inv (fun listed a w' => listed.size = n ∧ (∀ (i : Nat) (o : Oper), ops[i]? = some o → listed.getD i false = true → ∀ e ∈ o.after, Region.binds .any e = true → listed.getD e.on false = true) ∧ a = detAct dst F a0 listed n ∧ w' = Wf listed) hm (fun _ _ _ h => by rw [hn]; exact h.1) ?_ ?_ ?_ hlow
  · rw [hn]
    refine ⟨by simp, fun i o ho hl => ?_, hzero.symm, hW0.symm⟩
    exfalso
    by_cases hk : i < n <;> simp [hk] at hl
  · rintro listed a w' ⟨hs, hcl, rfl, rfl⟩ i o ho h0 hdep
    have h00 := getD_false h0
    have hi : i < n := by rw [← hn]; exact (Array.getElem?_eq_some_iff.1 ho).1
    refine wpOp_mono (fun a' w'' h => ?_) (hstep listed hs hcl i o ho h00 hdep)
    refine ⟨by simpa using hs, fun j p hp hlj e he hb => ?_, by rw [h.1, det_set (by omega) h00 n hi (fun j h1 h2 => hdist i j h1 h2)], h.2⟩
    by_cases hei : i = e.on
    · rw [← hei]; exact mark_same (by omega)
    · rw [mark_other hei]
      by_cases hij : i = j
      · subst hij
        rw [ho] at hp
        obtain rfl := Option.some.inj hp
        exact hdep e he hb
      · rw [mark_other hij] at hlj
        exact hcl j p hp hlj e he hb
  · rintro listed a w' ⟨hs, _, rfl, rfl⟩ hc
    have hall := listed_all hs hc
    have e : listed = Array.replicate n true := by
      apply Array.ext
      · simp [hs]
      · intro j h1 h2
        have := hall j (by omega)
        simpa [h1] using this
    rw [e]
    exact hdone
/-- The same; the frame in a step is a letter of which the operations' slots are known. -/
theorem wp_region_frames (n : Nat) (dst : Nat → Option Nat) (F : Nat → Value) (Wf : Array Bool → World) {id : Nat} {a0 : Act} {w : World} (hm : P.follows .mixedOrders = true) (hn : ops.size = n)
    (hdist : ∀ i j, i < j → j < n → dst i = none ∨ dst i ≠ dst j) (hlow : ∀ (i : Nat) (o : Oper), ops[i]? = some o → ∀ e ∈ o.after, e.on < i) (hin : ∀ i d, i < n → dst i = some d → d < a0.tmps.size)
    (hW0 : Wf (Array.replicate n false) = { w with drawn := w.drawn + 1 })
    (hstep : ∀ listed : Array Bool, listed.size = n → (∀ (i : Nat) (o : Oper), ops[i]? = some o → listed.getD i false = true → ∀ e ∈ o.after, Region.binds .any e = true → listed.getD e.on false = true) →
      ∀ A : Act, (∀ i d, i < n → listed.getD i false = true → dst i = some d → A.tmps.getD d undef = F i) → (∀ d, (∀ j, j < n → dst j ≠ some d) → A.tmps.getD d undef = a0.tmps.getD d undef) →
      ∀ (i : Nat) (o : Oper), ops[i]? = some o → listed.getD i false = false → (∀ e ∈ o.after, Region.binds .any e = true → listed.getD e.on false = true) →
      wpOp P ops Q i (fun a' w' => a' = A.put (dst i) (F i) ∧ w' = Wf (listed.setIfInBounds i true)) A (Wf listed))
    (hdone : Q .normal (putAll dst F a0 n) (Wf (Array.replicate n true))) : (Code.region id ops true).wp P Q a0 w := by
  refine wp_region_det n dst F Wf hm hn hdist hlow hW0 (fun listed hs hcl i o ho h0 hdep => ?_) (by rw [det_all dst F a0 n n (Nat.le_refl n)]; exact hdone)
  exact hstep listed hs hcl _ (fun i d hi hl hd => det_get hl hd (hin i d hi hd) n hi (fun j h1 h2 => hdist i j h1 h2)) (fun d hd => det_old n hd) i o ho h0 hdep
end
end Go.Proofs.Ytldfamdjdkaloaa

namespace Go.Proofs.Ytldfamdjdkaloaa
open Go.RowKit

section
variable {dst : Nat → Option Nat} {a0 : Act}
theorem det_congr {F G : Nat → Value} {listed : Array Bool} : ∀ n, (∀ j, j < n → listed.getD j false = true → F j = G j) → detAct dst F a0 listed n = detAct dst G a0 listed n
  | 0, _ => rfl
  | k + 1, h => by
    have ih := det_congr (F := F) (G := G) (listed := listed) k (fun j hj => h j (by omega))
    unfold detAct
    by_cases hl : listed.getD k false = true
    · rw [if_pos hl, if_pos hl, ih, h k (by omega) hl]
    · rw [if_neg hl, if_neg hl, ih]
/-- What a slot holds that none of the operations that have come up writes. -/
theorem det_still {F : Nat → Value} {listed : Array Bool} {d : Nat} : ∀ n, (∀ j, j < n → dst j = some d → listed.getD j false = false) → (detAct dst F a0 listed n).tmps.getD d undef = a0.tmps.getD d undef
  | 0, _ => rfl
  | k + 1, h => by
    have ih := det_still (F := F) (listed := listed) k (fun j hj => h j (by omega))
    unfold detAct
    by_cases hl : listed.getD k false = true
    · rw [if_pos hl]
      cases hk : dst k with
      | none => exact ih
      | some e =>
        have hne : e ≠ d := fun x => by
          have := h k (by omega) (by rw [hk, x])
          rw [hl] at this
          cases this
        rw [← ih]
        simp [Act.put, Array.getElem?_setIfInBounds_ne hne]
    · rw [if_neg hl]
      exact ih
end
section
variable {P : Program} {ops : Array Oper} {Q : Exit → Act → World → Prop}
theorem wp_region_vals (n m : Nat) (dst : Nat → Option Nat) (R : Bool → Nat → Value → World → Prop) (S : Bool → World → Prop) {id : Nat} {a0 : Act} {w : World} (hm : P.follows .mixedOrders = true) (hn : ops.size = n)
    (hdist : ∀ i j, i < j → j < n → dst i = none ∨ dst i ≠ dst j) (hlow : ∀ (i : Nat) (o : Oper), ops[i]? = some o → ∀ e ∈ o.after, e.on < i) (hin : ∀ i d, i < n → dst i = some d → d < a0.tmps.size)
    (hstab : ∀ b j u W W', Below W.heap.size W W' → R b j u W → R b j u W')
    (hdrop : ∀ j u W, j < m → R true j u W)
    (hlate : ∀ (j : Nat) (o : Oper), m < j → ops[j]? = some o → ∃ e ∈ o.after, Region.binds .any e = true ∧ e.on = m)
    (hS : S false { w with drawn := w.drawn + 1 })
    (hstep : ∀ (listed : Array Bool) (W : World), listed.size = n → (∀ (i : Nat) (o : Oper), ops[i]? = some o → listed.getD i false = true → ∀ e ∈ o.after, Region.binds .any e = true → listed.getD e.on false = true) → S (listed.getD m false) W →
      ∀ (A : Act) (F : Nat → Value), (∀ i d, i < n → listed.getD i false = true → dst i = some d → A.tmps.getD d undef = F i) → (∀ i, i < n → listed.getD i false = true → R (listed.getD m false) i (F i) W) →
      (∀ d, (∀ j, j < n → dst j = some d → listed.getD j false = false) → A.tmps.getD d undef = a0.tmps.getD d undef) →
      ∀ (i : Nat) (o : Oper), ops[i]? = some o → listed.getD i false = false → (∀ e ∈ o.after, Region.binds .any e = true → listed.getD e.on false = true) →
      wpOp P ops Q i (fun a' w' => ∃ v, a' = A.put (dst i) v ∧ ((i ≠ m ∧ S (listed.getD m false) w' ∧ R (listed.getD m false) i v w' ∧ Below W.heap.size W w') ∨ (i = m ∧ S true w' ∧ R true i v w'))) A W)
    (hdone : ∀ (F : Nat → Value) (W : World), S ((Array.replicate n true).getD m false) W → (∀ i, i < n → R ((Array.replicate n true).getD m false) i (F i) W) → Q .normal (putAll dst F a0 n) W) : (Code.region id ops true).wp P Q a0 w := by
  have hzero : ∀ F, detAct dst F a0 (Array.replicate n false) n = a0 := by
    intro F
    have : ∀ k, detAct dst F a0 (Array.replicate n false) k = a0 := by
      intro k
      induction k with
      | zero => rfl
      | succ k ih =>
        unfold detAct
        rw [if_neg, ih]
        by_cases hk : k < n <;> simp [hk]
    exact this n
  refine wp_region_inv (fun listed a w' => listed.size = n ∧ (∀ (i : Nat) (o : Oper), ops[i]? = some o → listed.getD i false = true → ∀ e ∈ o.after, Region.binds .any e = true → listed.getD e.on false = true) ∧ ∃ F, a = detAct dst F a0 listed n ∧ S (listed.getD m false) w' ∧ ∀ i, i < n → listed.getD i false = true → R (listed.getD m false) i (F i) w') hm (fun _ _ _ h => by rw [hn]; exact h.1) ?_ ?_ ?_ hlow
  · rw [hn]
    refine ⟨by simp, fun i o ho hl => ?_, fun _ => undef, (hzero _).symm, ?_, fun i hi hl => ?_⟩
    · exfalso
      by_cases hk : i < n <;> simp [hk] at hl
    · rw [show (Array.replicate n false).getD m false = false by by_cases hk : m < n <;> simp [hk]]
      exact hS
    · exfalso
      simp [hi] at hl
  · rintro listed a w' ⟨hs, hcl, F, rfl, hSw, hR⟩ i o ho h0 hdep
    have h00 := getD_false h0
    have hi : i < n := by rw [← hn]; exact (Array.getElem?_eq_some_iff.1 ho).1
    refine wpOp_mono (fun a' w'' h => ?_) (hstep listed w' hs hcl hSw _ F (fun i d hi hl hd => det_get hl hd (hin i d hi hd) n hi (fun j h1 h2 => hdist i j h1 h2)) hR (fun d hd => det_still n hd) i o ho h00 hdep)
    obtain ⟨v, ha, hv⟩ := h
    refine ⟨by simpa using hs, fun j p hp hlj e he hb => ?_, fun j => if j = i then v else F j, ?_, ?_, fun j hj hlj => ?_⟩
    · by_cases hei : i = e.on
      · rw [← hei]; exact mark_same (by omega)
      · rw [mark_other hei]
        by_cases hij : i = j
        · subst hij
          rw [ho] at hp
          obtain rfl := Option.some.inj hp
          exact hdep e he hb
        · rw [mark_other hij] at hlj
          exact hcl j p hp hlj e he hb
    · rw [det_set (by omega) h00 n hi (fun j h1 h2 => hdist i j h1 h2), if_pos rfl, ha]
      congr 1
      refine det_congr n fun j hj hlj => ?_
      rw [if_neg]
      intro e
      rw [e, h00] at hlj
      cases hlj
    · rcases hv with ⟨hne, hs', _⟩ | ⟨he, hs', _⟩
      · rw [mark_other hne]; exact hs'
      · subst he
        rw [mark_same (by omega)]; exact hs'
    · show R _ j (if j = i then v else F j) w''
      by_cases hji : j = i
      · subst hji
        rw [if_pos rfl]
        rcases hv with ⟨hne, _, hr, _⟩ | ⟨he, _, hr⟩
        · rw [mark_other hne]; exact hr
        · subst he
          rw [mark_same (by omega)]; exact hr
      · rw [if_neg hji]
        rw [mark_other (fun e => hji e.symm)] at hlj
        rcases hv with ⟨hne, _, _, hb⟩ | ⟨he, _⟩
        · rw [mark_other hne]
          exact hstab _ _ _ _ _ hb (hR j hj hlj)
        · subst he
          rw [mark_same (by omega)]
          by_cases hjm : j < i
          · exact hdrop j _ _ hjm
          · exfalso
            have hop : ops[j]? = some ops[j] := Array.getElem?_eq_getElem (by omega)
            obtain ⟨e, he, hb, hon⟩ := hlate j _ (by omega) hop
            have := hcl j _ hop hlj e he hb
            rw [hon, h00] at this
            cases this
  · rintro listed a w' ⟨hs, _, F, rfl, hSw, hR⟩ hc
    have hall := listed_all hs hc
    have e : listed = Array.replicate n true := by
      apply Array.ext
      · simp [hs]
      · intro j h1 h2
        have := hall j (by omega)
        simpa [h1] using this
    subst e
    rw [det_all dst F a0 n n (Nat.le_refl n)]
    exact hdone F w' hSw fun i hi => hR i hi (hall i hi)
end
end Go.Proofs.Ytldfamdjdkaloaa

namespace Go.Proofs.Ytldfamdjdkaloaa
open Go.RowKit

/-- Block g holds just these cells of a type. -/
def Blk (w : World) (g : Nat) (t : TypeId) (xs : List Value) : Prop := w.heap[g]? = some (.cells xs.toArray t (0, 0))
theorem Blk.new (w : World) (t : TypeId) (xs : List Value) : Blk (w.alloc (.cells xs.toArray t)) w.heap.size t xs := heap_alloc_last w _
theorem Blk.lt {w : World} {g : Nat} {t : TypeId} {xs : List Value} (h : Blk w g t xs) : g < w.heap.size := (Array.getElem?_eq_some_iff.1 h).1
theorem Blk.below {w w' : World} {g B : Nat} {t : TypeId} {xs : List Value} (h : Blk w g t xs) (hb : Below B w w') (hg : g < B) : Blk w' g t xs := (hb.block g hg).trans h
theorem Blk.kept {w w' : World} {g : Nat} {t : TypeId} {xs : List Value} (h : Blk w g t xs) (hb : Below w.heap.size w w') : Blk w' g t xs := h.below hb h.lt
theorem Blk.cell {w : World} {g : Nat} {t : TypeId} {xs : List Value} (h : Blk w g t xs) (i : Nat) {u : Value} (hi : xs[i]? = some u) : w.cell? ⟨g, i, none⟩ = some u := by
  rw [cell_of_row _ _ i _ _ _ h, List.getElem?_toArray, hi]
theorem Blk.row {w : World} {g : Nat} {t : TypeId} {xs : List Value} (h : Blk w g t xs) (hm : xs.length ≤ maxLen) : w.ownsRow g t 1 (.slice (some ⟨g, 0, none⟩) xs.length xs.length) xs.length xs := own_block h (Nat.le_refl _) rfl hm
theorem Blk.frozen {w : World} {g : Nat} {t : TypeId} {xs : List Value} (h : Blk w g t xs) (hm : xs.length ≤ maxLen) (i : Nat) : w.frozen? ⟨g, i, none⟩ = false := (h.row hm).frozenAt i
theorem Blk.set {w : World} {g : Nat} {t : TypeId} {xs : List Value} (h : Blk w g t xs) (hm : xs.length ≤ maxLen) (i : Nat) (u : Value) : Blk (w.setCell ⟨g, i, none⟩ u) g t (xs.set i u) := by
  have := ((h.row hm).stored i u).1
  rw [show xs.length = (xs.set i u).length by simp] at this
  exact own_whole this
theorem Blk.other {w : World} {g k i : Nat} {t : TypeId} {xs : List Value} (h : Blk w g t xs) (hne : g ≠ k) (u : Value) : Blk (w.setCell ⟨k, i, none⟩ u) g t xs := by
  unfold Blk
  rw [heap_setCell_other _ _ _ _ hne]
  exact h
/-- A struct and something, out of the result's own cells. -/
theorem ret_cell {fn : Func} {w : World} {g : Nat} {t : TypeId} {xs : List Value} {p u : Nat} {v : Value} {tmps : Array Value} (hl : (loadVar t ⟨g, 0, none⟩).run Try.prog w = .ok (.agg xs.toArray) w)
    (h : fn.results = #[.cell p t, .tmp u]) (hp : tmps.getD p undef = .pointer (some ⟨g, 0, none⟩)) (hv : tmps.getD u undef = v) : (results fn tmps).run Try.prog w = .ok (.tuple #[.agg xs.toArray, v]) w := by
  rw [results_cell_tmp h, hp, hv]
  simp [asAddr, hl]
/-- A struct out of the result's own cells. -/
theorem ret_cell1 {fn : Func} {w : World} {g : Nat} {t : TypeId} {xs : List Value} {p : Nat} {tmps : Array Value} (hl : (loadVar t ⟨g, 0, none⟩).run Try.prog w = .ok (.agg xs.toArray) w)
    (h : fn.results = #[.cell p t]) (hp : tmps.getD p undef = .pointer (some ⟨g, 0, none⟩)) : (results fn tmps).run Try.prog w = .ok (.agg xs.toArray) w := by
  have hp' : tmps[p]?.getD undef = .pointer (some ⟨g, 0, none⟩) := by simpa using hp
  simp only [results, h]
  simp [hp', asAddr, hl]
/-- All five cells of a block written. -/
theorem Blk.set5 {w : World} {g : Nat} {t : TypeId} {x0 x1 x2 x3 x4 : Value} (h : Blk w g t [x0, x1, x2, x3, x4]) (y0 y1 y2 y3 y4 : Value) :
    Blk (((((w.setCell ⟨g, 0, none⟩ y0).setCell ⟨g, 1, none⟩ y1).setCell ⟨g, 2, none⟩ y2).setCell ⟨g, 3, none⟩ y3).setCell ⟨g, 4, none⟩ y4) g t [y0, y1, y2, y3, y4] := by
  have h5 : 5 ≤ maxLen := by decide
  exact ((((h.set h5 0 y0).set h5 1 y1).set h5 2 y2).set h5 3 y3).set h5 4 y4
theorem Blk.facts5 {w : World} {g : Nat} {t : TypeId} {x0 x1 x2 x3 x4 : Value} (h : Blk w g t [x0, x1, x2, x3, x4]) :
    (w.cell? ⟨g, 0, none⟩ = some x0 ∧ w.cell? ⟨g, 1, none⟩ = some x1 ∧ w.cell? ⟨g, 2, none⟩ = some x2 ∧ w.cell? ⟨g, 3, none⟩ = some x3 ∧ w.cell? ⟨g, 4, none⟩ = some x4) ∧
    (w.frozen? ⟨g, 0, none⟩ = false ∧ w.frozen? ⟨g, 1, none⟩ = false ∧ w.frozen? ⟨g, 2, none⟩ = false ∧ w.frozen? ⟨g, 3, none⟩ = false ∧ w.frozen? ⟨g, 4, none⟩ = false) := by
  have h5 : 5 ≤ maxLen := by decide
  exact ⟨⟨h.cell 0 rfl, h.cell 1 rfl, h.cell 2 rfl, h.cell 3 rfl, h.cell 4 rfl⟩, ⟨h.frozen h5 0, h.frozen h5 1, h.frozen h5 2, h.frozen h5 3, h.frozen h5 4⟩⟩
theorem below_set5 {w w' : World} {B g : Nat} (h : Below B w w') (hg : B ≤ g) (y0 y1 y2 y3 y4 : Value) : Below B w (((((w'.setCell ⟨g, 0, none⟩ y0).setCell ⟨g, 1, none⟩ y1).setCell ⟨g, 2, none⟩ y2).setCell ⟨g, 3, none⟩ y3).setCell ⟨g, 4, none⟩ y4) :=
  ((((h.setCell hg _).setCell hg _).setCell hg _).setCell hg _).setCell hg _
end Go.Proofs.Ytldfamdjdkaloaa

namespace Go.Proofs.Ytldfamdjdkaloaa
open Go.RowKit

def longSpec (x A A1 : Int) (N raw : Value) (j : Nat) (v : Value) (w : World) : Prop :=
  match j with
  | 0 => v = .int .u32 x
  | 1 => v = raw
  | 2 => v = N
  | 3 => v = .int .u32 A
  | 4 => v = raw
  | 5 => v = N
  | 6 => v = .int .u32 A
  | 7 => v = .int .u32 A1
  | 8 => ∃ g, v = .slice (some ⟨g, 0, none⟩) 3 3 ∧ Blk w g 26 [.int .u32 x, .int .u32 A, .int .u32 A1]
  | 9 => v = .int .i64 3
  | _ => v = .int .i64 0
theorem longSpec_kept {x A A1 : Int} {N raw : Value} {j : Nat} {v : Value} {w w' : World} (hb : Below w.heap.size w w') (h : longSpec x A A1 N raw j v w) : longSpec x A A1 N raw j v w' := by
  unfold longSpec at *
  split at h
  · exact h
  · exact h
  · exact h
  · exact h
  · exact h
  · exact h
  · exact h
  · exact h
  · obtain ⟨g, h1, h2⟩ := h; exact ⟨g, h1, h2.kept hb⟩
  · exact h
  · exact h
def longDst (i : Nat) : Option Nat := ([some 26, some 27, some 28, some 29, some 30, some 31, some 32, some 33, some 34, some 35, some 36] : List (Option Nat)).getD i none
theorem long_dist (i j : Nat) (h : i < j) (hj : j < 11) : longDst i = none ∨ longDst i ≠ longDst j := (by decide : ∀ j, j < 11 → ∀ i, i < j → (longDst i = none ∨ longDst i ≠ longDst j)) j hj i h
theorem long_in (i d : Nat) (hi : i < 11) (hd : longDst i = some d) : 26 ≤ d ∧ d ≤ 36 := by
  have h := (by decide : ∀ i, i < 11 → 26 ≤ (longDst i).getD 30 ∧ (longDst i).getD 0 ≤ 36) i hi
  rw [hd] at h
  exact h
theorem long_put (F : Nat → Value) (a0 : Act) : putAll longDst F a0 11 = (((((((((((a0.put (some 26) (F 0)).put (some 27) (F 1)).put (some 28) (F 2)).put (some 29) (F 3)).put (some 30) (F 4)).put (some 31) (F 5)).put (some 32) (F 6)).put (some 33) (F 7)).put (some 34) (F 8)).put (some 35) (F 9)).put (some 36) (F 10)) := rfl
end Go.Proofs.Ytldfamdjdkaloaa

namespace Go.Proofs.Ytldfamdjdkaloaa
open Go.RowKit

theorem bcells_one (bs : List UInt8) : ∀ v ∈ bcells bs, v.oneCell' = true := by
  intro v hv; simp only [bcells, List.mem_map] at hv; obtain ⟨c, _, rfl⟩ := hv; rfl

/-- A call has answered some bytes of its own and an error. -/
def SlicePost (err : Nat) (out : List UInt8) (w : World) (e : Ending) (w' : World) : Prop :=
  ∃ a n c, e = .returned (.tuple #[.slice a n c, .int .i64 (err : Int)]) ∧
    w'.ownsRow w.heap.size 5 1 (.slice a n c) out.length (bcells out) ∧ Below w.heap.size w w'
theorem slicePost_none {w wr : World} {err : Nat} (hb : Below w.heap.size w wr) : SlicePost err [] w (.returned (.tuple #[.slice none 0 0, .int .i64 (err : Int)])) wr :=
  ⟨none, 0, 0, rfl, World.ownsRow_nil _ _ _ _, hb⟩
theorem slicePost_own {w wr : World} {err n c : Nat} {a : Option Addr} {out : List UInt8} (ho : wr.ownsRow w.heap.size 5 1 (.slice a n c) n (bcells out)) (hb : Below w.heap.size w wr) :
    SlicePost err out w (.returned (.tuple #[.slice a n c, .int .i64 (err : Int)])) wr :=
  ⟨a, n, c, rfl, by have := ho.1; rw [bcells_length] at this; rw [this, Nat.mul_one]; exact ho, hb⟩
theorem info_u8 : ∃ i, Try.prog.info? 5 = some i ∧ i.zero = some (.int .u8 0) ∧ i.size = 1 ∧ i.bytes = 1 := info_parts (by kernel_rfl)
/-- The same at []byte of this program. -/
theorem wpL_append8 (w : World) {ops : Array Oper} {rest : List Oper} {o : Oper} {a : Act} {Q : Exit → Act → World → Prop} (hgd : o.guard = none) (s x : Operand)
    (ho : o.op = .call { callee := .builtin .append, args := #[s, x], argTypes := #[88, 88] }) (base : Nat)
    (av : Option Addr) (n c : Nat) (xs : List Value) (hs : a.eval s = .slice av n c) (hown : w.ownsRow base 5 1 (.slice av n c) n xs)
    (ao : Option Addr) (m cx : Nat) (news : List Value) (hx : a.eval x = .slice ao m cx) (hl : news.length = m) (hnil : ao = none → m = 0 ∧ cx = 0) (hnews : ∀ ad, ao = some ad → ∀ j u, news[j]? = some u → w.cell? (ad.add j) = some u)
    (h1 : ∀ u ∈ news, u.oneCell' = true) (hmax : n + m ≤ 140737488355328) (hbase : base ≤ w.heap.size)
    (h : ∀ a' c' w', w'.ownsRow base 5 1 (.slice a' (n + m) c') (n + m) (xs ++ news) → w.grownBy w' (Value.slice av n c).ownBlock → wpList Try.prog ops Q rest (a.put o.dst (.slice a' (n + m) c')) w') : wpList Try.prog ops Q (o :: rest) a w := by
  obtain ⟨i, hi, hz0, hz1, hz2⟩ := info_u8
  exact wpList_append_any w hgd s x 88 ho base 5 i (.int .u8 0) 1 Try.underlying88 hi hz0 hz1 hz2 rfl av n c xs hs hown ao m cx news hx hl hnil hnews h1 (by unfold maxLen; omega) (by omega) hbase h
/-- The same, and where the new row lies. -/
theorem wpL_append8_at (w : World) {ops : Array Oper} {rest : List Oper} {o : Oper} {a : Act} {Q : Exit → Act → World → Prop} (hgd : o.guard = none) (s x : Operand)
    (ho : o.op = .call { callee := .builtin .append, args := #[s, x], argTypes := #[88, 88] }) (base : Nat)
    (av : Option Addr) (n c : Nat) (xs : List Value) (hs : a.eval s = .slice av n c) (hown : w.ownsRow base 5 1 (.slice av n c) n xs)
    (ao : Option Addr) (m cx : Nat) (news : List Value) (hx : a.eval x = .slice ao m cx) (hl : news.length = m) (hnil : ao = none → m = 0 ∧ cx = 0) (hnews : ∀ ad, ao = some ad → ∀ j u, news[j]? = some u → w.cell? (ad.add j) = some u)
    (h1 : ∀ u ∈ news, u.oneCell' = true) (hmax : n + m ≤ 140737488355328) (hbase : base ≤ w.heap.size)
    (h : ∀ a' c' w', w'.ownsRow base 5 1 (.slice a' (n + m) c') (n + m) (xs ++ news) → w.grownBy w' (Value.slice av n c).ownBlock →
      Hid ((Value.slice a' (n + m) c').ownBlock = (Value.slice av n c).ownBlock ∨ (Value.slice a' (n + m) c').ownBlock = some w.heap.size) → wpList Try.prog ops Q rest (a.put o.dst (.slice a' (n + m) c')) w') : wpList Try.prog ops Q (o :: rest) a w := by
  obtain ⟨i, hi, hz0, hz1, hz2⟩ := info_u8
  obtain ⟨a', c', w', hr, h2, h3, h4⟩ := run_append_any_at (P := Try.prog) w 88 o.type base 5 i (.int .u8 0) 1 Try.underlying88 hi hz0 hz1 hz2 rfl av n c xs hown ao m cx news hl hnil hnews h1 (by unfold maxLen; omega) (by omega) hbase
  refine wpList_plain hgd fun K hK => ?_
  unfold Oper.wp execOp
  simp only [ho, resolve, invoke, builtin, Sem.run_bind, Sem.run_pure, Result.andThen_ok, List.map_toArray, List.map_cons, List.map_nil, hs, hx, hr]
  exact hK _ _ (h a' c' w' h2 h3 (Lib.hid h4))
theorem BytesAt.news {w : World} {B n : Nat} {a : Option Addr} {bs : List UInt8} (h : BytesAt w B a n bs) : ∀ ad, a = some ad → ∀ j u, (bcells bs)[j]? = some u → w.cell? (ad.add j) = some u := by
  intro ad ha j u hu
  have hj : j < bs.length := by have := (List.getElem?_eq_some_iff.1 hu).1; rwa [bcells_length] at this
  obtain ⟨b, off, e, _, hc⟩ := h.2 (by have := h.1; omega)
  rw [ha] at e
  injection e with e
  subst e
  rw [bcells_get bs j hj] at hu
  rw [Addr.add_lit, hc j hj]
  exact hu
theorem BytesAt.drewN {w : World} {B n : Nat} {a : Option Addr} {bs : List UInt8} (h : BytesAt w B a n bs) (k : Nat) : BytesAt (w.drewN k) B a n bs :=
  ⟨h.1, fun hn => by obtain ⟨b, off, e, hlt, hc⟩ := h.2 hn; exact ⟨b, off, e, hlt, fun i hi => by simpa using hc i hi⟩⟩
theorem below_drewN {B : Nat} {w w' : World} (h : Below B w w') (k : Nat) : Below B w (w'.drewN k) := by
  induction k with
  | zero => simpa [World.drewN] using h
  | succ k ih => exact ih.drew
/-- The cells of a block that the walk has just made. -/
theorem news_new (w : World) (cs : Array Value) (t : TypeId) : ∀ ad, (some (⟨w.heap.size, 0, none⟩ : Addr)) = some ad → ∀ j u, cs.toList[j]? = some u → (w.alloc (.cells cs t)).cell? (ad.add j) = some u := by
  intro ad ha j u hu
  injection ha with ha
  subst ha
  exact World.news_of_block (heap_alloc_last w _) j u hu
end Go.Proofs.Ytldfamdjdkaloaa

namespace Go.Proofs.Ytldfamdjdkaloaa
open Go.RowKit

theorem raws_up {w w' : World} {B : Nat} {n : Nat} {a : Option Addr} {l : List RawD} (h : RawsAt w B a n l) (hb : Below B w w') (hs : B ≤ w'.heap.size) : RawsAt w' w'.heap.size a n l :=
  ⟨h.1, fun hn => by
    obtain ⟨b, off, e, hlt, hc⟩ := (h.below hb).2 hn
    exact ⟨b, off, e, Nat.lt_of_lt_of_le hlt hs, hc⟩⟩
theorem range_kept {l : List RawD} {b r k cnt : Nat} {left : Lit → Bool} {w w' : World} (h : RangeK l b r k left cnt w) (hb : Below w.heap.size w w') : RangeK l b r k left cnt w' :=
  World.ranges.kept (row := none) h ⟨hb.os, hb.tape, hb.output, hb.size, fun j hj _ => hb.block j hj⟩ (by simp) (by simp)
set_option maxRecDepth 20000 in
set_option maxHeartbeats 8000000 in
theorem law_TrieLongest (a : Option Addr) (n c : Nat) (l : List RawD) (x : Int) (rk ra rb : Int) (rs : ByteArray) (w : World) (h : RawsAt w w.heap.size a n l) (_hc : n ≤ c) (hok : ∀ r ∈ l, r.ok) (x0 : 0 ≤ x) (x1 : x ≤ 4294967295)
    (hr : (-9223372036854775808 ≤ rk ∧ rk ≤ 9223372036854775807) ∧ (-9223372036854775808 ≤ ra ∧ ra ≤ 9223372036854775807) ∧ (-9223372036854775808 ≤ rb ∧ rb ≤ 9223372036854775807)) :
    Calls Try.prog 10 #[.slice a n c, .int .u32 x, rawV rk ra rb rs] w fun e w' => e = .returned (.bool true) ∧ Below w.heap.size w w' := by
  obtain ⟨⟨k0, k1⟩, ⟨a0, a1⟩, b0, b1⟩ := hr
  obtain ⟨w0, hw0⟩ : ∃ w0, w0 = w.alloc (.cells #[.int .i64 rk, .int .i64 ra, .int .i64 rb, .string rs] 48) := ⟨_, rfl⟩
  have hA : Below w.heap.size w w0 := by rw [hw0]; exact (Below.refl _ _).alloc (Nat.le_refl _) _
  have hG0 : Blk w0 w.heap.size 48 [.int .i64 rk, .int .i64 ra, .int .i64 rb, .string rs] := by rw [hw0]; exact Blk.new _ _ _
  have HT := Lib.hid (keep_treeOf a n c l w0 (raws_up h hA hA.size) hok)
  have HNet := Lib.hid (fun W => keep_Net rk ra rb rs W k0 k1 a0 a1 b0 b1)
  obtain ⟨i1, i2, i3, i4⟩ := Tr.tree_inv l (min n 16)
  have hi16 := Nat.le_trans i3 (Nat.min_le_right n 16)
  have HC0 := Lib.hid (Tr.come_begin l (min n 16))
  obtain ⟨T, hT⟩ : ∃ T, T = Tr.tree l (min n 16) := ⟨_, rfl⟩
  have HTt := Lib.hid hT
  rw [← hT] at i1 i2 i3 i4 hi16 HC0
  have HCS := Lib.hid (fun left y hy => Tr.come_step i2 i1 (left := left) (y := y) hy)
  obtain ⟨_, hgT, _, _, _, _⟩ := Tr.fault_facts i2 i1
  have HgT := Lib.hid hgT
  have hga := (raw_good rk ra rb).1
  have HA := Lib.hid hA
  have HG0 := Lib.hid hG0
  have HW0 := Lib.hid hw0
  unfold rawV at HNet ⊢
  clear h hok i3 hT hgT hA hG0 hw0
  generalize Nt.rawA rk ra rb = A at *
  generalize (Nt.rawB rk ra rb : Int) = B at *
  obtain ⟨X, rfl⟩ : ∃ X : Nat, x = (X : Int) := ⟨x.toNat, by omega⟩
  obtain ⟨A1, hA1⟩ : ∃ A1 : Nat, A1 = (A + 1) % 4294967296 := ⟨_, rfl⟩
  have hA1l : A1 < 4294967296 := by omega
  have cw : IntKind.u32.wrap ((A : Int) + 1) = (A1 : Int) := by rw [IntKind.wrap_u32]; omega
  clear hA1
  go_enter Try.func10, Try.ntmps10
  go_upto_region 1 with fail
  rw [← HW0.out]
  go_wp2_with fail
  refine HT.out.mono ?_
  rintro e w1 ⟨v, mb, rfl, ⟨ho, hmk, hB1⟩, hmb⟩
  rw [← HTt.out] at ho
  obtain ⟨ta, tc, rfl, _, hn1⟩ := ho.at
  have HG1 := Lib.hid (HG0.out.kept hB1)
  have HB1 := Lib.hid (HA.out.trans (hB1.mono HA.out.size))
  have Hn1 := Lib.hid hn1
  have Hmk := Lib.hid hmk
  clear ho hB1 hn1 hmk HT
  go_upto_region 4 with fail
  go_cut [34, 35, 36] (fun v34 v35 v36 wx => ∃ g, v34 = .slice (some ⟨g, 0, none⟩) 3 3 ∧ v35 = .int .i64 3 ∧ v36 = .int .i64 0 ∧ Hid (Blk wx g 26 [.int .u32 (X : Int), .int .u32 (A : Int), .int .u32 (A1 : Int)] ∧ Below w1.heap.size w1 wx))
  case first =>
    have hmix : Try.prog.follows .mixedOrders = true := by kernel_rfl
    refine wp_region_vals 11 11 longDst (fun b j v W => b = true ∨ longSpec X A A1 (.agg #[.int .u32 (A : Int), .int .i64 B]) (.agg #[.int .i64 rk, .int .i64 ra, .int .i64 rb, .string rs]) j v W) (fun _ W => Below w1.heap.size w1 W) hmix rfl long_dist ?low ?inn ?stab ?drop ?late ?s0 ?step ?done
    case low =>
      intro i o ho
      have hi : i < 11 := by
        have := (Array.getElem?_eq_some_iff.1 ho).1
        simpa using this
      have hc : i = 0 ∨ i = 1 ∨ i = 2 ∨ i = 3 ∨ i = 4 ∨ i = 5 ∨ i = 6 ∨ i = 7 ∨ i = 8 ∨ i = 9 ∨ i = 10 := by omega
      rcases hc with rfl | rfl | rfl | rfl | rfl | rfl | rfl | rfl | rfl | rfl | rfl <;> (obtain rfl := Option.some.inj ho; simp)
    case inn =>
      intro i d hi hd
      have hle := (long_in i d hi hd).2
      exact Nat.lt_of_le_of_lt hle (of_decide_eq_true rfl)
    case stab =>
      intro b j u W W' hb h
      rcases h with h | h
      · exact .inl h
      · exact .inr (longSpec_kept hb h)
    case drop => exact fun j u W hj => .inl rfl
    case late =>
      intro j o hj ho
      have hi : j < 11 := by
        have := (Array.getElem?_eq_some_iff.1 ho).1
        simpa using this
      omega
    case s0 => exact (Below.refl _ _).drew
    case done =>
      intro F W hS hR
      have hspec : ∀ i, i < 11 → longSpec X A A1 (.agg #[.int .u32 (A : Int), .int .i64 B]) (.agg #[.int .i64 rk, .int .i64 ra, .int .i64 rb, .string rs]) i (F i) W := by
        intro i hi
        rcases hR i hi with h | h
        · simp at h
        · exact h
      obtain ⟨g, h8, hg⟩ := hspec 8 (by decide)
      have h9 : F 9 = .int .i64 3 := hspec 9 (by decide)
      have h10 : F 10 = .int .i64 0 := hspec 10 (by decide)
      have HF := Lib.hid (And.intro hg hS)
      rw [long_put, h8, h9, h10]
      simp only [Act.put, List.setIfInBounds_toArray, List.set_cons_succ, List.set_cons_zero]
      clear hR hS hspec hg h8 h9 h10
      go_wp2_with fail
      go_meet
      case rel => exact ⟨g, rfl, rfl, rfl, HF⟩
    case step =>
      intro listed W hs hcl hSW A0 F hget hR hold i o ho h0 hdep
      have hi : i < 11 := by
        have := (Array.getElem?_eq_some_iff.1 ho).1
        simpa using this
      have hc : i = 0 ∨ i = 1 ∨ i = 2 ∨ i = 3 ∨ i = 4 ∨ i = 5 ∨ i = 6 ∨ i = 7 ∨ i = 8 ∨ i = 9 ∨ i = 10 := by omega
      have Hsp := Lib.hid (show ∀ j, j < 11 → listed.getD j false = true → longSpec X A A1 (.agg #[.int .u32 (A : Int), .int .i64 B]) (.agg #[.int .i64 rk, .int .i64 ra, .int .i64 rb, .string rs]) j (F j) W by
        intro j hj hlj
        rcases hR j hj hlj with hx | h
        · simp [hs] at hx
        · exact h)
      have Hget := Lib.hid hget
      have Hold := Lib.hid hold
      have HS := Lib.hid hSW
      clear hget hcl hold hSW hR
      rcases hc with rfl | rfl | rfl | rfl | rfl | rfl | rfl | rfl | rfl | rfl | rfl
      · obtain rfl := Option.some.inj ho
        have e1 : A0.tmps.getD 1 undef = .int .u32 (X : Int) := (Hold.out 1 (fun j hj hd => by have := (long_in j 1 hj hd).1; omega)).trans rfl
        refine wpOp_mono (fun a' w' (h : ∃ v, a' = A0.put (some 26) v ∧ Hid (longSpec X A A1 (.agg #[.int .u32 (A : Int), .int .i64 B]) (.agg #[.int .i64 rk, .int .i64 ra, .int .i64 rb, .string rs]) 0 v w') ∧ Hid (Below W.heap.size W w')) => by obtain ⟨v, h1, h2, h3⟩ := h; exact ⟨v, h1, .inl ⟨by decide, HS.out.trans (h3.out.mono HS.out.size), .inr h2.out, h3.out⟩⟩) ?_
        refine wpOp_plain rfl rfl ?_
        clear hdep h0
        unfold Oper.wp
        go_simp
        exact ⟨_, rfl, Lib.hid rfl, Lib.hid (Below.refl _ _)⟩
      · obtain rfl := Option.some.inj ho
        have e5 : A0.tmps.getD 5 undef = .pointer (some ⟨w.heap.size, 0, none⟩) := (Hold.out 5 (fun j hj hd => by have := (long_in j 5 hj hd).1; omega)).trans rfl
        have hGW := HG1.out.kept ((Below.refl w1.heap.size w1).trans HS.out)
        have y0 := hGW.cell 0 rfl
        have y1 := hGW.cell 1 rfl
        have y2 := hGW.cell 2 rfl
        have y3 := hGW.cell 3 rfl
        clear hGW
        refine wpOp_mono (fun a' w' (h : ∃ v, a' = A0.put (some 27) v ∧ Hid (longSpec X A A1 (.agg #[.int .u32 (A : Int), .int .i64 B]) (.agg #[.int .i64 rk, .int .i64 ra, .int .i64 rb, .string rs]) 1 v w') ∧ Hid (Below W.heap.size W w')) => by obtain ⟨v, h1, h2, h3⟩ := h; exact ⟨v, h1, .inl ⟨by decide, HS.out.trans (h3.out.mono HS.out.size), .inr h2.out, h3.out⟩⟩) ?_
        refine wpOp_plain rfl rfl ?_
        clear hdep h0
        unfold Oper.wp
        go_simp
        exact ⟨_, rfl, Lib.hid rfl, Lib.hid (Below.refl _ _)⟩
      · obtain rfl := Option.some.inj ho
        have v1 : A0.tmps.getD 27 undef = .agg #[.int .i64 rk, .int .i64 ra, .int .i64 rb, .string rs] := (Hget.out 1 27 (by decide) (hdep ⟨1, .data⟩ (by simp) rfl) rfl).trans (Hsp.out 1 (by decide) (hdep ⟨1, .data⟩ (by simp) rfl))
        have v1' : A0.tmps[27]?.getD undef = .agg #[.int .i64 rk, .int .i64 ra, .int .i64 rb, .string rs] := by simpa using v1
        refine wpOp_mono (fun a' w' (h : ∃ v, a' = A0.put (some 28) v ∧ Hid (longSpec X A A1 (.agg #[.int .u32 (A : Int), .int .i64 B]) (.agg #[.int .i64 rk, .int .i64 ra, .int .i64 rb, .string rs]) 2 v w') ∧ Hid (Below W.heap.size W w')) => by obtain ⟨v, h1, h2, h3⟩ := h; exact ⟨v, h1, .inl ⟨by decide, HS.out.trans (h3.out.mono HS.out.size), .inr h2.out, h3.out⟩⟩) ?_
        refine wpOp_plain rfl rfl ?_
        clear hdep h0
        unfold Oper.wp
        go_simp
        refine (HNet.out W).mono ?_
        rintro e W' ⟨rfl, hb⟩
        exact ⟨_, rfl, Lib.hid rfl, Lib.hid hb⟩
      · obtain rfl := Option.some.inj ho
        have v2 : A0.tmps.getD 28 undef = .agg #[.int .u32 (A : Int), .int .i64 B] := (Hget.out 2 28 (by decide) (hdep ⟨2, .data⟩ (by simp) rfl) rfl).trans (Hsp.out 2 (by decide) (hdep ⟨2, .data⟩ (by simp) rfl))
        have v2' : A0.tmps[28]?.getD undef = .agg #[.int .u32 (A : Int), .int .i64 B] := by simpa using v2
        refine wpOp_mono (fun a' w' (h : ∃ v, a' = A0.put (some 29) v ∧ Hid (longSpec X A A1 (.agg #[.int .u32 (A : Int), .int .i64 B]) (.agg #[.int .i64 rk, .int .i64 ra, .int .i64 rb, .string rs]) 3 v w') ∧ Hid (Below W.heap.size W w')) => by obtain ⟨v, h1, h2, h3⟩ := h; exact ⟨v, h1, .inl ⟨by decide, HS.out.trans (h3.out.mono HS.out.size), .inr h2.out, h3.out⟩⟩) ?_
        refine wpOp_plain rfl rfl ?_
        clear hdep h0
        unfold Oper.wp
        go_simp
        exact ⟨_, rfl, Lib.hid rfl, Lib.hid (Below.refl _ _)⟩
      · obtain rfl := Option.some.inj ho
        have e5 : A0.tmps.getD 5 undef = .pointer (some ⟨w.heap.size, 0, none⟩) := (Hold.out 5 (fun j hj hd => by have := (long_in j 5 hj hd).1; omega)).trans rfl
        have hGW := HG1.out.kept ((Below.refl w1.heap.size w1).trans HS.out)
        have y0 := hGW.cell 0 rfl
        have y1 := hGW.cell 1 rfl
        have y2 := hGW.cell 2 rfl
        have y3 := hGW.cell 3 rfl
        clear hGW
        refine wpOp_mono (fun a' w' (h : ∃ v, a' = A0.put (some 30) v ∧ Hid (longSpec X A A1 (.agg #[.int .u32 (A : Int), .int .i64 B]) (.agg #[.int .i64 rk, .int .i64 ra, .int .i64 rb, .string rs]) 4 v w') ∧ Hid (Below W.heap.size W w')) => by obtain ⟨v, h1, h2, h3⟩ := h; exact ⟨v, h1, .inl ⟨by decide, HS.out.trans (h3.out.mono HS.out.size), .inr h2.out, h3.out⟩⟩) ?_
        refine wpOp_plain rfl rfl ?_
        clear hdep h0
        unfold Oper.wp
        go_simp
        exact ⟨_, rfl, Lib.hid rfl, Lib.hid (Below.refl _ _)⟩
      · obtain rfl := Option.some.inj ho
        have v4 : A0.tmps.getD 30 undef = .agg #[.int .i64 rk, .int .i64 ra, .int .i64 rb, .string rs] := (Hget.out 4 30 (by decide) (hdep ⟨4, .data⟩ (by simp) rfl) rfl).trans (Hsp.out 4 (by decide) (hdep ⟨4, .data⟩ (by simp) rfl))
        have v4' : A0.tmps[30]?.getD undef = .agg #[.int .i64 rk, .int .i64 ra, .int .i64 rb, .string rs] := by simpa using v4
        refine wpOp_mono (fun a' w' (h : ∃ v, a' = A0.put (some 31) v ∧ Hid (longSpec X A A1 (.agg #[.int .u32 (A : Int), .int .i64 B]) (.agg #[.int .i64 rk, .int .i64 ra, .int .i64 rb, .string rs]) 5 v w') ∧ Hid (Below W.heap.size W w')) => by obtain ⟨v, h1, h2, h3⟩ := h; exact ⟨v, h1, .inl ⟨by decide, HS.out.trans (h3.out.mono HS.out.size), .inr h2.out, h3.out⟩⟩) ?_
        refine wpOp_plain rfl rfl ?_
        clear hdep h0
        unfold Oper.wp
        go_simp
        refine (HNet.out W).mono ?_
        rintro e W' ⟨rfl, hb⟩
        exact ⟨_, rfl, Lib.hid rfl, Lib.hid hb⟩
      · obtain rfl := Option.some.inj ho
        have v5 : A0.tmps.getD 31 undef = .agg #[.int .u32 (A : Int), .int .i64 B] := (Hget.out 5 31 (by decide) (hdep ⟨5, .data⟩ (by simp) rfl) rfl).trans (Hsp.out 5 (by decide) (hdep ⟨5, .data⟩ (by simp) rfl))
        have v5' : A0.tmps[31]?.getD undef = .agg #[.int .u32 (A : Int), .int .i64 B] := by simpa using v5
        refine wpOp_mono (fun a' w' (h : ∃ v, a' = A0.put (some 32) v ∧ Hid (longSpec X A A1 (.agg #[.int .u32 (A : Int), .int .i64 B]) (.agg #[.int .i64 rk, .int .i64 ra, .int .i64 rb, .string rs]) 6 v w') ∧ Hid (Below W.heap.size W w')) => by obtain ⟨v, h1, h2, h3⟩ := h; exact ⟨v, h1, .inl ⟨by decide, HS.out.trans (h3.out.mono HS.out.size), .inr h2.out, h3.out⟩⟩) ?_
        refine wpOp_plain rfl rfl ?_
        clear hdep h0
        unfold Oper.wp
        go_simp
        exact ⟨_, rfl, Lib.hid rfl, Lib.hid (Below.refl _ _)⟩
      · obtain rfl := Option.some.inj ho
        have v6 : A0.tmps.getD 32 undef = .int .u32 (A : Int) := (Hget.out 6 32 (by decide) (hdep ⟨6, .data⟩ (by simp) rfl) rfl).trans (Hsp.out 6 (by decide) (hdep ⟨6, .data⟩ (by simp) rfl))
        have v6' : A0.tmps[32]?.getD undef = .int .u32 (A : Int) := by simpa using v6
        refine wpOp_mono (fun a' w' (h : ∃ v, a' = A0.put (some 33) v ∧ Hid (longSpec X A A1 (.agg #[.int .u32 (A : Int), .int .i64 B]) (.agg #[.int .i64 rk, .int .i64 ra, .int .i64 rb, .string rs]) 7 v w') ∧ Hid (Below W.heap.size W w')) => by obtain ⟨v, h1, h2, h3⟩ := h; exact ⟨v, h1, .inl ⟨by decide, HS.out.trans (h3.out.mono HS.out.size), .inr h2.out, h3.out⟩⟩) ?_
        refine wpOp_plain rfl rfl ?_
        clear hdep h0
        unfold Oper.wp
        go_simp
        exact ⟨_, rfl, Lib.hid rfl, Lib.hid (Below.refl _ _)⟩
      · obtain rfl := Option.some.inj ho
        have v0 : A0.tmps.getD 26 undef = .int .u32 (X : Int) := (Hget.out 0 26 (by decide) (hdep ⟨0, .data⟩ (by simp) rfl) rfl).trans (Hsp.out 0 (by decide) (hdep ⟨0, .data⟩ (by simp) rfl))
        have v0' : A0.tmps[26]?.getD undef = .int .u32 (X : Int) := by simpa using v0
        have v3 : A0.tmps.getD 29 undef = .int .u32 (A : Int) := (Hget.out 3 29 (by decide) (hdep ⟨3, .data⟩ (by simp) rfl) rfl).trans (Hsp.out 3 (by decide) (hdep ⟨3, .data⟩ (by simp) rfl))
        have v3' : A0.tmps[29]?.getD undef = .int .u32 (A : Int) := by simpa using v3
        have v7 : A0.tmps.getD 33 undef = .int .u32 (A1 : Int) := (Hget.out 7 33 (by decide) (hdep ⟨7, .data⟩ (by simp) rfl) rfl).trans (Hsp.out 7 (by decide) (hdep ⟨7, .data⟩ (by simp) rfl))
        have v7' : A0.tmps[33]?.getD undef = .int .u32 (A1 : Int) := by simpa using v7
        refine wpOp_mono (fun a' w' (h : ∃ v, a' = A0.put (some 34) v ∧ Hid (longSpec X A A1 (.agg #[.int .u32 (A : Int), .int .i64 B]) (.agg #[.int .i64 rk, .int .i64 ra, .int .i64 rb, .string rs]) 8 v w') ∧ Hid (Below W.heap.size W w')) => by obtain ⟨v, h1, h2, h3⟩ := h; exact ⟨v, h1, .inl ⟨by decide, HS.out.trans (h3.out.mono HS.out.size), .inr h2.out, h3.out⟩⟩) ?_
        refine wpOp_plain rfl rfl ?_
        clear hdep h0
        unfold Oper.wp
        go_simp
        exact ⟨_, rfl, Lib.hid ⟨_, rfl, Blk.new W 26 [.int .u32 (X : Int), .int .u32 (A : Int), .int .u32 (A1 : Int)]⟩, Lib.hid ((Below.refl _ _).alloc (Nat.le_refl _) _)⟩
      · obtain rfl := Option.some.inj ho
        have s8 := Hsp.out 8 (by decide) (hdep ⟨8, .data⟩ (by simp) rfl)
        obtain ⟨g, s8, _⟩ := s8
        have v8 : A0.tmps.getD 34 undef = .slice (some ⟨g, 0, none⟩) 3 3 := (Hget.out 8 34 (by decide) (hdep ⟨8, .data⟩ (by simp) rfl) rfl).trans s8
        clear s8
        refine wpOp_mono (fun a' w' (h : ∃ v, a' = A0.put (some 35) v ∧ Hid (longSpec X A A1 (.agg #[.int .u32 (A : Int), .int .i64 B]) (.agg #[.int .i64 rk, .int .i64 ra, .int .i64 rb, .string rs]) 9 v w') ∧ Hid (Below W.heap.size W w')) => by obtain ⟨v, h1, h2, h3⟩ := h; exact ⟨v, h1, .inl ⟨by decide, HS.out.trans (h3.out.mono HS.out.size), .inr h2.out, h3.out⟩⟩) ?_
        refine wpOp_plain rfl rfl ?_
        clear hdep h0
        unfold Oper.wp
        go_simp
        exact ⟨_, rfl, Lib.hid rfl, Lib.hid (Below.refl _ _)⟩
      · obtain rfl := Option.some.inj ho
        refine wpOp_mono (fun a' w' (h : ∃ v, a' = A0.put (some 36) v ∧ Hid (longSpec X A A1 (.agg #[.int .u32 (A : Int), .int .i64 B]) (.agg #[.int .i64 rk, .int .i64 ra, .int .i64 rb, .string rs]) 10 v w') ∧ Hid (Below W.heap.size W w')) => by obtain ⟨v, h1, h2, h3⟩ := h; exact ⟨v, h1, .inl ⟨by decide, HS.out.trans (h3.out.mono HS.out.size), .inr h2.out, h3.out⟩⟩) ?_
        refine wpOp_plain rfl rfl ?_
        clear hdep h0
        unfold Oper.wp
        go_simp
        exact ⟨_, rfl, Lib.hid rfl, Lib.hid (Below.refl _ _)⟩
  case rest =>
    obtain ⟨g, rfl, rfl, rfl, HC⟩ := hcut
    clear HNet HG1 HG0 HW0 cw
    go_wp2
    go_loopw [36] (fun i wr => ∃ k : Nat, k ≤ 3 ∧ i = .int .i64 (k : Int) ∧ Hid (Blk wr g 26 [.int .u32 (X : Int), .int .u32 (A : Int), .int .u32 (A1 : Int)] ∧ Below w1.heap.size w1 wr)) (fun i _ => 3 - (intOf i).toNat)
    case atStart => exact ⟨0, by decide, rfl, HC⟩
    case round =>
      obtain ⟨k, hk, rfl, HO⟩ := hrel
      obtain ⟨wo, hwo⟩ : ∃ wo, wo = wr := ⟨_, rfl⟩
      subst hwo
      by_cases hlt : k < 3
      · have i3 : (k : Int) < 3 := by omega
        obtain ⟨Y, hY, hcell⟩ : ∃ Y : Nat, Y < 4294967296 ∧ wo.cell? ⟨g, k, none⟩ = some (.int .u32 (Y : Int)) := by
          have : k = 0 ∨ k = 1 ∨ k = 2 := by omega
          rcases this with rfl | rfl | rfl
          · exact ⟨X, by omega, HO.out.1.cell 0 rfl⟩
          · exact ⟨A, by omega, HO.out.1.cell 1 rfl⟩
          · exact ⟨A1, by omega, HO.out.1.cell 2 rfl⟩
        have Hmo := Lib.hid (Hmk.out.below HO.out.2)
        go_wp2_with (first | (at_range; refine wpList_range_own _ rfl _ 43 rfl 28 9 net_law Try.underlying43 _ mb (min n 16) (Tr.mapD l (min n 16)) rfl Hmo.out ?_; intro w2 hrg2 hg2 hs2))
        obtain ⟨r, hr⟩ : ∃ r, r = wo.heap.size := ⟨_, rfl⟩
        have Hr := Lib.hid hr
        rw [← hr] at hrg2 ⊢
        have hb2 : Below wo.heap.size wo w2 := (Below.refl _ _).grown hg2 (Nat.le_refl _) (fun k e => by cases e)
        have HR2 : Hid (RangeK l mb r (min n 16) (Maps.has (Tr.mapD l (min n 16))) (Maps.size (Tr.mapD l (min n 16))) w2 ∧ Below wo.heap.size wo w2) := Lib.hid ⟨hrg2, hb2⟩
        have HBest0 := Lib.hid (Tr.best_begin T Y (fun y => Maps.has (Tr.mapD l (min n 16)) (Tr.litOf y) = false) HC0.out)
        clear hr hrg2 hg2 hs2 hb2
        go_wp2
        go_frame
        go_loopw [12, 13] (fun vo vb wi => ∃ (left : Lit → Bool) (cnt : Nat) (o : ByteArray) (b : Int), vo = .string o ∧ vb = .int .i64 b ∧ (-1 ≤ b ∧ b ≤ 32) ∧ Hid (Tr.Best T Y (fun y => left (Tr.litOf y) = false) o b) ∧ Hid (RangeK l mb r (min n 16) left cnt wi ∧ Below wo.heap.size wo wi)) (fun _ _ wi => wi.rangeLeft mb r)
        case atStart => exact ⟨_, _, ⟨#[]⟩, -1, rfl, rfl, by omega, HBest0, HR2⟩
        case round =>
          obtain ⟨left, cnt, o, b, rfl, rfl, hb, HBe, HR⟩ := hrel
          obtain ⟨wi, hwi⟩ : ∃ wi, wi = wr := ⟨_, rfl⟩
          subst hwi
          go_wp2_with (first | (at_next; refine wpL_next2 rfl _ rfl rfl HR.out.1 ?_ ?_))
          · intro hall
            have hbi := HO.out.2.trans (HR.out.2.mono HO.out.2.size)
            have HF := Lib.hid (trie_Find ta T.length tc T Y wi ((Hn1.out.below hbi).up hbi.size) i2 (by omega) hY)
            obtain ⟨e1, e2⟩ := Tr.best_end i2 i1 HBe.out (fun y _ => hall _)
            rw [e1] at HF
            have HO2 := Lib.hid (And.intro (HO.out.1.below HR.out.2 HO.out.1.lt) hbi)
            clear hbi e1 hall HBe
            rcases e2 with ⟨hb0, e2⟩ | ⟨hb0, e2⟩
            · rw [e2] at HF
              have d1 : decide (0 ≤ b) = false := decide_eq_false (by omega)
              clear e2
              go_wp2_with fail
              refine HF.out.mono ?_
              rintro e w4 ⟨rfl, hb4⟩
              have HO4 := Lib.hid (And.intro (HO2.out.1.kept hb4) (HO2.out.2.trans (hb4.mono HO2.out.2.size)))
              clear hb4
              go_wp2
              go_roundw
              case rel => exact ⟨k + 1, by omega, by go_num, HO4⟩
              case measure => simp [intOf]; omega
            · rw [e2] at HF
              have d1 : decide (0 ≤ b) = true := decide_eq_true (by omega)
              clear e2
              go_wp2_with fail
              refine HF.out.mono ?_
              rintro e w4 ⟨rfl, hb4⟩
              have HO4 := Lib.hid (And.intro (HO2.out.1.kept hb4) (HO2.out.2.trans (hb4.mono HO2.out.2.size)))
              clear hb4
              go_wp2
              go_roundw
              case rel => exact ⟨k + 1, by omega, by go_num, HO4⟩
              case measure => simp [intOf]; omega
          · intro y hy w3 cnt' hrg3 hlt3 hg3 hs3 hen
            rw [← HTt.out] at hy
            have hgy := HgT.out y hy
            obtain ⟨b0, b1, _⟩ := Nt.err_zero hgy.2
            have ha := hgy.1
            have Hst := Lib.hid (HCS.out left y hy)
            have Hhy := Lib.hid hy
            obtain ⟨ya, yb, yo, ys⟩ := y
            change ya < 4294967296 at ha
            change 0 ≤ yb at b0
            change yb ≤ 32 at b1
            have hr1 : wo.heap.size ≤ r := by rw [Hr.out]; exact Nat.le_refl _
            have hb3 : Below wo.heap.size wo w3 := HR.out.2.grown hg3 HR.out.2.size (fun k e => by injection e with e; omega)
            obtain ⟨w4, hw4⟩ : ∃ w4, w4 = w3.alloc (.cells #[.int .u32 (ya : Int), .int .i64 yb] 28) := ⟨_, rfl⟩
            have hA4 : Below w3.heap.size w3 w4 := by rw [hw4]; exact (Below.refl _ _).alloc (Nat.le_refl _) _
            have hb4 := hb3.trans (hA4.mono hb3.size)
            have hrg4 : RangeK l mb r (min n 16) (fun x => left x && !x.sameKey (Tr.litOf ⟨ya, yb, yo, ys⟩)) cnt' w4 := by rw [hw4]; exact World.ranges.alloc hrg3 _
            have hP4 : w4.heap[w3.heap.size]? = some (.cells #[.int .u32 (ya : Int), .int .i64 yb] 28 (0, 0)) := by rw [hw4]; exact heap_alloc_last w3 _
            obtain ⟨c0, c1⟩ := net_cells hP4 (Below.refl _ _)
            have HH := Lib.hid (net_Has ya yb Y w4 ha hY (by omega) (by omega))
            have HW4 := Lib.hid hw4
            have HB4 := Lib.hid hb4
            have HRg4 := Lib.hid hrg4
            have HP4 := Lib.hid hP4
            have Hlt := Lib.hid hlt3
            clear hgy hb3 hA4 hb4 hrg4 hP4 hw4 hrg3 hg3 hs3 hlt3 hy
            by_cases hh : Nt.has ya yb Y = true
            · have Hh := Lib.hid hh
              rw [hh] at HH
              clear hh
              by_cases hbb : b < yb
              · have dd : decide (b < yb) = true := decide_eq_true hbb
                go_upto_region 11 with fail
                rw [← HW4.out]
                go_wp2_with fail
                refine HH.out.mono ?_
                rintro e w5 ⟨rfl, hb5⟩
                have HRg5 := Lib.hid (range_kept HRg4.out hb5)
                have HB5 := Lib.hid (HB4.out.trans (hb5.mono HB4.out.size))
                obtain ⟨m0, m1⟩ := net_cells HP4.out hb5
                clear hb5 hen c0 c1
                go_wp2_with fail
                go_quiet (fail)
                go_wp2
                go_roundw
                case rel => exact ⟨_, _, yo, yb, rfl, rfl, ⟨by omega, b1⟩, Lib.hid (Tr.best_take HBe.out Hhy.out Hst.out Hh.out hbb), Lib.hid ⟨range_kept HRg5.out (below_drewN (Below.refl _ _) _), below_drewN HB5.out _⟩⟩
                case measure =>
                  rw [World.ranges.left_eq (range_kept HRg5.out (below_drewN (Below.refl _ _) _)), World.ranges.left_eq HR.out.1]
                  exact Hlt.out
              · have dd : decide (b < yb) = false := decide_eq_false hbb
                go_upto_region 11 with fail
                rw [← HW4.out]
                go_wp2_with fail
                refine HH.out.mono ?_
                rintro e w5 ⟨rfl, hb5⟩
                have HRg5 := Lib.hid (range_kept HRg4.out hb5)
                have HB5 := Lib.hid (HB4.out.trans (hb5.mono HB4.out.size))
                obtain ⟨m0, m1⟩ := net_cells HP4.out hb5
                clear hb5 hen c0 c1
                go_wp2
                go_roundw
                case rel => exact ⟨_, _, o, b, rfl, rfl, hb, Lib.hid (Tr.best_keep HBe.out Hhy.out Hst.out (fun e => (by have h2 : b < yb := e.2; omega)) b0), Lib.hid ⟨HRg5.out, HB5.out⟩⟩
                case measure =>
                  rw [World.ranges.left_eq HRg5.out, World.ranges.left_eq HR.out.1]
                  exact Hlt.out
            · have hh' : Nt.has ya yb Y = false := by simpa using hh
              have Hh := Lib.hid hh
              rw [hh'] at HH
              clear hh hh'
              go_upto_region 11 with fail
              rw [← HW4.out]
              go_wp2_with fail
              refine HH.out.mono ?_
              rintro e w5 ⟨rfl, hb5⟩
              have HRg5 := Lib.hid (range_kept HRg4.out hb5)
              have HB5 := Lib.hid (HB4.out.trans (hb5.mono HB4.out.size))
              obtain ⟨m0, m1⟩ := net_cells HP4.out hb5
              clear hb5 hen c0 c1
              go_wp2
              go_roundw
              case rel => exact ⟨_, _, o, b, rfl, rfl, hb, Lib.hid (Tr.best_keep HBe.out Hhy.out Hst.out (fun e => Hh.out e.1) b0), Lib.hid ⟨HRg5.out, HB5.out⟩⟩
              case measure =>
                rw [World.ranges.left_eq HRg5.out, World.ranges.left_eq HR.out.1]
                exact Hlt.out
      · obtain rfl : k = 3 := by omega
        rw [show ((3 : Nat) : Int) = (3 : Int) from rfl]
        go_wp2
        go_ret
        exact ⟨rfl, HB1.out.trans (HO.out.2.mono HB1.out.size)⟩
end Go.Proofs.Ytldfamdjdkaloaa

namespace Go.Proofs.Ytldfamdjdkaloaa
open Go.ChangeShapes Go.WideShapes Go.ChangeAt Go.RowKit Go.Deep

set_option maxRecDepth 100000 in
theorem open_raw {H : Type} {enc : TypeId × Value → H} {W : World} {base : Nat} {v : Value} {d : DataW H} {p : List MemPlace} (hv : Value.okWide Try.prog W .any base 48 v)
    (h : DataW.Trod enc Try.prog W 0 (fun _ => true) true 48 v d p) :
    ∃ (k a b : Int) (s : ByteArray), v = rawV k a b s ∧ d = .agg [.lit (.int .i64 k), .lit (.int .i64 a), .lit (.int .i64 b), .lit (.string s.data.toList)] ∧ p = [] ∧
      ((-9223372036854775808 ≤ k ∧ k ≤ 9223372036854775807) ∧ (-9223372036854775808 ≤ a ∧ a ≤ 9223372036854775807) ∧ (-9223372036854775808 ≤ b ∧ b ≤ 9223372036854775807)) ∧
      (Lit.int .i64 k).wf = true ∧ (Lit.int .i64 a).wf = true ∧ (Lit.int .i64 b).wf = true ∧ s.size ≤ maxLen := by
  obtain ⟨v0, v1, v2, v3, y0, y1, y2, y3, n, rfl, rfl, rfl, h0, h1, h2, h3⟩ := Joins.open_agg4 Try.underlying48 (by kernel_rfl) (by kernel_rfl) hv h
  obtain ⟨k, e0, rfl, w0⟩ := DataW.trod_int Try.underlying3 h0
  obtain ⟨a, e1, rfl, w1⟩ := DataW.trod_int Try.underlying3 h1
  obtain ⟨b, e2, rfl, w2⟩ := DataW.trod_int Try.underlying3 h2
  obtain ⟨s, e3, rfl, w3⟩ := DataW.trod_string Try.underlying9 h3
  injection e0 with e0
  injection e1 with e1
  injection e2 with e2
  injection e3 with e3
  subst e0 e1 e2 e3
  exact ⟨k, a, b, s, rfl, rfl, rfl, ⟨bounds_i64 w0, bounds_i64 w1, bounds_i64 w2⟩, w0, w1, w2, w3⟩
set_option maxRecDepth 100000 in
theorem shut_raw {H : Type} {enc : TypeId × Value → H} {W : World} {base : Nat} {sp : Nat → Bool} {held : Bool} {k a b : Int} {s : ByteArray} (h0 : (Lit.int .i64 k).wf = true) (h1 : (Lit.int .i64 a).wf = true) (h2 : (Lit.int .i64 b).wf = true) (h3 : s.size ≤ maxLen) :
    DataW.Trod enc Try.prog W base sp held 48 (rawV k a b s) (.agg [.lit (.int .i64 k), .lit (.int .i64 a), .lit (.int .i64 b), .lit (.string s.data.toList)]) [] := by
  have := Joins.shut_agg4 (enc := enc) (w := W) (base := base) (spare := sp) (held := held) (y0 := (.lit (.int .i64 k), [])) (y1 := (.lit (.int .i64 a), [])) (y2 := (.lit (.int .i64 b), [])) (y3 := (.lit (.string s.data.toList), [])) (v0 := .int .i64 k) (v1 := .int .i64 a) (v2 := .int .i64 b) (v3 := .string s) Try.underlying48 (by kernel_rfl) (by kernel_rfl)
    ⟨1, by simp [DataW.trod, Try.underlying3, h0]⟩ ⟨1, by simp [DataW.trod, Try.underlying3, h1]⟩ ⟨1, by simp [DataW.trod, Try.underlying3, h2]⟩ ⟨1, by simp [DataW.trod, Try.underlying9, h3]⟩
  exact this
end Go.Proofs.Ytldfamdjdkaloaa

namespace Go.Proofs.Ytldfamdjdkaloaa.trieLongest
open Go.ChangeShapes Go.WideShapes Go.ChangeAt Go.RowKit
open Go.ChangeMaps (open_string shut_string)

set_option maxRecDepth 100000 in
theorem lifted (os : Os) (started : os.Started) (H : Type) (enc : TypeId × Value → H) :
    ReturnsInHanded {} Try.checked os 10 .any (Rows.trieLongestSpec.pre6 enc Try.prog Try.f10 Rows.trieLongestRow.domain false) (Rows.trieLongestSpec.post enc Try.prog Try.f10 false true false false) := by
  refine returnsInHanded_of_change_sized (C := Try.checked) own_knob started (by kernel_rfl) Try.func10
    (ChangeSpec.witness6 (enc := enc) (C := Try.checked) false ⟨#[], #[.slice none 0 0, .int .u32 0, .agg #[.int .i64 0, .int .i64 0, .int .i64 0, .string ByteArray.empty]], []⟩ 8 (by kernel_rfl) (by kernel_rfl) (by kernel_rfl) (by kernel_rfl)) ?_
  intro W base args ds gs before hval0 hW hcnd hsz0 _
  have hval : ∀ (j : Nat) t v, Try.f10.params[j]? = some t → args[j]? = some v → Value.okWide Try.prog W .any base t v := hval0
  have hW' := hW
  obtain ⟨p, q, hA0, hV, rfl, hfz, hnd⟩ := hW
  have hA : DataW.TrodAll enc Try.prog W 0 (fun _ => true) true Try.f10.params.toList args.toList ds p := hA0
  have hsz : (DataW.weightsEach Try.prog (Try.f10.params.toList ++ Rows.trieLongestSpec.plain.varTypes Try.prog) (ds ++ gs)).all (· ≤ reachBytes) = true := hsz0
  rw [Try.params10] at hA hval hsz
  obtain ⟨v0, vs0, d0, ds0, p0, q0, hargs, rfl, rfl, h0, r0⟩ := trodAll_cons hA
  obtain ⟨v1, vs1, d1, ds1, p1, q1, rfl, rfl, rfl, h1, r1⟩ := trodAll_cons r0
  obtain ⟨v2, vs2, d2, ds2, p2, q2, rfl, rfl, rfl, h2, r2⟩ := trodAll_cons r1
  obtain ⟨rfl, rfl, rfl⟩ := trodAll_nil r2
  obtain rfl : args = #[v0, v1, v2] := by cases args; simp_all
  obtain ⟨rfl, rfl⟩ := trodVars_none hV
  clear hA0 hval0 hcnd hfz hnd hsz0
  obtain ⟨a0, len0, cap0, rfl⟩ := okWide_slice Try.underlying42 (hval 0 42 v0 rfl rfl)
  have lt0 : ∀ x ∈ p0, x.block < W.heap.size := by obtain ⟨m, hm⟩ := h0; exact DataW.trod_lt m _ _ _ hm
  obtain ⟨rs0, b0, lc0, cm0, ok0⟩ := open_raws h0
  obtain ⟨a1, rfl, rfl, rfl, w1⟩ := open_int Try.underlying26 (hval 1 26 v1 rfl rfl) h1
  obtain ⟨rk2, ra2, rb2, rs2, rfl, rfl, rfl, l2, x2, y2, z2, u2⟩ := open_raw (hval 2 48 v2 rfl rfl) h2
  refine (law_TrieLongest a0 len0 cap0 rs0 a1 rk2 ra2 rb2 rs2 W b0 lc0 ok0 (bounds_u32 w1).1 (bounds_u32 w1).2 l2).mono fun e W' ⟨he, bel⟩ => ?_
  subst he
  exact ⟨_, rfl, _, _, _, [], _, [], hW', trodAll_mk1 (shut_bool Try.underlying4 _), (trodAll_cons_mk (Below.trod laid_out (by kernel_rfl) (of_decide_eq_true (by kernel_rfl)) h0 bel lt0) (trodAll_cons_mk (shut_int Try.underlying26 w1) (trodAll_cons_mk (shut_raw x2 y2 z2 u2) trodAll_mk0))), rfl, bel.frame _, fun h => by cases h⟩

theorem proved : Rows.TrieLongestSaid :=
  OpenClaim.holds_of_wide 10 Try.f10 rfl rfl rfl rfl rfl rfl rfl ⟨rfl, rfl, rfl, rfl, rfl⟩ rfl rfl rfl rfl rfl (by kernel_rfl) Try.func10 (by kernel_rfl)
    (of_decide_eq_true (by kernel_rfl)) (by unfold Func.isWrapper; first | (rw [if_pos (by decide +kernel)]; kernel_rfl) | (rw [if_neg (by decide +kernel)]; exact ⟨rfl, rfl⟩))
    (fun os started H enc _ => lifted os started H enc)
end Go.Proofs.Ytldfamdjdkaloaa.trieLongest
