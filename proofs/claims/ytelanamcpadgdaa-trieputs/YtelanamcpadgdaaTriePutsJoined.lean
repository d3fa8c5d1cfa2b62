/- trie.Put answers as the reference of chapter 8 does, for every list of nodes, every network and every owner (P8.2).
   Conditions: none (every input that the row reads). -/
import Derived.Test.YtelanamcpadgdaaRows
import Derived.Test.YtelanamcpadgdaaMem
import Derived.ProofKit
import Derived.OpenShut
import Derived.ShutString
import Derived.ChangeOld
import Derived.Below
import Derived.SizedLaws
import Derived.Test.YtelanamcpadgdaaNetMem
import Derived.Lib.SmallJoins
import Derived.Test.YtelanamcpadgdaaTrieCode6
import Derived.Deep.SlicePairs
import Derived.Test.YtelanamcpadgdaaTriePut3
namespace Go.Proofs.Ytelanamcpadgdaa
open Go.ChangeShapes Go.WideShapes Go.ChangeAt Go.RowKit

theorem own_knob : ownKnob Try.prog.godebug = none := by kernel_rfl
theorem laid_out : laidOutB Try.prog = true := by kernel_rfl

theorem lt_of_cell {w : World} {a : Addr} {v : Value} (h : w.cell? a = some v) : a.block < w.heap.size := by
  rcases Nat.lt_or_ge a.block w.heap.size with hlt | hge
  · exact hlt
  · simp [World.cell?, Array.getElem?_eq_none hge] at h

theorem byte_wf {n : Int} (h : (Lit.int .u8 n).wf = true) : ((UInt8.ofNat n.toNat).toNat : Int) = n := by
  have hb := bounds_u8 h
  rw [UInt8.toNat_ofNat', Nat.mod_eq_of_lt (by omega)]
  omega
end Go.Proofs.Ytelanamcpadgdaa

namespace Go.Proofs.Ytelanamcpadgdaa
open Go.ChangeShapes Go.WideShapes Go.ChangeAt Go.RowKit Go.Deep

set_option maxRecDepth 100000 in
theorem open_net {H : Type} {enc : TypeId × Value → H} {W : World} {base : Nat} {v : Value} {d : DataW H} {p : List MemPlace} (hv : Value.okWide Try.prog W .any base 28 v)
    (h : DataW.Trod enc Try.prog W 0 (fun _ => true) true 28 v d p) :
    ∃ (a : Nat) (b : Int), v = netV a b ∧ d = .agg [.lit (.int .u32 (a : Int)), .lit (.int .i64 b)] ∧ p = [] ∧ a < 4294967296 ∧ -9223372036854775808 ≤ b ∧ b ≤ 9223372036854775807 ∧
      (Lit.int .u32 (a : Int)).wf = true ∧ (Lit.int .i64 b).wf = true := by
  obtain ⟨v0, v1, y0, y1, n, rfl, rfl, rfl, h0, h1⟩ := Joins.open_agg2 Try.underlying28 (by kernel_rfl) (by kernel_rfl) hv h
  obtain ⟨a, e0, rfl, w0⟩ := DataW.trod_int Try.underlying26 h0
  obtain ⟨b, e1, rfl, w1⟩ := DataW.trod_int Try.underlying3 h1
  have ha := bounds_u32 w0
  have hb := bounds_i64 w1
  injection e0 with e0
  injection e1 with e1
  subst e0 e1
  obtain ⟨a', rfl⟩ : ∃ a' : Nat, a = (a' : Int) := ⟨a.toNat, by omega⟩
  exact ⟨a', b, rfl, rfl, rfl, by omega, hb.1, hb.2, w0, w1⟩
set_option maxRecDepth 100000 in
theorem shut_net {H : Type} {enc : TypeId × Value → H} {W : World} {base : Nat} {sp : Nat → Bool} {held : Bool} {a : Nat} {b : Int} (h0 : (Lit.int .u32 (a : Int)).wf = true) (h1 : (Lit.int .i64 b).wf = true) :
    DataW.Trod enc Try.prog W base sp held 28 (netV a b) (.agg [.lit (.int .u32 (a : Int)), .lit (.int .i64 b)]) [] := by
  have := Joins.shut_agg2 (enc := enc) (w := W) (base := base) (spare := sp) (held := held) (y0 := (.lit (.int .u32 (a : Int)), [])) (y1 := (.lit (.int .i64 b), [])) (v0 := .int .u32 (a : Int)) (v1 := .int .i64 b) Try.underlying28 (by kernel_rfl) (by kernel_rfl)
    ⟨1, by simp [DataW.trod, Try.underlying26, h0]⟩ ⟨1, by simp [DataW.trod, Try.underlying3, h1]⟩
  exact this
end Go.Proofs.Ytelanamcpadgdaa

namespace Go.Proofs.Ytelanamcpadgdaa
open Go.ChangeShapes Go.WideShapes Go.ChangeAt Go.RowKit Go.Deep

instance : Inhabited Tr.Node := ⟨⟨0, 0, ByteArray.empty, 0⟩⟩
theorem cells_node : Try.prog.cellsOf 56 = 4 := by kernel_rfl
theorem bytes_node : Try.prog.bytesOf 56 = 40 := by kernel_rfl
set_option maxRecDepth 100000 in
/-- One node, out of its four cells. -/
theorem open_node {H : Type} {enc : TypeId × Value → H} {W : World} {n : Nat} {cs : List Value} {x : DataW H × List MemPlace} (hl : cs.length = 4)
    (h : DataW.trod enc Try.prog W 0 (fun _ => true) true n 56 cs = some x) :
    ∃ nd : Tr.Node, cs = Tr.nodeC nd ∧ nd.a < 4294967296 ∧ (-9223372036854775808 ≤ nd.b ∧ nd.b ≤ 9223372036854775807) ∧ (-9223372036854775808 ≤ nd.s ∧ nd.s ≤ 9223372036854775807) := by
  obtain ⟨xs, m, _, _, _, hxl, hf⟩ := DataW.trod_struct Try.underlying56 h
  match xs, hxl, cs, hl with
  | [y0, y1, y2], _, [v0, v1, v2, v3], _ =>
    have g0 := hf 0 _ rfl
    have g1 := hf 1 _ rfl
    have g2 := hf 2 _ rfl
    change DataW.trod enc Try.prog W 0 (fun _ => true) true m 28 [v0, v1] = some y0 at g0
    change DataW.trod enc Try.prog W 0 (fun _ => true) true m 9 [v2] = some y1 at g1
    change DataW.trod enc Try.prog W 0 (fun _ => true) true m 3 [v3] = some y2 at g2
    obtain ⟨zs, k, _, _, _, hzl, hz⟩ := DataW.trod_struct Try.underlying28 g0
    match zs, hzl with
    | [z0, z1], _ =>
      have q0 := hz 0 _ rfl
      have q1 := hz 1 _ rfl
      change DataW.trod enc Try.prog W 0 (fun _ => true) true k 26 [v0] = some z0 at q0
      change DataW.trod enc Try.prog W 0 (fun _ => true) true k 3 [v1] = some z1 at q1
      obtain ⟨a, e0, _, w0⟩ := DataW.trod_int Try.underlying26 q0
      obtain ⟨b, e1, _, w1⟩ := DataW.trod_int Try.underlying3 q1
      obtain ⟨o, e2, _, _⟩ := DataW.trod_string Try.underlying9 g1
      obtain ⟨s, e3, _, w3⟩ := DataW.trod_int Try.underlying3 g2
      injection e0 with e0
      injection e1 with e1
      injection e2 with e2
      injection e3 with e3
      subst e0 e1 e2 e3
      have ha := bounds_u32 w0
      obtain ⟨a', rfl⟩ : ∃ a' : Nat, a = (a' : Int) := ⟨a.toNat, by omega⟩
      exact ⟨⟨a', b, o, s⟩, rfl, by show a' < _; omega, bounds_i64 w1, bounds_i64 w3⟩
/-- A slice of nodes. -/
theorem open_nodes {H : Type} {enc : TypeId × Value → H} {W : World} {a : Option Addr} {len cap : Nat} {d : DataW H} {p : List MemPlace}
    (h : DataW.Trod enc Try.prog W 0 (fun _ => true) true 22 (.slice a len cap) d p) :
    ∃ l : List Tr.Node, NodesAt W W.heap.size a len l ∧ len ≤ cap ∧ Tr.fit l ∧ ((d = .nil ∧ cap = 0) ∨ ∃ el sp, d = .slice el sp ∧ el.length + sp.length = cap) := by
  obtain ⟨fuel, hf⟩ := h
  rcases open_slice Try.underlying22 hf with ⟨hcs, hx⟩ | ⟨x, l, c, m, n, D, Pl, hcs, _, hl, hm, hmm, hx, hall⟩
  · simp [Value.cells] at hcs
    obtain ⟨rfl, rfl, rfl⟩ := hcs
    simp only [Prod.mk.injEq] at hx
    exact ⟨[], ⟨rfl, fun h => absurd h (by omega)⟩, Nat.le_refl _, fun _ h => (by cases h), .inl ⟨hx.1, rfl⟩⟩
  · simp [Value.cells] at hcs
    obtain ⟨rfl, rfl, rfl⟩ := hcs
    simp only [Prod.mk.injEq] at hx
    rw [if_pos rfl] at hmm
    subst hmm
    rw [cells_node] at hall
    have each : ∀ i, i < m → ∃ nd : Tr.Node, (∀ j, j < 4 → W.cell? (x.add (i * 4 + j)) = (Tr.nodeC nd)[j]?) ∧ nd.a < 4294967296 ∧ (-9223372036854775808 ≤ nd.b ∧ nd.b ≤ 9223372036854775807) ∧ (-9223372036854775808 ≤ nd.s ∧ nd.s ≤ 9223372036854775807) := by
      intro i hi
      obtain ⟨cs', h1, h2⟩ := hall i hi
      obtain ⟨_, hlen, hcell⟩ := World.cells?_some h1
      obtain ⟨nd, rfl, hn⟩ := open_node hlen h2
      exact ⟨nd, fun j hj => by rw [← add_add]; exact hcell j hj, hn⟩
    obtain ⟨q, hq⟩ := choose_lt each
    refine ⟨(List.range len).map q, ⟨by simp, fun hpos => ?_⟩, hl, ?_, .inr ⟨_, _, hx.1, by simp; omega⟩⟩
    · obtain ⟨b, off, spot⟩ := x
      have h0 := (hq 0 (by omega)).1 0 (by omega)
      have hspot : spot = none := by simpa [Addr.add] using World.cell?_spot h0
      subst hspot
      have hc : ∀ i (_ : i < len) j (_ : j < 4), W.cell? ⟨b, off + i * 4 + j, none⟩ = (Tr.nodeC (q i))[j]? := by
        intro i hi j hj
        rw [← (hq i (by omega)).1 j hj, Addr.add_lit, Nat.add_assoc]
      refine ⟨b, off, rfl, lt_of_cell (a := ⟨b, off + 0 * 4 + 0, none⟩) (hc 0 hpos 0 (by omega)), fun i hi => ?_⟩
      have hi' : i < len := by simpa using hi
      rw [List.getElem_map, List.getElem_range]
      exact ⟨hc i hi' 0 (by omega), hc i hi' 1 (by omega), hc i hi' 2 (by omega), hc i hi' 3 (by omega)⟩
    · intro nd hnd
      obtain ⟨i, hi, rfl⟩ := List.mem_map.1 hnd
      have := (hq i (by have := List.mem_range.1 hi; omega)).2
      exact ⟨this.1, this.2.1⟩
end Go.Proofs.Ytelanamcpadgdaa

namespace Go.Proofs.Ytelanamcpadgdaa.triePuts
open Go.ChangeShapes Go.WideShapes Go.ChangeAt Go.RowKit
open Go.ChangeMaps (open_string shut_string)

set_option maxRecDepth 100000 in
theorem lifted (os : Os) (started : os.Started) (H : Type) (enc : TypeId × Value → H) :
    ReturnsInHanded {} Try.checked os 4 .any (Rows.triePutsSpec.pre6 enc Try.prog Try.f4 Rows.triePutsRow.domain false) (Rows.triePutsSpec.post enc Try.prog Try.f4 false true false false) := by
  refine returnsInHanded_of_change_sized (C := Try.checked) own_knob started (by kernel_rfl) Try.func4
    (ChangeSpec.witness6 (enc := enc) (C := Try.checked) false ⟨#[], #[.slice none 0 0, .agg #[.int .u32 0, .int .i64 0], .string ByteArray.empty], []⟩ 8 (by kernel_rfl) (by kernel_rfl) (by kernel_rfl) (by kernel_rfl)) ?_
  intro W base args ds gs before hval0 hW hcnd hsz0 _
  have hval : ∀ (j : Nat) t v, Try.f4.params[j]? = some t → args[j]? = some v → Value.okWide Try.prog W .any base t v := hval0
  have hW' := hW
  obtain ⟨p, q, hA0, hV, rfl, hfz, hnd⟩ := hW
  have hA : DataW.TrodAll enc Try.prog W 0 (fun _ => true) true Try.f4.params.toList args.toList ds p := hA0
  have hsz : (DataW.weightsEach Try.prog (Try.f4.params.toList ++ Rows.triePutsSpec.plain.varTypes Try.prog) (ds ++ gs)).all (· ≤ reachBytes) = true := hsz0
  rw [Try.params4] at hA hval hsz
  obtain ⟨v0, vs0, d0, ds0, p0, q0, hargs, rfl, rfl, h0, r0⟩ := trodAll_cons hA
  obtain ⟨v1, vs1, d1, ds1, p1, q1, rfl, rfl, rfl, h1, r1⟩ := trodAll_cons r0
  obtain ⟨v2, vs2, d2, ds2, p2, q2, rfl, rfl, rfl, h2, r2⟩ := trodAll_cons r1
  obtain ⟨rfl, rfl, rfl⟩ := trodAll_nil r2
  obtain rfl : args = #[v0, v1, v2] := by cases args; simp_all
  obtain ⟨rfl, rfl⟩ := trodVars_none hV
  clear hA0 hval0 hcnd hfz hnd hsz0
  obtain ⟨a0, len0, cap0, rfl⟩ := okWide_slice Try.underlying22 (hval 0 22 v0 rfl rfl)
  have lt0 : ∀ x ∈ p0, x.block < W.heap.size := by obtain ⟨m, hm⟩ := h0; exact DataW.trod_lt m _ _ _ hm
  obtain ⟨ns0, b0, lc0, hf0, dc0⟩ := open_nodes h0
  have s0 : len0 ≤ 3518437208780 := by
    rcases dc0 with ⟨_, hc⟩ | ⟨el, sp, rfl, hc⟩
    · omega
    · have := sized_slice hsz (j := 0) (t := 22) (e := 56) rfl rfl Try.underlying22
      rw [bytes_node] at this
      unfold reachBytes at this
      omega
  obtain ⟨na1, nb1, rfl, rfl, rfl, l1a, l1b, l1c, x1, y1⟩ := open_net (hval 1 28 v1 rfl rfl) h1
  obtain ⟨a2, rfl, rfl, rfl, w2⟩ := open_string Try.underlying9 (hval 2 9 v2 rfl rfl) h2
  have s2 : a2.size ≤ reachBytes := by
    have e : a2.data.toList.length = a2.size := by simp
    rw [← e]
    exact sized_string hsz (j := 2) (t := 9) rfl rfl
  refine (triePuts_walk a0 len0 cap0 ns0 na1 nb1 a2 W b0 lc0 hf0 s0 l1a l1b l1c s2).mono fun e W' ⟨he, bel⟩ => ?_
  subst he
  exact ⟨_, rfl, _, _, _, [], _, [], hW', trodAll_mk1 (shut_bool Try.underlying4 _), (trodAll_cons_mk (Below.trod laid_out (by kernel_rfl) (of_decide_eq_true (by kernel_rfl)) h0 bel lt0) (trodAll_cons_mk (shut_net x1 y1) (trodAll_cons_mk (shut_string Try.underlying9 w2) trodAll_mk0))), rfl, bel.frame _, fun h => by cases h⟩

theorem proved : Rows.TriePutsSaid :=
  OpenClaim.holds_of_wide 4 Try.f4 rfl rfl rfl rfl rfl rfl rfl ⟨rfl, rfl, rfl, rfl, rfl⟩ rfl rfl rfl rfl rfl (by kernel_rfl) Try.func4 (by kernel_rfl)
    (of_decide_eq_true (by kernel_rfl)) (by unfold Func.isWrapper; first | (rw [if_pos (by decide +kernel)]; kernel_rfl) | (rw [if_neg (by decide +kernel)]; exact ⟨rfl, rfl⟩))
    (fun os started H enc _ => lifted os started H enc)
end Go.Proofs.Ytelanamcpadgdaa.triePuts
