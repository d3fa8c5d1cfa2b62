/- The contract of slices.Equal at slices of networks that are the same. -/
import Derived.Test.YtjdflnnpamjjcaaGreatDoorSz08
import Derived.Test.YtjdflnnpamjjcaaGreatDoorSz03
import Derived.Test.YtjdflnnpamjjcaaGreatDoorConfPlain3
import Derived.Deep.DeepCutAuto
import Derived.Test.YtjdflnnpamjjcaaGreatDoorSz02
import Derived.Laws.StructEq
import Derived.BigQuiet
import Derived.Test.YtjdflnnpamjjcaaGreatDoorSz01
namespace Go.Proofs.YtjdflnnpamjjcaaGreatDoor
open Go.RowKit

theorem info_netT : ∃ i, Tryz.prog.info? 47 = some i ∧ i.zero = some (.agg #[.int .u32 0, .int .i64 0]) ∧ i.size = 2 ∧ i.bytes = 16 := info_parts (by kernel_rfl)
theorem info_peerT : ∃ i, Tryz.prog.info? 41 = some i ∧ i.zero = some (.agg #[.string ByteArray.empty, .string ByteArray.empty, .string ByteArray.empty, .int .i64 0, .slice none 0 0]) ∧ i.size = 5 ∧ i.bytes = 80 := info_parts (by kernel_rfl)
def netT : RowTy (Nat × Int) where
  t := 47
  s := 39
  k := 2
  bytes := 16
  enc := fun n => [.int .u32 (n.1 : Int), .int .i64 n.2]
  zero := (0, 0)
  len := fun _ => rfl
  one := fun x v hv => by
    simp only [List.mem_cons, List.not_mem_nil, or_false] at hv
    rcases hv with rfl | rfl <;> rfl
  pos := by decide
  und := Tryz.underlying39
  info := by
    obtain ⟨i, h1, h2, h3, h4⟩ := info_netT
    exact ⟨i, _, h1, h2, h3, h4, rfl⟩
/-- A peer as it lies in a row: with the address and the capacity of its networks. -/
abbrev Cf.Q := Cf.P × Option Addr × Nat
/-- Its networks' slice. -/
def Cf.nv (q : Cf.Q) : Value := .slice q.2.1 q.1.ns.length q.2.2
def peerT : RowTy Cf.Q where
  t := 41
  s := 22
  k := 5
  bytes := 80
  enc := fun q => [.string q.1.k, .string q.1.s, .string q.1.e, .int .i64 q.1.v, Cf.nv q]
  zero := (Cf.zeroP, none, 0)
  len := fun _ => rfl
  one := fun x v hv => by
    simp only [List.mem_cons, List.not_mem_nil, or_false] at hv
    rcases hv with rfl | rfl | rfl | rfl | rfl <;> rfl
  pos := by decide
  und := Tryz.underlying22
  info := by
    obtain ⟨i, h1, h2, h3, h4⟩ := info_peerT
    exact ⟨i, _, h1, h2, h3, h4, rfl⟩
theorem netT_at {w : World} {B n : Nat} {a : Option Addr} {l : List (Nat × Int)} : netT.at_ w B a n l ↔ NetsAt w B a n l := by
  constructor
  · intro h
    refine ⟨h.1, fun hn => ?_⟩
    obtain ⟨b, off, e, hlt, hc⟩ := h.2 hn
    exact ⟨b, off, e, hlt, fun i hi => ⟨hc i hi 0 _ rfl, hc i hi 1 _ rfl⟩⟩
  · intro h
    refine ⟨h.1, fun hn => ?_⟩
    obtain ⟨b, off, e, hlt, hc⟩ := h.2 hn
    refine ⟨b, off, e, hlt, fun i hi j u hu => ?_⟩
    match j, hu with
    | 0, hu => exact (hc i hi).1.trans hu
    | 1, hu => exact (hc i hi).2.trans hu
    | j + 2, hu => cases hu
/-- Rows of the call's own apart: no block bears both. -/
def ApartG (v u : Value) : Prop := ∀ g, v.ownBlock = some g → u.ownBlock ≠ some g
/-- The peers L in a row of the call's own, each one's networks in a row of its own; no two rows share a block. -/
structure OwnP (w : World) (B : Nat) (v : Value) (L : List Cf.Q) : Prop where
  row : peerT.own w B v L
  nets : ∀ q ∈ L, netT.own w B (Cf.nv q) q.1.ns
  apart : ∀ q ∈ L, ApartG (Cf.nv q) v
  pair : L.Pairwise fun q r => ApartG (Cf.nv q) (Cf.nv r)
theorem OwnP.below {w w' : World} {B : Nat} {v : Value} {L : List Cf.Q} (h : OwnP w B v L) (hb : Below w.heap.size w w') : OwnP w' B v L :=
  ⟨h.row.below hb, fun q hq => (h.nets q hq).below hb, h.apart, h.pair⟩
theorem OwnP.base {w : World} {B B' : Nat} {v : Value} {L : List Cf.Q} (h : OwnP w B v L) (hb : B' ≤ B) : OwnP w B' v L :=
  ⟨h.row.base hb, fun q hq => (h.nets q hq).base hb, h.apart, h.pair⟩
/-- Peers in rows, read as a slice. -/
theorem OwnP.at {w : World} {B : Nat} {v : Value} {L : List Cf.Q} (h : OwnP w B v L) : ∃ a c, v = .slice a L.length c ∧ L.length ≤ c ∧ c ≤ maxLen ∧ (a = none → L.length = 0 ∧ c = 0) ∧ PeersAt w w.heap.size a L.length (L.map (·.1)) := by
  obtain ⟨a, c, e, hz, hat⟩ := h.row.at
  obtain ⟨a', c', e', _, h3, h4⟩ := h.row.slice
  rw [e] at e'
  injection e' with e1 _ e2
  subst e1 e2
  refine ⟨a, c, e, h3, h4, hz, by simp, fun hn => ?_⟩
  obtain ⟨b, off, eb, hlt, hc⟩ := hat.2 hn
  refine ⟨b, off, eb, hlt, fun i hi => ?_⟩
  have hi' : i < L.length := by simpa using hi
  rw [List.getElem_map]
  refine ⟨hc i hi' 0 _ rfl, hc i hi' 1 _ rfl, hc i hi' 2 _ rfl, hc i hi' 3 _ rfl, L[i].2.1, L[i].2.2, hc i hi' 4 _ rfl, ?_⟩
  obtain ⟨x, cx, ex, _, hx⟩ := (h.nets _ (List.getElem_mem hi')).at
  unfold Cf.nv at ex
  injection ex with e1 _ _
  rw [e1]
  exact netT_at.1 hx
/-- copy of nothing. -/
theorem RowTy.run_copy_nil {α : Type} (T : RowTy α) (w : World) (d : Addr) (dLen dCap sCap : Nat) (a : Option Addr) :
    ∀ ty, (Builtin.copy_ #[T.s, T.s] ty #[.slice (some d) dLen dCap, .slice a 0 sCap]).run Tryz.prog w = .ok (goInt 0) w := by
  intro ty
  obtain ⟨i, z, hi, _, _, _, _⟩ := T.info
  cases a with
  | none => simp [Builtin.copy_, run_underlying T.und, Builtin.lenOf, Builtin.firstCells, sizeOf, typeInfo, hi, storeCells]
  | some ad => simp [Builtin.copy_, run_underlying T.und, Builtin.lenOf, Builtin.firstCells, sizeOf, typeInfo, hi, storeCells, loadCells, loadCellsFrom]
end Go.Proofs.YtjdflnnpamjjcaaGreatDoor

namespace Go.Proofs.YtjdflnnpamjjcaaGreatDoor
open Go.RowKit

theorem nets_copy (w : World) (g m cc : Nat) (xa : Option Addr) (ns : List (Nat × Int)) (h : NetsAt w w.heap.size xa m ns) (hg : w.heap[g]? = some (.cells (netT.cs (List.replicate m netT.zero)).toArray 47 (0, 0))) :
    ∃ W, (∀ ty, (Builtin.copy_ #[39, 39] ty #[.slice (some ⟨g, 0, none⟩) m m, .slice xa m cc]).run Tryz.prog w = .ok (goInt m) W) ∧
      W.heap[g]? = some (.cells (netT.cs ns).toArray 47 (0, 0)) ∧ w.grownBy W (some g) := by
  have hl := h.1
  cases m with
  | zero =>
    obtain rfl : ns = [] := List.eq_nil_of_length_eq_zero hl
    exact ⟨w, netT.run_copy_nil w ⟨g, 0, none⟩ 0 0 cc xa, hg, World.grownBy.refl _ _⟩
  | succ m =>
    obtain ⟨b, off, rfl, _, _⟩ := h.2 (by omega)
    have hat := netT_at.2 h
    obtain ⟨W, h1, h2, h3⟩ := netT.run_copy w g 0 (m + 1) (m + 1) ⟨b, off, none⟩ (m + 1) cc _ (netT.cs ns) hg (by rw [netT.cs_length, hl]; simp) (hat.news _ rfl) (by rw [netT.cs_length, netT.cs_length, List.length_replicate, hl]; omega) (netT.cs_oneCell _)
    rw [show Nat.min (m + 1) (m + 1) = m + 1 from Nat.min_self _] at h1
    refine ⟨W, h1, ?_, h3⟩
    rw [h2, List.take_zero, List.nil_append, Nat.zero_add, List.drop_of_length_le (by rw [netT.cs_length, netT.cs_length, List.length_replicate, hl]; omega), List.append_nil]
    rfl
theorem grown_setCell (w : World) (g i : Nat) (u : Value) : w.grownBy (w.setCell ⟨g, i, none⟩ u) (some g) :=
  ⟨rfl, rfl, rfl, by simp [World.setCell], fun k _ hne => heap_setCell_other w ⟨g, i, none⟩ k u (fun e => hne (by rw [show k = g from e]))⟩
theorem load_conf {w : World} {g : Nat} {xs : List Value} (R : Blk w g 24 xs) (h : xs.length = 3) : (loadVar 24 ⟨g, 0, none⟩).run Tryz.prog w = .ok (.agg xs.toArray) w :=
  run_loadVar_row (P := Tryz.prog) w g 24 24 xs.toArray (0, 0) _ R Tryz.underlying24 rfl (by rw [show (Tryz.prog.info? 24).map (·.size) = some 3 by kernel_rfl]; simp [h])
theorem size_conf : (Tryz.prog.info? 24).map (·.size) = some 3 := by kernel_rfl
/-- The copies so far, room behind them. -/
def Cf.sofar (D : List Cf.Q) (n : Nat) : List Cf.Q := D ++ List.replicate (n - D.length) peerT.zero
theorem Cf.sofar_length (D : List Cf.Q) (n : Nat) (h : D.length ≤ n) : (sofar D n).length = n := by unfold sofar; rw [List.length_append, List.length_replicate]; omega
theorem Cf.sofar_set (D : List Cf.Q) (n k : Nat) (x : Cf.Q) (hk : D.length = k) (h : k < n) : (sofar D n).set k x = sofar (D ++ [x]) n := by
  subst hk
  unfold sofar
  obtain ⟨m, hm⟩ : ∃ m, n - D.length = m + 1 := ⟨n - D.length - 1, by omega⟩
  rw [hm, List.set_append_right (h := Nat.le_refl _), Nat.sub_self, List.replicate_succ, List.set_cons_zero, List.length_append, List.length_singleton, show n - (D.length + 1) = m by omega, List.append_assoc]
  rfl
theorem Cf.sofar_full (D : List Cf.Q) (n : Nat) (h : D.length = n) : sofar D n = D := by unfold sofar; rw [show n - D.length = 0 by omega]; simp
/-- The copies so far lie in block g. -/
structure CopySo (wr : World) (g n : Nat) (l : List Cf.P) (k : Nat) (D : List Cf.Q) : Prop where
  is : D.map (·.1) = l.take k
  len : D.length = k
  row : wr.heap[g]? = some (.cells (peerT.cs (Cf.sofar D n)).toArray 41 (0, 0))
  nets : ∀ q ∈ D, netT.own wr (g + 1) (Cf.nv q) q.1.ns
  pair : D.Pairwise fun q r => ApartG (Cf.nv q) (Cf.nv r)
/-- One more copy: the networks' new block, then the peer's cells. -/
theorem CopySo.next {wo w8 w9 : World} {g n k g6 : Nat} {l : List Cf.P} {D : List Cf.Q} (h : CopySo wo g n l k D) (hk : k < l.length) (hkn : k < n) (hb : Below wo.heap.size wo w8) (hg6 : wo.heap.size ≤ g6) (hgl : g < wo.heap.size)
    (hn : w8.heap[g6]? = some (.cells (netT.cs l[k].ns).toArray 47 (0, 0))) (hm : l[k].ns.length ≤ maxLen)
    (hr : w9.heap[g]? = some (.cells (peerT.cs ((Cf.sofar D n).set k (l[k], some ⟨g6, 0, none⟩, l[k].ns.length))).toArray 41 (0, 0))) (hgr : w8.grownBy w9 (some g)) :
    CopySo w9 g n l (k + 1) (D ++ [(l[k], some ⟨g6, 0, none⟩, l[k].ns.length)]) := by
  have hne : g ≠ g6 := by omega
  refine ⟨by rw [List.map_append, h.is, List.map_singleton, List.take_succ_eq_append_getElem hk], by rw [List.length_append, h.len]; rfl, ?_, ?_, ?_⟩
  · rw [Cf.sofar_set D n k _ h.len hkn] at hr
    exact hr
  · intro q hq
    rcases List.mem_append.1 hq with hq | hq
    · refine ((h.nets q hq).below hb).kept hgr ?_
      intro b hbk e
      have := ((h.nets q hq).lt b hbk).1
      injection e with e
      omega
    · obtain rfl : q = _ := by simpa using hq
      have hlt8 : g6 < w8.heap.size := by
        by_cases hc : g6 < w8.heap.size
        · exact hc
        · rw [Array.getElem?_eq_none (by omega)] at hn; cases hn
      have h9 := (hgr.block g6 hlt8 (fun e => by injection e with e; omega)).trans hn
      exact RowTy.own_of_block (T := netT) (X := []) (by rw [List.append_nil]; exact h9) (by simp) (Nat.le_refl _) hm (by omega)
  · refine List.pairwise_append.2 ⟨h.pair, List.pairwise_singleton _ _, fun q hq r hr' => ?_⟩
    obtain rfl : r = _ := by simpa using hr'
    intro b hb1 hb2
    have h1 := ((h.nets q hq).lt b hb1).2
    have h2 : g6 = b := by
      unfold Cf.nv at hb2
      exact Option.some.inj hb2
    omega
set_option maxRecDepth 20000 in
set_option maxHeartbeats 8000000 in
theorem conf_Copy (x : Cf.C) (a : Option Addr) (c : Nat) (w : World) (h : PeersAt w w.heap.size a x.ps.length x.ps) (hn : x.ps.length ≤ 1048576) (hs : ∀ p ∈ x.ps, p.ns.length ≤ 1048576) :
    Calls Tryz.prog 7 #[confV x a c] w fun e w' => (∃ v L, e = .returned (.agg #[.string x.k, .int .i64 x.p, v]) ∧ L.map (·.1) = x.ps ∧ OwnP w' w.heap.size v L) ∧ Below w.heap.size w w' := by
  obtain ⟨ck, cp, l⟩ := x
  simp only at h hn hs ⊢
  have H := Lib.hid h
  have HSm := Lib.hid hs
  obtain ⟨n, hnn⟩ : ∃ n, n = l.length := ⟨_, rfl⟩
  unfold confV
  simp only
  rw [← hnn] at H hn ⊢
  have Hn := Lib.hid hnn
  clear h hs hnn
  obtain ⟨Z, hZ⟩ : ∃ Z : Array Value, Z = (peerT.cs (List.replicate n peerT.zero)).toArray := ⟨_, rfl⟩
  have HZ := Lib.hid hZ
  have hmk : ∀ W, (Instr.makeSlice 22 (.int .i64 (n : Int)) (.int .i64 (n : Int))).run Tryz.prog W = .ok (.slice (some ⟨W.heap.size, 0, none⟩) n n) (W.alloc (.cells Z 41)) := by
    rw [hZ]
    exact peerT.make n (by show n * 80 ≤ _; omega) (by omega)
  clear hZ
  have hwz : w.heap.size < w.heap.size + 1 := by omega
  obtain ⟨w1, hw1⟩ : ∃ w1, w1 = (w.alloc (.cells #[.string ck, .int .i64 cp, .slice a n c] 24)).alloc (.cells #[.string ⟨#[]⟩, .int .i64 0, .slice none 0 0] 24) := ⟨_, rfl⟩
  have HA := Lib.hid (show Below w.heap.size w w1 by rw [hw1]; exact ((Below.refl _ _).alloc (Nat.le_refl _) _).alloc (by simp) _)
  have HG := Lib.hid (show Blk w1 w.heap.size 24 [.string ck, .int .i64 cp, .slice a n c] by rw [hw1]; exact (Blk.new w _ [.string ck, .int .i64 cp, .slice a n c]).kept ((Below.refl _ _).alloc (Nat.le_refl _) _))
  have HR := Lib.hid (show Blk w1 (w.heap.size + 1) 24 [.string ⟨#[]⟩, .int .i64 0, .slice none 0 0] by
    rw [hw1]
    have := Blk.new (w.alloc (.cells #[.string ck, .int .i64 cp, .slice a n c] 24)) 24 [.string ⟨#[]⟩, .int .i64 0, .slice none 0 0]
    simpa using this)
  have hz1 : w1.heap.size = w.heap.size + 2 := by rw [hw1]; simp
  obtain ⟨gp, hgp⟩ : ∃ gp, gp = w1.heap.size := ⟨_, rfl⟩
  obtain ⟨w2, hw2⟩ : ∃ w2, w2 = w1.alloc (.cells Z 41) := ⟨_, rfl⟩
  have HA2 := Lib.hid (show Below w.heap.size w w2 by rw [hw2]; exact HA.out.alloc HA.out.size _)
  have hB12 : Below w1.heap.size w1 w2 := by rw [hw2]; exact (Below.refl _ _).alloc (Nat.le_refl _) _
  have HG2 := Lib.hid (HG.out.kept hB12)
  have HR2 := Lib.hid (HR.out.kept hB12)
  have HP2 := Lib.hid (show w2.heap[gp]? = some (.cells Z 41 (0, 0)) by rw [hw2, hgp]; exact heap_alloc_last w1 _)
  have hz2 : w2.heap.size = gp + 1 := by rw [hw2, hgp]; simp
  have hg1 : w.heap.size + 1 < gp := by omega
  have g2 := HG.out.cell 2 rfl
  go_enter Tryz.func7, Tryz.ntmps7
  go_upto_region 1 with fail
  rw [← hw1]
  clear hz1 hB12 hw1
  go_upto_region 2 with fail
  rw [← hw2, ← hgp]
  clear hw2 hgp g2 HG HR hmk
  have g2 := HG2.out.cell 2 rfl
  go_wp2
  go_loopw [14] (fun i wr => ∃ k D, k ≤ n ∧ i = .int .i64 (k : Int) ∧ Hid (CopySo wr gp n l k D) ∧ Hid (Below gp w2 wr)) (fun i _ => n - (intOf i).toNat)
  case atStart => exact ⟨0, [], Nat.zero_le _, rfl, Lib.hid ⟨rfl, rfl, by rw [HP2.out, HZ.out]; rfl, by simp, List.Pairwise.nil⟩, Lib.hid (Below.refl _ _)⟩
  case round =>
    obtain ⟨k, D, hk, rfl, HC, HBr⟩ := hrel
    obtain ⟨wo, hwo⟩ : ∃ wo, wo = wr := ⟨_, rfl⟩
    subst hwo
    have hsz := HBr.out.size
    have HBo := Lib.hid (HA2.out.trans (HBr.out.mono (by omega)))
    have HGo := Lib.hid (HG2.out.below HBr.out (by omega))
    have hgpl : gp < wo.heap.size := by omega
    by_cases hlt : k < n
    · have hll : k < l.length := by have := Hn.out; omega
      obtain ⟨b, off, rfl, hbl, hc⟩ := (H.out.below HBo.out).2 (by omega)
      obtain ⟨c0, c1, c2, c3, xa, cc, c4, hnets⟩ := hc k hll
      have hsm := HSm.out _ (List.getElem_mem hll)
      have HNX := Lib.hid (fun w8 w9 g6 h1 h2 h3 h4 h5 h6 => CopySo.next (w8 := w8) (w9 := w9) (g6 := g6) HC.out hll hlt h1 h2 hgpl h3 h4 h5 h6)
      have hCl : (Cf.sofar D n).length = n := Cf.sofar_length D n (by rw [HC.out.len]; omega)
      have HRow := Lib.hid HC.out.row
      clear hc
      generalize l[k] = p at *
      have HN := Lib.hid hnets
      clear hnets
      obtain ⟨pk, ps, pe, pv, ns⟩ := p
      simp only at c0 c1 c2 c3 c4 hsm HNX HN
      obtain ⟨m, hm⟩ : ∃ m, m = ns.length := ⟨_, rfl⟩
      rw [← hm] at c4 HNX HN hsm
      have Hmn := Lib.hid hm
      clear hm
      have i1 : (k : Int) < (n : Int) := by omega
      obtain ⟨w5, hw5⟩ : ∃ w5, w5 = wo.alloc (.cells #[.string pk, .string ps, .string pe, .int .i64 pv, .slice xa m cc] 41) := ⟨_, rfl⟩
      have hA5 : Below wo.heap.size wo w5 := by rw [hw5]; exact (Below.refl _ _).alloc (Nat.le_refl _) _
      have HS5 := Lib.hid (show Blk w5 wo.heap.size 41 [.string pk, .string ps, .string pe, .int .i64 pv, .slice xa m cc] by rw [hw5]; exact Blk.new _ _ _)
      obtain ⟨Y, hY⟩ : ∃ Y : Array Value, Y = (netT.cs (List.replicate m netT.zero)).toArray := ⟨_, rfl⟩
      have hmk : ∀ W, (Instr.makeSlice 39 (.int .i64 (m : Int)) (.int .i64 (m : Int))).run Tryz.prog W = .ok (.slice (some ⟨W.heap.size, 0, none⟩) m m) (W.alloc (.cells Y 47)) := by
        rw [hY]
        exact netT.make m (by show m * 16 ≤ _; omega) (by omega)
      obtain ⟨g6, hg6⟩ : ∃ g6, g6 = w5.heap.size := ⟨_, rfl⟩
      obtain ⟨w6, hw6⟩ : ∃ w6, w6 = w5.alloc (.cells Y 47) := ⟨_, rfl⟩
      have hA6 : Below w5.heap.size w5 w6 := by rw [hw6]; exact (Below.refl _ _).alloc (Nat.le_refl _) _
      have HB6 := Lib.hid (hA5.trans (hA6.mono hA5.size))
      have hP6 : w6.heap[g6]? = some (.cells (netT.cs (List.replicate m netT.zero)).toArray 47 (0, 0)) := by rw [hw6, hg6, hY]; exact heap_alloc_last w5 _
      have HS6 := Lib.hid (HS5.out.kept hA6)
      have hz5 : w5.heap.size = wo.heap.size + 1 := by rw [hw5]; simp
      have hg6o : wo.heap.size < g6 := by omega
      have HN6 := (HN.out.below (HB6.out.mono HBo.out.size)).more (Nat.le_trans HBo.out.size HB6.out.size)
      obtain ⟨w7, hcopy, hP7, hgr7⟩ := nets_copy w6 g6 m cc xa ns HN6 hP6
      have hB7 : Below wo.heap.size wo w7 := HB6.out.grown hgr7 HB6.out.size (fun j hj => by injection hj with hj; omega)
      have HS7 := Lib.hid (show Blk w7 wo.heap.size 41 [.string pk, .string ps, .string pe, .int .i64 pv, .slice xa m cc] from (hgr7.block _ HS6.out.lt (fun e => by injection e with e; omega)).trans HS6.out)
      have hgo7 : goInt m = .int .i64 (m : Int) := by unfold goInt; congr 1
      rw [hgo7] at hcopy
      have HB7 := Lib.hid hB7
      have HP7 := Lib.hid hP7
      have hrow7 := HBr.out
      clear hrow7 hA5 hA6 hP6 HN6 hgr7 hB7 hP7 hgo7 hY
      have s4 := HS5.out.cell 4 rfl
      have t4 := HS6.out.cell 4 rfl
      go_upto_region 5 with fail
      rw [← hw5]
      clear c0 c1 c2 c3 c4 hw5 hz5
      go_upto_region 6 with fail
      rw [← hw6, ← hg6]
      clear hw6 hmk hg6 s4
      go_upto_region 7 with fail
      clear hcopy t4
      obtain ⟨w8, hw8⟩ : ∃ w8, w8 = w7.setCell ⟨wo.heap.size, 4, none⟩ (.slice (some ⟨g6, 0, none⟩) m m) := ⟨_, rfl⟩
      have HS8 := Lib.hid (show Blk w8 wo.heap.size 41 [.string pk, .string ps, .string pe, .int .i64 pv, .slice (some ⟨g6, 0, none⟩) m m] by rw [hw8]; exact HS7.out.set (by show 5 ≤ maxLen; decide) 4 _)
      have HB8 := Lib.hid (show Below wo.heap.size wo w8 by rw [hw8]; exact HB7.out.setCell (p := ⟨wo.heap.size, 4, none⟩) (Nat.le_refl _) _)
      have HP8 := Lib.hid (show w8.heap[g6]? = some (.cells (netT.cs ns).toArray 47 (0, 0)) by rw [hw8]; exact (heap_setCell_other w7 ⟨wo.heap.size, 4, none⟩ g6 _ (by show g6 ≠ wo.heap.size; omega)).trans HP7.out)
      have y4 := HS7.out.cell 4 rfl
      have z4 := HS7.out.frozen (by show 5 ≤ maxLen; decide) 4
      go_upto_region 8 with fail
      rw [← hw8]
      clear hw8 z4 y4 HS7 HB7 HP7 HS6 HB6 HS5
      obtain ⟨t0, t1, t2, t3, t4⟩ := HS8.out.facts5.1
      have Henc : Hid ((peerT.enc (⟨pk, ps, pe, pv, ns⟩, some ⟨g6, 0, none⟩, m)).toArray = #[.string pk, .string ps, .string pe, .int .i64 pv, .slice (some ⟨g6, 0, none⟩) m m]) := Lib.hid (by rw [Hmn.out]; rfl)
      have Hrow8 : Hid (w8.heap[gp]? = some (.cells (peerT.cs (Cf.sofar D n) ++ []).toArray 41 (0, 0))) := Lib.hid (by rw [List.append_nil]; exact (HB8.out.block gp hgpl).trans HRow.out)
      have hkl : k < (Cf.sofar D n).length := by omega
      go_wp2_with (refine wpL_store_R peerT (o := ⟨none, _, _, _, _, _⟩) rfl (.tmp 32) (.tmp 31) rfl gp k (Cf.sofar D n) [] (⟨pk, ps, pe, pv, ns⟩, some ⟨g6, 0, none⟩, m) rfl (congrArg Value.agg Henc.out.symm) Hrow8.out hkl ?_)
      intro w9 hr9 hgr9 hsz9
      have HC9 := Lib.hid (HNX.out w8 w9 g6 HB8.out (by omega) HP8.out (by unfold maxLen; omega) hr9 hgr9)
      have HB9 := Lib.hid ((HBr.out.trans (HB8.out.mono (by omega))).grown hgr9 (by have := HB8.out.size; omega) (fun j hj => by injection hj with hj; omega))
      clear hr9 hgr9 hsz9 t0 t1 t2 t3 t4
      go_wp2
      go_roundw
      case rel => exact ⟨k + 1, D ++ [(⟨pk, ps, pe, pv, ns⟩, some ⟨g6, 0, none⟩, m)], by omega, by go_num, HC9, HB9⟩
      case measure => simp [intOf]; omega
    · obtain rfl : k = n := by omega
      have hLl : D.length = k := HC.out.len
      have HLo : Hid (∀ q ∈ D, ∀ g, (Cf.nv q).ownBlock = some g → gp + 1 ≤ g) := Lib.hid (fun q hq g hg => ((HC.out.nets q hq).lt g hg).1)
      have HLm : Hid (D.map (·.1) = l) := Lib.hid (by rw [HC.out.is]; exact List.take_of_length_le (by have := Hn.out; omega))
      have hrow := HC.out.row
      rw [Cf.sofar_full D k hLl] at hrow
      have HOP : Hid (OwnP wo w.heap.size (.slice (some ⟨gp, 0, none⟩) k k) D) := Lib.hid ⟨by
          have := RowTy.own_of_block (T := peerT) (w := wo) (B := w.heap.size) (g := gp) (c := k) (l := D) (X := []) (by rw [List.append_nil]; exact hrow) (by rw [hLl]; simp) (by omega) (by unfold maxLen; omega) (by omega)
          rwa [hLl] at this, fun q hq => (HC.out.nets q hq).base (by omega), fun q hq g hg e => by
          have := (HC.out.nets q hq).lt g hg
          have e2 : gp = g := Option.some.inj e
          omega, HC.out.pair⟩
      have HRo := Lib.hid (HR2.out.below HBr.out (by omega))
      have k2 := HGo.out.cell 2 rfl
      have z2 := HGo.out.frozen (by show 3 ≤ maxLen; decide) 2
      clear hrow
      obtain ⟨w5, hw5⟩ : ∃ w5, w5 = wo.setCell ⟨w.heap.size, 2, none⟩ (.slice (some ⟨gp, 0, none⟩) k k) := ⟨_, rfl⟩
      have HG5 := Lib.hid (show Blk w5 w.heap.size 24 [.string ck, .int .i64 cp, .slice (some ⟨gp, 0, none⟩) k k] by rw [hw5]; exact HGo.out.set (by show 3 ≤ maxLen; decide) 2 _)
      have HR5 := Lib.hid (show Blk w5 (w.heap.size + 1) 24 [.string ⟨#[]⟩, .int .i64 0, .slice none 0 0] by rw [hw5]; exact HRo.out.other (by omega) _)
      have hgr5 : wo.grownBy w5 (some w.heap.size) := by rw [hw5]; exact grown_setCell _ _ _ _
      have HOP5 : Hid (OwnP w5 w.heap.size (.slice (some ⟨gp, 0, none⟩) k k) D) := Lib.hid ⟨HOP.out.row.kept hgr5 (fun g hg e => by
          have e2 : gp = g := Option.some.inj hg
          have e3 : w.heap.size = g := Option.some.inj e
          omega), fun q hq => (HOP.out.nets q hq).kept hgr5 (fun g hg e => by
          have := (HC.out.nets q hq).lt g hg
          have e3 : w.heap.size = g := Option.some.inj e
          omega), HOP.out.apart, HOP.out.pair⟩
      have HB5 := Lib.hid (HBo.out.grown hgr5 HBo.out.size (fun j hj => by injection hj with hj; omega))
      obtain ⟨q0, q1, q2⟩ : w5.cell? ⟨w.heap.size, 0, none⟩ = some (.string ck) ∧ w5.cell? ⟨w.heap.size, 1, none⟩ = some (.int .i64 cp) ∧ w5.cell? ⟨w.heap.size, 2, none⟩ = some (.slice (some ⟨gp, 0, none⟩) k k) := ⟨HG5.out.cell 0 rfl, HG5.out.cell 1 rfl, HG5.out.cell 2 rfl⟩
      have hz5 : w5.heap.size = wo.heap.size := by rw [hw5]; simp [World.setCell]
      have hwz5 : w.heap.size ≤ w5.heap.size := by omega
      clear HC HOP hgr5 HG5 HRo HGo hz5
      go_upto_region 11 with fail
      rw [← hw5]
      clear hw5 z2 k2
      go_wp2_with (refine wpL_storeBlk (o := ⟨none, _, _, _, _, _⟩) rfl 24 (.tmp 2) (.tmp 36) rfl (w.heap.size + 1) _ [.string ck, .int .i64 cp, .slice (some ⟨gp, 0, none⟩) k k] rfl rfl HR5.out size_conf rfl rfl ?_)
      intro w9 hR9 hgr9 hsz9
      have HB9 := Lib.hid (HB5.out.grown hgr9 hwz5 (fun j hj => by injection hj with hj; omega))
      have HOP9 : Hid (OwnP w9 w.heap.size (.slice (some ⟨gp, 0, none⟩) k k) D) := Lib.hid ⟨HOP5.out.row.kept hgr9 (fun g hg e => by
          have e2 : gp = g := Option.some.inj hg
          have e3 : w.heap.size + 1 = g := Option.some.inj e
          omega), fun q hq => (HOP5.out.nets q hq).kept hgr9 (fun g hg e => by
          have := HLo.out q hq g hg
          have e3 : w.heap.size + 1 = g := Option.some.inj e
          omega), HOP5.out.apart, HOP5.out.pair⟩
      clear hgr9 HB5 HOP5 HR5 q0 q1 q2
      go_wp2
      exact bodyPost_ret (ret_cell1 (load_conf hR9 rfl) Tryz.results7 rfl) rfl ⟨⟨_, D, rfl, HLm.out, HOP9.out⟩, HB9.out⟩
end Go.Proofs.YtjdflnnpamjjcaaGreatDoor

namespace Go.Proofs.YtjdflnnpamjjcaaGreatDoor
open Go.RowKit

set_option maxRecDepth 20000 in
set_option maxHeartbeats 2000000 in
theorem ref_PeerAt (x : Cf.C) (a : Option Addr) (c : Nat) (key : ByteArray) (w : World) (h : PeersAt w w.heap.size a x.ps.length x.ps) (hm : x.ps.length ≤ maxLen) :
    Calls Tryz.prog 9 #[confV x a c, .string key] w fun e w' => e = .returned (.int .i64 (Cf.at_ x.ps key : Int)) ∧ Below w.heap.size w w' := by
  obtain ⟨ck, cp, l⟩ := x
  simp only at h hm ⊢
  have H := Lib.hid h
  have HH := Lib.hid (fun k h1 h2 h3 => Cf.at_here (l := l) (key := key) (k := k) h1 h2 h3)
  have HN := Lib.hid (fun h1 => Cf.at_none (l := l) (key := key) h1)
  obtain ⟨R, hR⟩ : ∃ R, R = Cf.at_ l key := ⟨_, rfl⟩
  rw [← hR] at HH HN ⊢
  clear h hR
  obtain ⟨n, hn⟩ : ∃ n, n = l.length := ⟨_, rfl⟩
  unfold confV
  simp only
  rw [← hn] at H hm ⊢
  have hm' : n ≤ 9223372036854775807 := by unfold maxLen at hm; omega
  have Hn := Lib.hid hn
  clear hn
  obtain ⟨w1, hw1⟩ : ∃ w1, w1 = w.alloc (.cells #[.string ck, .int .i64 cp, .slice a n c] 24) := ⟨_, rfl⟩
  have HA := Lib.hid (show Below w.heap.size w w1 by rw [hw1]; exact (Below.refl _ _).alloc (Nat.le_refl _) _)
  have HG := Lib.hid (show Blk w1 w.heap.size 24 [.string ck, .int .i64 cp, .slice a n c] by rw [hw1]; exact Blk.new _ _ _)
  go_enter Tryz.func9, Tryz.ntmps9
  go_wp2_with fail
  rw [← hw1]
  clear hw1
  go_loopw [5] (fun i wr => ∃ k : Nat, k ≤ n ∧ i = .int .i64 (k : Int) ∧ Hid (∀ j (hj : j < l.length), j < k → l[j].k ≠ key) ∧ Hid (Below w1.heap.size w1 wr)) (fun i _ => n - (intOf i).toNat)
  case atStart => exact ⟨0, Nat.zero_le _, rfl, Lib.hid (fun j _ h => by omega), Lib.hid (Below.refl _ _)⟩
  case round =>
    obtain ⟨k, hk, rfl, Ha, HBr⟩ := hrel
    obtain ⟨wo, hwo⟩ : ∃ wo, wo = wr := ⟨_, rfl⟩
    subst hwo
    have hG := HG.out.kept HBr.out
    have g2 := hG.cell 2 rfl
    have HBo := Lib.hid (HA.out.trans (HBr.out.mono HA.out.size))
    clear hG
    by_cases hlt : k < n
    · have hll : k < l.length := by have := Hn.out; omega
      obtain ⟨b, off, rfl, hbl, hc⟩ := (H.out.below HBo.out).2 (by omega)
      have c0 := (hc k hll).1
      have He := Lib.hid (fun he => HH.out k hll Ha.out he)
      have Hx := Lib.hid (fun (he : l[k].k ≠ key) => (show ∀ j (hj : j < l.length), j < k + 1 → l[j].k ≠ key from fun j hj h1 => by
        by_cases hjk : j < k
        · exact Ha.out j hj hjk
        · obtain rfl : j = k := by omega
          exact he))
      clear hc
      generalize l[k].k = X at *
      have i1 : (k : Int) < (n : Int) := by omega
      rcases text_eq X key with rfl | q
      · have Hr := Lib.hid (He.out rfl)
        clear He Hx
        go_wp2
        go_ret
        exact ⟨by rw [Hr.out]; rfl, HBo.out⟩
      · have Hy := Lib.hid (Hx.out (fun e => by subst e; simp at q))
        clear He Hx
        go_wp2
        go_roundw
        case rel => exact ⟨k + 1, by omega, by go_num, Hy, HBr⟩
        case measure => simp [intOf]; omega
    · obtain rfl : k = n := by omega
      have Hr := Lib.hid (HN.out (fun j hj => Ha.out j hj (by have := Hn.out; omega)))
      rw [← Hn.out] at Hr
      go_wp2
      go_ret
      exact ⟨by rw [Hr.out]; rfl, HBo.out⟩
end Go.Proofs.YtjdflnnpamjjcaaGreatDoor

namespace Go.Proofs.YtjdflnnpamjjcaaGreatDoor
open Go.RowKit

set_option maxRecDepth 20000 in
set_option maxHeartbeats 3200000 in
theorem nets_Same (a b : Option Addr) (n c d : Nat) (l : List (Nat × Int)) (w : World) (hl : NetsAt w w.heap.size a n l) (hk : NetsAt w w.heap.size b n l) (hn : n ≤ maxLen) :
    Calls Tryz.prog 21 #[.slice a n c, .slice b n d] w fun e w' => e = .returned (.bool true) ∧ Below w.heap.size w w' := by
  have Hl := Lib.hid hl
  have Hk := Lib.hid hk
  have hl1 := hl.1
  have hm' : n ≤ 9223372036854775807 := by unfold maxLen at hn; omega
  clear hl hk
  go_enter Tryz.func21, Tryz.ntmps21
  go_wp2
  go_loopw [13] (fun i wr => ∃ j : Nat, j ≤ n ∧ i = .int .i64 j ∧ Below w.heap.size w wr) (fun i _ => n - (intOf i).toNat)
  case atStart => exact ⟨0, Nat.zero_le _, rfl, Below.refl _ _⟩
  case round =>
    obtain ⟨j, hj, rfl, hB⟩ := hrel
    by_cases hlt : j < n
    · obtain ⟨b1, o1, rfl, _, hc1⟩ := (Hl.out.below hB).2 (by omega)
      obtain ⟨b2, o2, rfl, _, hc2⟩ := (Hk.out.below hB).2 (by omega)
      obtain ⟨x0, x1⟩ := hc1 j (by omega)
      obtain ⟨y0, y1⟩ := hc2 j (by omega)
      clear hc1 hc2
      generalize l[j] = X at *
      obtain ⟨xa, xb⟩ := X
      simp only at x0 x1 y0 y1
      have i1 : (j : Int) < (n : Int) := by omega
      go_wp2_with fail
      go_quiet (fail)
      go_wp2
      go_roundw
      case rel => exact ⟨j + 1, by omega, by go_num, below_drewN hB _⟩
      case measure => simp [intOf]; omega
    · obtain rfl : j = n := by omega
      clear Hl Hk
      go_wp2
      go_ret
      exact ⟨rfl, hB⟩
end Go.Proofs.YtjdflnnpamjjcaaGreatDoor
