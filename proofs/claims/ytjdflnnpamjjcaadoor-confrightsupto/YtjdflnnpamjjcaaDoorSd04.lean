/- How a peer, and a configuration, is read as an argument of a law. -/
import Derived.Test.YtjdflnnpamjjcaaDoorRows
import Derived.Test.YtjdflnnpamjjcaaDoorMem
import Derived.ProofKit
import Derived.OpenShut
import Derived.ShutString
import Derived.ChangeOld
import Derived.Below
import Derived.SizedLaws
import Derived.Test.YtjdflnnpamjjcaaDoorConfMem
import Derived.Test.YtjdflnnpamjjcaaDoorConfArgs
import Derived.Deep.SlicePairs
import Derived.Lib.SmallJoins
namespace Go.Proofs.YtjdflnnpamjjcaaDoor
open Go.ChangeShapes Go.WideShapes Go.ChangeAt Go.RowKit

theorem own_knob : ownKnob Tryd.prog.godebug = none := by kernel_rfl
theorem laid_out : laidOutB Tryd.prog = true := by kernel_rfl

theorem lt_of_cell {w : World} {a : Addr} {v : Value} (h : w.cell? a = some v) : a.block < w.heap.size := by
  rcases Nat.lt_or_ge a.block w.heap.size with hlt | hge
  · exact hlt
  · simp [World.cell?, Array.getElem?_eq_none hge] at h

theorem byte_wf {n : Int} (h : (Lit.int .u8 n).wf = true) : ((UInt8.ofNat n.toNat).toNat : Int) = n := by
  have hb := bounds_u8 h
  rw [UInt8.toNat_ofNat', Nat.mod_eq_of_lt (by omega)]
  omega
end Go.Proofs.YtjdflnnpamjjcaaDoor

namespace Go.Proofs.YtjdflnnpamjjcaaDoor
open Go.ChangeShapes Go.WideShapes Go.ChangeAt Go.RowKit Go.Deep

/-- What a peer's datum is, but for its networks. -/
def peerD {H : Type} (p : Cf.P) (q : DataW H) : DataW H := .agg [.lit (.string p.k.data.toList), .lit (.string p.s.data.toList), .lit (.string p.e.data.toList), .lit (.int .i64 p.v), q]
def peerC (p : Cf.P) (a : Option Addr) (c : Nat) : List Value := [.string p.k, .string p.s, .string p.e, .int .i64 p.v, .slice a p.ns.length c]
theorem bulk_pos {H : Type} (d : DataW H) : 1 ≤ Rows.uptoBulk d := by
  cases d with
  | lit x => cases x <;> (rw [Rows.uptoBulk] <;> first | omega | simp)
  | nil => rw [Rows.uptoBulk]; exact Nat.le_refl _
  | ptr d => rw [Rows.uptoBulk]; omega
  | slice a b => rw [Rows.uptoBulk]; omega
  | agg a => rw [Rows.uptoBulk]; omega
  | iface a b => rw [Rows.uptoBulk]; omega
  | map a => rw [Rows.uptoBulk]; omega
  | held a => rw [Rows.uptoBulk]; exact Nat.le_refl _
theorem bulk_len {H : Type} : ∀ l : List (DataW H), l.length ≤ Rows.uptoBulkAll l
  | [] => Nat.zero_le _
  | d :: r => by
    rw [Rows.uptoBulkAll, List.length_cons]
    have := bulk_pos d
    have := bulk_len r
    omega
theorem cells_netE : Tryd.prog.cellsOf 44 = 2 := by kernel_rfl
theorem cells_peer : Tryd.prog.cellsOf 24 = 5 := by kernel_rfl
set_option maxRecDepth 100000 in
theorem open_net2 {H : Type} {enc : TypeId × Value → H} {W : World} {n : Nat} {cs : List Value} {x : DataW H × List MemPlace} (hl : cs.length = 2)
    (h : DataW.trod enc Tryd.prog W 0 (fun _ => true) true n 44 cs = some x) : ∃ r : Nat × Int, cs = [.int .u32 (r.1 : Int), .int .i64 r.2] ∧ NetBounds r := by
  obtain ⟨xs, m, _, _, _, hxl, hf⟩ := DataW.trod_struct Tryd.underlying44 h
  match xs, hxl, cs, hl with
  | [y0, y1], _, [v0, v1], _ =>
    have g0 := hf 0 _ rfl
    have g1 := hf 1 _ rfl
    change DataW.trod enc Tryd.prog W 0 (fun _ => true) true m 40 [v0] = some y0 at g0
    change DataW.trod enc Tryd.prog W 0 (fun _ => true) true m 3 [v1] = some y1 at g1
    obtain ⟨a, e0, _, w0⟩ := DataW.trod_int Tryd.underlying40 g0
    obtain ⟨b, e1, _, w1⟩ := DataW.trod_int Tryd.underlying3 g1
    injection e0 with e0
    injection e1 with e1
    subst e0 e1
    have ha := bounds_u32 w0
    obtain ⟨a', rfl⟩ : ∃ a' : Nat, a = (a' : Int) := ⟨a.toNat, by omega⟩
    exact ⟨(a', b), rfl, by show a' < _; omega, (bounds_i64 w1).1, (bounds_i64 w1).2⟩
theorem open_netsAt {H : Type} {enc : TypeId × Value → H} {W : World} {fuel : Nat} {a : Option Addr} {len cap : Nat} {y : DataW H × List MemPlace}
    (hf : DataW.trod enc Tryd.prog W 0 (fun _ => true) true fuel 22 [.slice a len cap] = some y) :
    ∃ l : List (Nat × Int), NetsAt W W.heap.size a len l ∧ len ≤ maxLen ∧ (∀ n ∈ l, NetBounds n) ∧ len ≤ Rows.uptoBulk y.1 := by
  rcases open_slice Tryd.underlying22 hf with ⟨hcs, hx⟩ | ⟨x, l, c, m, n, D, Pl, hcs, _, hl, hm, hmm, hx, hall⟩
  · simp at hcs
    obtain ⟨rfl, rfl, rfl⟩ := hcs
    exact ⟨[], ⟨rfl, fun h => absurd h (by omega)⟩, Nat.zero_le _, (fun _ h => (by cases h)), Nat.zero_le _⟩
  · simp at hcs
    obtain ⟨rfl, rfl, rfl⟩ := hcs
    rw [if_pos rfl] at hmm
    subst hmm
    rw [cells_netE] at hall
    have each : ∀ i, i < m → ∃ r : Nat × Int, (∀ j, j < 2 → W.cell? (x.add (i * 2 + j)) = ([.int .u32 (r.1 : Int), .int .i64 r.2] : List Value)[j]?) ∧ NetBounds r := by
      intro i hi
      obtain ⟨cs', h1, h2⟩ := hall i hi
      obtain ⟨_, hlen, hcell⟩ := World.cells?_some h1
      obtain ⟨r, rfl, hb⟩ := open_net2 hlen h2
      exact ⟨r, fun j hj => by rw [← add_add]; exact hcell j hj, hb⟩
    obtain ⟨q, hq⟩ := choose_lt each
    refine ⟨(List.range len).map q, ⟨by simp, fun hpos => ?_⟩, Nat.le_trans hl hm, ?_, ?_⟩
    · obtain ⟨b, off, spot⟩ := x
      have h0 := (hq 0 (by omega)).1 0 (by omega)
      have hspot : spot = none := by simpa [Addr.add] using World.cell?_spot h0
      subst hspot
      have hc : ∀ i (_ : i < len) j (_ : j < 2), W.cell? ⟨b, off + i * 2 + j, none⟩ = ([.int .u32 ((q i).1 : Int), .int .i64 (q i).2] : List Value)[j]? := by
        intro i hi j hj
        rw [← (hq i (by omega)).1 j hj, Addr.add_lit, Nat.add_assoc]
      refine ⟨b, off, rfl, lt_of_cell (a := ⟨b, off + 0 * 2 + 0, none⟩) (hc 0 hpos 0 (by omega)), fun i hi => ?_⟩
      have hi' : i < len := by simpa using hi
      rw [List.getElem_map, List.getElem_range]
      exact ⟨hc i hi' 0 (by omega), hc i hi' 1 (by omega)⟩
    · intro s hs
      obtain ⟨i, hi, rfl⟩ := List.mem_map.1 hs
      exact (hq i (by have := List.mem_range.1 hi; omega)).2
    · rw [hx]
      show len ≤ Rows.uptoBulk (DataW.slice _ _)
      rw [Rows.uptoBulk]
      have h1 := bulk_len ((List.range len).map D)
      rw [List.length_map, List.length_range] at h1
      omega
set_option maxRecDepth 100000 in
theorem open_peer5 {H : Type} {enc : TypeId × Value → H} {W : World} {n : Nat} {cs : List Value} {x : DataW H × List MemPlace} (hl : cs.length = 5)
    (h : DataW.trod enc Tryd.prog W 0 (fun _ => true) true n 24 cs = some x) :
    ∃ (p : Cf.P) (a : Option Addr) (c : Nat) (q : DataW H), cs = peerC p a c ∧ NetsAt W W.heap.size a p.ns.length p.ns ∧ PeerBounds p ∧ x.1 = peerD p q ∧ p.ns.length ≤ Rows.uptoBulk q := by
  obtain ⟨xs, m, _, rfl, _, hxl, hf⟩ := DataW.trod_struct Tryd.underlying24 h
  match xs, hxl, cs, hl with
  | [y0, y1, y2, y3, y4], _, [v0, v1, v2, v3, v4], _ =>
    have g0 := hf 0 _ rfl
    have g1 := hf 1 _ rfl
    have g2 := hf 2 _ rfl
    have g3 := hf 3 _ rfl
    have g4 := hf 4 _ rfl
    change DataW.trod enc Tryd.prog W 0 (fun _ => true) true m 9 [v0] = some y0 at g0
    change DataW.trod enc Tryd.prog W 0 (fun _ => true) true m 9 [v1] = some y1 at g1
    change DataW.trod enc Tryd.prog W 0 (fun _ => true) true m 9 [v2] = some y2 at g2
    change DataW.trod enc Tryd.prog W 0 (fun _ => true) true m 3 [v3] = some y3 at g3
    change DataW.trod enc Tryd.prog W 0 (fun _ => true) true m 22 [v4] = some y4 at g4
    obtain ⟨k, e0, d0, _⟩ := DataW.trod_string Tryd.underlying9 g0
    obtain ⟨s, e1, d1, _⟩ := DataW.trod_string Tryd.underlying9 g1
    obtain ⟨e, e2, d2, _⟩ := DataW.trod_string Tryd.underlying9 g2
    obtain ⟨v, e3, d3, w3⟩ := DataW.trod_int Tryd.underlying3 g3
    obtain ⟨a, ln, c, e4⟩ := Joins.slice_form Tryd.underlying22 g4
    injection e0 with e0
    injection e1 with e1
    injection e2 with e2
    injection e3 with e3
    injection e4 with e4
    subst e0 e1 e2 e3 e4
    obtain ⟨l, hn, hml, hb, hbk⟩ := open_netsAt g4
    obtain rfl := hn.1
    refine ⟨⟨k, s, e, v, l⟩, a, c, y4.1, rfl, hn, ⟨hb, (bounds_i64 w3).1, (bounds_i64 w3).2, hml⟩, ?_, hbk⟩
    simp only [List.map_cons, List.map_nil, d0, d1, d2, d3]
    rfl
set_option maxRecDepth 100000 in
theorem open_peer {H : Type} {enc : TypeId × Value → H} {W : World} {base : Nat} {v : Value} {d : DataW H} {p : List MemPlace} (hv : Value.okWide Tryd.prog W .any base 24 v)
    (h : DataW.Trod enc Tryd.prog W 0 (fun _ => true) true 24 v d p) :
    ∃ (x : Cf.P) (a : Option Addr) (c : Nat) (q : DataW H), v = peerV x a c ∧ NetsAt W W.heap.size a x.ns.length x.ns ∧ PeerBounds x ∧ d = peerD x q ∧ x.ns.length ≤ Rows.uptoBulk q := by
  obtain ⟨cs, rfl, hsz⟩ := okWide_struct Tryd.underlying24 hv
  obtain ⟨fuel, hf⟩ := h
  have hl : cs.toList.length = 5 := by rw [Array.length_toList, hsz, cells_peer]
  obtain ⟨x, a, c, q, e, hn, hb, hd⟩ := open_peer5 hl (by simpa [Value.cells] using hf)
  refine ⟨x, a, c, q, ?_, hn, hb, hd⟩
  have : cs = (peerC x a c).toArray := by rw [← e]
  rw [this]
  rfl
set_option maxRecDepth 100000 in
theorem open_peersAt {H : Type} {enc : TypeId × Value → H} {W : World} {fuel : Nat} {a : Option Addr} {len cap : Nat} {y : DataW H × List MemPlace}
    (hf : DataW.trod enc Tryd.prog W 0 (fun _ => true) true fuel 29 [.slice a len cap] = some y) :
    ∃ (l : List Cf.P) (Q : Nat → DataW H), PeersAt W W.heap.size a len l ∧ len ≤ cap ∧ len ≤ maxLen ∧ (∀ p ∈ l, PeerBounds p) ∧ (∀ i, i < l.length → (l.getD i Cf.zeroP).ns.length ≤ Rows.uptoBulk (Q i)) ∧ ((y.1 = .nil ∧ l = []) ∨ ∃ sp, y.1 = .slice ((List.range l.length).map fun i => peerD (l.getD i Cf.zeroP) (Q i)) sp) := by
  rcases open_slice Tryd.underlying29 hf with ⟨hcs, hx⟩ | ⟨x, l, c, m, n, D, Pl, hcs, _, hl, hm, hmm, hx, hall⟩
  · simp at hcs
    obtain ⟨rfl, rfl, rfl⟩ := hcs
    rw [hx]
    exact ⟨[], fun _ => .nil, ⟨rfl, fun h => absurd h (by omega)⟩, Nat.zero_le _, Nat.zero_le _, (fun _ h => (by cases h)), (fun i hi => by simp at hi), .inl ⟨rfl, rfl⟩⟩
  · simp at hcs
    obtain ⟨rfl, rfl, rfl⟩ := hcs
    rw [if_pos rfl] at hmm
    subst hmm
    rw [cells_peer] at hall
    have each : ∀ i, i < m → ∃ r : Cf.P × Option Addr × Nat × DataW H, (∀ j, j < 5 → W.cell? (x.add (i * 5 + j)) = (peerC r.1 r.2.1 r.2.2.1)[j]?) ∧ NetsAt W W.heap.size r.2.1 r.1.ns.length r.1.ns ∧ PeerBounds r.1 ∧ D i = peerD r.1 r.2.2.2 ∧ r.1.ns.length ≤ Rows.uptoBulk r.2.2.2 := by
      intro i hi
      obtain ⟨cs', h1, h2⟩ := hall i hi
      obtain ⟨_, hlen, hcell⟩ := World.cells?_some h1
      obtain ⟨p, a, c, q, rfl, hn, hb, hd⟩ := open_peer5 hlen h2
      exact ⟨(p, a, c, q), fun j hj => by rw [← add_add]; exact hcell j hj, hn, hb, hd⟩
    haveI : Inhabited (DataW H) := ⟨.nil⟩
    obtain ⟨q, hq⟩ := choose_lt each
    refine ⟨(List.range len).map fun i => (q i).1, fun i => (q i).2.2.2, ⟨by simp, fun hpos => ?_⟩, hl, Nat.le_trans hl hm, ?_, ?_, .inr ⟨(List.range (m - len)).map fun j => D (len + j), ?_⟩⟩
    · obtain ⟨b, off, spot⟩ := x
      have h0 := (hq 0 (by omega)).1 0 (by omega)
      have hspot : spot = none := by simpa [Addr.add] using World.cell?_spot h0
      subst hspot
      have hc : ∀ i (_ : i < len) j (_ : j < 5), W.cell? ⟨b, off + i * 5 + j, none⟩ = (peerC (q i).1 (q i).2.1 (q i).2.2.1)[j]? := by
        intro i hi j hj
        rw [← (hq i (by omega)).1 j hj, Addr.add_lit, Nat.add_assoc]
      refine ⟨b, off, rfl, lt_of_cell (a := ⟨b, off + 0 * 5 + 0, none⟩) (hc 0 hpos 0 (by omega)), fun i hi => ?_⟩
      have hi' : i < len := by simpa using hi
      rw [List.getElem_map, List.getElem_range]
      exact ⟨hc i hi' 0 (by omega), hc i hi' 1 (by omega), hc i hi' 2 (by omega), hc i hi' 3 (by omega), _, _, hc i hi' 4 (by omega), (hq i (by omega)).2.1⟩
    · intro s hs
      obtain ⟨i, hi, rfl⟩ := List.mem_map.1 hs
      exact (hq i (by have := List.mem_range.1 hi; omega)).2.2.1
    · intro i hi
      have hi' : i < len := by simpa using hi
      rw [List.getD_eq_getElem?_getD, List.getElem?_map, List.getElem?_range hi']
      exact (hq i (by omega)).2.2.2.2
    · rw [hx]
      show DataW.slice _ _ = _
      rw [List.length_map, List.length_range]
      congr 1
      apply List.map_congr_left
      intro i hi
      have hi' := List.mem_range.1 hi
      rw [(hq i (by omega)).2.2.2.1]
      congr 1
      rw [List.getD_eq_getElem?_getD, List.getElem?_map, List.getElem?_range hi']
      rfl
set_option maxRecDepth 100000 in
theorem open_conf {H : Type} {enc : TypeId × Value → H} {W : World} {base : Nat} {v : Value} {d : DataW H} {p : List MemPlace} (hv : Value.okWide Tryd.prog W .any base 31 v)
    (h : DataW.Trod enc Tryd.prog W 0 (fun _ => true) true 31 v d p) :
    ∃ (x : Cf.C) (a : Option Addr) (c : Nat) (z : DataW H) (Q : Nat → DataW H), v = confV x a c ∧ PeersAt W W.heap.size a x.ps.length x.ps ∧ x.ps.length ≤ c ∧ x.ps.length ≤ maxLen ∧ (∀ p ∈ x.ps, PeerBounds p) ∧ (-9223372036854775808 ≤ x.p ∧ x.p ≤ 9223372036854775807) ∧
      d = .agg [.lit (.string x.k.data.toList), .lit (.int .i64 x.p), z] ∧ (∀ i, i < x.ps.length → (x.ps.getD i Cf.zeroP).ns.length ≤ Rows.uptoBulk (Q i)) ∧ ((z = .nil ∧ x.ps = []) ∨ ∃ sp, z = .slice ((List.range x.ps.length).map fun i => peerD (x.ps.getD i Cf.zeroP) (Q i)) sp) := by
  obtain ⟨v0, v1, v2, y0, y1, y2, n, rfl, rfl, rfl, h0, h1, h2⟩ := Joins.open_agg3 Tryd.underlying31 (by kernel_rfl) (by kernel_rfl) hv h
  obtain ⟨k, e0, d0, _⟩ := DataW.trod_string Tryd.underlying9 h0
  obtain ⟨pt, e1, d1, w1⟩ := DataW.trod_int Tryd.underlying3 h1
  obtain ⟨a, ln, c, e2⟩ := Joins.slice_form Tryd.underlying29 h2
  injection e0 with e0
  injection e1 with e1
  injection e2 with e2
  subst e0 e1 e2
  obtain ⟨l, Q, hp, hcc, hc, hb, hk2, hz⟩ := open_peersAt h2
  obtain rfl := hp.1
  refine ⟨⟨k, pt, l⟩, a, c, y2.1, Q, rfl, hp, hcc, hc, hb, bounds_i64 w1, ?_, hk2, hz⟩
  rw [d0, d1]
theorem bulk_in {H : Type} {d : DataW H} : ∀ {l : List (DataW H)}, d ∈ l → Rows.uptoBulk d ≤ Rows.uptoBulkAll l
  | x :: r, h => by
    rw [Rows.uptoBulkAll]
    rcases List.mem_cons.1 h with rfl | h
    · omega
    · have := bulk_in h; omega
theorem bulk_peer {H : Type} (p : Cf.P) (q : DataW H) : p.k.size ≤ Rows.uptoBulk (peerD p q) ∧ p.s.size ≤ Rows.uptoBulk (peerD p q) ∧ p.e.size ≤ Rows.uptoBulk (peerD p q) ∧ 1 ≤ Rows.uptoBulk (peerD p q) := by
  unfold peerD
  simp only [Rows.uptoBulk, Rows.uptoBulkAll]
  have h1 : p.k.data.toList.length = p.k.size := by simp
  have h2 : p.s.data.toList.length = p.s.size := by simp
  have h3 : p.e.data.toList.length = p.e.size := by simp
  omega
theorem peer_small {H : Type} {d q : DataW H} {p : Cf.P} (hd : d = peerD p q) (h : Rows.uptoBulk d ≤ 1048576) : PeerSmall p := by
  obtain ⟨h1, h2, h3, -⟩ := bulk_peer p q
  rw [hd] at h
  exact ⟨by omega, by omega, by omega⟩
theorem bulk_nets {H : Type} (p : Cf.P) (q : DataW H) (h : p.ns.length ≤ Rows.uptoBulk q) : p.ns.length ≤ Rows.uptoBulk (peerD p q) := by
  unfold peerD
  simp only [Rows.uptoBulk, Rows.uptoBulkAll]
  omega
/-- What the narrowed rows say of a configuration. -/
theorem conf_small {H : Type} {d z : DataW H} {Q : Nat → DataW H} {x : Cf.C} (hd : d = .agg [.lit (.string x.k.data.toList), .lit (.int .i64 x.p), z]) (hk : ∀ i, i < x.ps.length → (x.ps.getD i Cf.zeroP).ns.length ≤ Rows.uptoBulk (Q i)) (hz : (z = .nil ∧ x.ps = []) ∨ ∃ sp, z = .slice ((List.range x.ps.length).map fun i => peerD (x.ps.getD i Cf.zeroP) (Q i)) sp) (h : Rows.uptoBulk d ≤ 1048576) : ConfSmall x := by
  rw [hd] at h
  simp only [Rows.uptoBulk, Rows.uptoBulkAll] at h
  have h1 : x.k.data.toList.length = x.k.size := by simp
  have key : x.ps.length ≤ 1048576 ∧ ∀ p ∈ x.ps, PeerSmall p ∧ p.ns.length ≤ 1048576 := by
    rcases hz with ⟨_, hn⟩ | ⟨sp, rfl⟩
    · rw [hn]
      exact ⟨Nat.zero_le _, fun p hp => by cases hp⟩
    · rw [Rows.uptoBulk] at h
      have h2 := bulk_len ((List.range x.ps.length).map fun i => peerD (x.ps.getD i Cf.zeroP) (Q i))
      rw [List.length_map, List.length_range] at h2
      refine ⟨by omega, fun p hp => ?_⟩
      obtain ⟨j, hj, rfl⟩ := List.mem_iff_getElem.1 hp
      have hm : peerD x.ps[j] (Q j) ∈ (List.range x.ps.length).map fun i => peerD (x.ps.getD i Cf.zeroP) (Q i) := List.mem_map.2 ⟨j, List.mem_range.2 hj, by rw [List.getD_eq_getElem?_getD, List.getElem?_eq_getElem hj]; rfl⟩
      have hb := bulk_in hm
      have hq := hk j hj
      rw [List.getD_eq_getElem?_getD, List.getElem?_eq_getElem hj] at hq
      have hbn := bulk_nets x.ps[j] (Q j) hq
      exact ⟨peer_small (q := Q j) rfl (by omega), by omega⟩
  exact ⟨by omega, key.1, fun p hp => (key.2 p hp).1, fun p hp => (key.2 p hp).2⟩
end Go.Proofs.YtjdflnnpamjjcaaDoor
