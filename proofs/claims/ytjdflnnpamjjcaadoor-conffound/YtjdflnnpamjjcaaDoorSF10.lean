/- The contract of the laws' ends. -/
import Derived.Test.YtjdflnnpamjjcaaDoorSF09
import Derived.Test.YtjdflnnpamjjcaaDoorSF08
import Derived.Test.YtjdflnnpamjjcaaDoorSF01
namespace Go.Proofs.YtjdflnnpamjjcaaDoor
open Go.RowKit

theorem RowTy.cs_take {α : Type} (T : RowTy α) (R : List α) (i : Nat) (h : i ≤ R.length) : (T.cs R).take (i * T.k) = T.cs (R.take i) := by
  have e : T.cs R = T.cs (R.take i) ++ T.cs (R.drop i) := by rw [← T.cs_append, List.take_append_drop]
  have hl : (T.cs (R.take i)).length = i * T.k := by rw [T.cs_length, List.length_take, Nat.min_eq_left h]
  rw [e, ← hl, List.take_left]
/-- A part of a row is cleared: what lies ahead of it stays. -/
theorem RowTy.run_clear {α : Type} (T : RowTy α) (z : Value) (hz : ∀ W, (zeroValue T.t).run Tryd.prog W = .ok z W) (hzc : z.cells = (T.enc T.zero).toArray) (w : World) (g i m c : Nat) (R : List α) (X : List Value)
    (hg : w.heap[g]? = some (.cells (T.cs R ++ X).toArray T.t (0, 0))) (him : i + m = R.length) (hm : 0 < m) :
    ∃ W Y, (∀ ty, (Builtin.clear_ #[T.s] ty #[.slice (some ⟨g, i * T.k, none⟩) m c]).run Tryd.prog w = .ok (.tuple #[]) W) ∧ W.heap[g]? = some (.cells (T.cs (R.take i) ++ Y).toArray T.t (0, 0)) ∧ Y.length = X.length + m * T.k ∧ w.grownBy W (some g) := by
  obtain ⟨zs, hzs⟩ : ∃ zs, zs = (Builtin.zeroCells z.cells m).toList := ⟨_, rfl⟩
  have hk : z.cells.size = T.k := by rw [hzc, List.size_toArray, T.len]
  have hl : zs.length = m * T.k := by rw [hzs]; simp [Builtin.zeroCells, hk]
  have h1 : ∀ v ∈ zs, v.oneCell' = true := by
    intro v hv
    rw [hzs] at hv
    simp only [Builtin.zeroCells, Array.toList_map, List.mem_map] at hv
    obtain ⟨j, _, rfl⟩ := hv
    have hj : j % z.cells.size < (T.enc T.zero).length := by rw [T.len, hk]; exact Nat.mod_lt _ T.pos
    refine T.one T.zero _ ?_
    rw [hzc] at hj ⊢
    rw [getElem!_pos _ _ (by simpa using hj)]
    simp
  have hmul : (i + m) * T.k = R.length * T.k := by rw [him]
  rw [Nat.add_mul] at hmul
  have hst := run_storeCells_at Tryd.prog g (i * T.k) T.t zs 0 (T.cs R ++ X).toArray w hg (by rw [hl]; simp [T.cs_length]; omega) h1
  have hik : i ≤ R.length := by omega
  have hcut : (T.cs R ++ X).take (i * T.k) = T.cs (R.take i) := by rw [List.take_append_of_le_length (by rw [T.cs_length]; omega), T.cs_take R i hik]
  refine ⟨w.setRow g ((T.cs R ++ X).take (i * T.k) ++ zs ++ (T.cs R ++ X).drop (i * T.k + zs.length)).toArray, zs ++ (T.cs R ++ X).drop (i * T.k + zs.length), fun ty => ?_, ?_, ?_, grown_set_row _ _ _⟩
  · obtain ⟨m', rfl⟩ : ∃ m', m = m' + 1 := ⟨m - 1, by omega⟩
    simp [Builtin.clear_, run_underlying T.und, hz, ← hzs, hst]
  · rw [hcut, List.append_assoc]
    exact setRow_heap w g _ _ T.t _ hg
  · rw [List.length_append, List.length_drop, List.length_append, T.cs_length, hl]
    omega
/-- The cells of one element of a block. -/
theorem RowTy.block_cell {α : Type} (T : RowTy α) {w : World} {g : Nat} {L : List α} {X : List Value} (hg : w.heap[g]? = some (.cells (T.cs L ++ X).toArray T.t (0, 0))) (i j : Nat) (hi : i < L.length) (hj : j < T.k) :
    w.cell? ⟨g, i * T.k + j, none⟩ = (T.enc L[i])[j]? ∧ w.frozen? ⟨g, i * T.k + j, none⟩ = false := by
  have hm : (i + 1) * T.k ≤ L.length * T.k := Nat.mul_le_mul_right _ hi
  rw [Nat.succ_mul] at hm
  refine ⟨?_, by simp [World.frozen?, hg]⟩
  rw [cell_of_row _ _ _ _ _ _ hg, List.getElem?_toArray, List.getElem?_append_left (by rw [T.cs_length]; omega)]
  exact T.cs_get L i j hi hj
/-- One cell of a block's element changed. -/
theorem RowTy.block_set {α : Type} (T : RowTy α) {w : World} {g : Nat} {L : List α} {X : List Value} (hg : w.heap[g]? = some (.cells (T.cs L ++ X).toArray T.t (0, 0))) (i j : Nat) (x : α) (v : Value) (hi : i < L.length) (hj : j < T.k) (hx : (T.enc L[i]).set j v = T.enc x) :
    (w.setCell ⟨g, i * T.k + j, none⟩ v).heap[g]? = some (.cells (T.cs (L.set i x) ++ X).toArray T.t (0, 0)) := by
  have hm : (i + 1) * T.k ≤ L.length * T.k := Nat.mul_le_mul_right _ hi
  rw [Nat.succ_mul] at hm
  rw [heap_setCell_same w g (i * T.k + j) _ T.t v hg]
  congr 2
  rw [← T.cs_setCell L i j x v hi hj hx, List.setIfInBounds_toArray, List.set_append_left _ _ (by rw [T.cs_length]; omega)]
theorem grown_setCell' (w : World) (g i : Nat) (u : Value) : w.grownBy (w.setCell ⟨g, i, none⟩ u) (some g) :=
  ⟨rfl, rfl, rfl, by simp [World.setCell], fun k _ hne => heap_setCell_other w ⟨g, i, none⟩ k u (fun e => hne (by rw [show k = g from e]))⟩
end Go.Proofs.YtjdflnnpamjjcaaDoor

namespace Go.Proofs.YtjdflnnpamjjcaaDoor
open Go.RowKit

/-- The configuration so far: its block, its peers, the networks met. -/
structure ConfSt (w W : World) (bc : Nat) (port : Int) (vp : Value) (L : List Cf.Q) (vm : Value) (ms : List (Nat × Int)) : Prop where
  below : Below w.heap.size w W
  bcb : w.heap.size ≤ bc
  conf : Blk W bc 31 [.string (keyOf 0), .int .i64 port, vp]
  peers : OwnP W (bc + 1) vp L
  met : netT.own W (bc + 1) vm ms
  apv : ApartG vm vp
  apl : ∀ q ∈ L, ApartG vm (Cf.nv q)
/-- The peer under construction: its block, its networks. -/
structure PeerSt (W : World) (bc bp : Nat) (vp : Value) (L : List Cf.Q) (vm : Value) (k s e : ByteArray) (v : Int) (vn : Value) (ns : List (Nat × Int)) : Prop where
  lt : bc < bp
  blk : Blk W bp 24 [.string k, .string s, .string e, .int .i64 v, vn]
  nets : netT.own W (bc + 1) vn ns
  nbp : vn.ownBlock ≠ some bp
  apm : ApartG vn vm
  apv : ApartG vn vp
  apl : ∀ q ∈ L, ApartG vn (Cf.nv q)
  mbp : vm.ownBlock ≠ some bp
  vbp : vp.ownBlock ≠ some bp
  lbp : ∀ q ∈ L, (Cf.nv q).ownBlock ≠ some bp
theorem ApartG.symm {v u : Value} (h : ApartG v u) : ApartG u v := fun g hu hv => h g hv hu
theorem apart_at {W : World} {v v' u : Value} (h : ApartG v u) (hat : v'.ownBlock = v.ownBlock ∨ v'.ownBlock = some W.heap.size) (hu : ∀ g, u.ownBlock = some g → g < W.heap.size) : ApartG v' u := by
  intro g hg hb
  rcases hat with hat | hat
  · exact h g (hat ▸ hg) hb
  · rw [hat] at hg
    injection hg with hg
    have := hu g hb
    omega
theorem apart_nil (u : Value) (c : Nat) (n : Nat) : ApartG (.slice none n c) u := fun g hg => by cases hg
theorem ConfSt.step {w W W' : World} {bc : Nat} {port : Int} {vp : Value} {L : List Cf.Q} {vm : Value} {ms : List (Nat × Int)} (h : ConfSt w W bc port vp L vm ms) (hb : Below W.heap.size W W') : ConfSt w W' bc port vp L vm ms :=
  ⟨h.below.trans (hb.mono h.below.size), h.bcb, h.conf.kept hb, h.peers.below hb, h.met.below hb, h.apv, h.apl⟩
theorem PeerSt.step {W W' : World} {bc bp : Nat} {vp : Value} {L : List Cf.Q} {vm : Value} {k s e : ByteArray} {v : Int} {vn : Value} {ns : List (Nat × Int)} (h : PeerSt W bc bp vp L vm k s e v vn ns) (hb : Below W.heap.size W W') : PeerSt W' bc bp vp L vm k s e v vn ns :=
  ⟨h.lt, h.blk.kept hb, h.nets.below hb, h.nbp, h.apm, h.apv, h.apl, h.mbp, h.vbp, h.lbp⟩
/-- What changes another row's block alone leaves peers. -/
theorem OwnP.kept {W W' : World} {B : Nat} {v : Value} {L : List Cf.Q} {row : Option Nat} (h : OwnP W B v L) (hg : W.grownBy W' row) (h1 : ∀ g, v.ownBlock = some g → row ≠ some g) (h2 : ∀ q ∈ L, ∀ g, (Cf.nv q).ownBlock = some g → row ≠ some g) : OwnP W' B v L :=
  ⟨h.row.kept hg h1, fun q hq => (h.nets q hq).kept hg (h2 q hq), h.apart, h.pair⟩
theorem below_own_grown {W0 W W' : World} {B B' : Nat} {v : Value} {l : List (Nat × Int)} (hb : Below B W0 W) (ho : netT.own W B' v l) (hg : W.grownBy W' v.ownBlock) (hB : B ≤ B') (hs : B ≤ W.heap.size) : Below B W0 W' :=
  hb.grown hg hs (fun k h => Nat.le_trans hB (ho.lt k h).1)
theorem Blk.grown {W W' : World} {g : Nat} {t : TypeId} {xs : List Value} {row : Option Nat} (h : Blk W g t xs) (hg : W.grownBy W' row) (hne : row ≠ some g) : Blk W' g t xs := (hg.block g h.lt (fun e => hne e.symm)).trans h
/-- The networks met grow, or shrink. -/
theorem ConfSt.mets {w W W' : World} {bc : Nat} {port : Int} {vp : Value} {L : List Cf.Q} {vm vm' : Value} {ms ms' : List (Nat × Int)} (h : ConfSt w W bc port vp L vm ms) (hg : W.grownBy W' vm.ownBlock) (ho : netT.own W' (bc + 1) vm' ms') (hat : vm'.ownBlock = vm.ownBlock ∨ vm'.ownBlock = some W.heap.size) : ConfSt w W' bc port vp L vm' ms' := by
  refine ⟨below_own_grown h.below h.met hg (by have := h.bcb; omega) h.below.size, h.bcb, h.conf.grown hg (fun e => by have := (h.met.lt bc e).1; omega), h.peers.kept hg (fun g hv e => h.apv g e hv) (fun q hq g hv e => h.apl q hq g e hv), ho, ?_, fun q hq => ?_⟩
  · exact apart_at h.apv hat (fun g hg => (h.peers.row.lt g hg).2)
  · exact apart_at (h.apl q hq) hat (fun g hg => ((h.peers.nets q hq).lt g hg).2)
theorem PeerSt.mets {w W W' : World} {bc bp : Nat} {port : Int} {vp : Value} {L : List Cf.Q} {vm vm' : Value} {ms : List (Nat × Int)} {k s e : ByteArray} {v : Int} {vn : Value} {ns : List (Nat × Int)} (_hc : ConfSt w W bc port vp L vm ms) (h : PeerSt W bc bp vp L vm k s e v vn ns) (hg : W.grownBy W' vm.ownBlock) (hat : vm'.ownBlock = vm.ownBlock ∨ vm'.ownBlock = some W.heap.size) : PeerSt W' bc bp vp L vm' k s e v vn ns := by
  refine ⟨h.lt, h.blk.grown hg h.mbp, h.nets.kept hg (fun g hv e => h.apm g hv e), h.nbp, ?_, h.apv, h.apl, fun e => ?_, h.vbp, h.lbp⟩
  · exact (apart_at h.apm.symm hat (fun g hg => (h.nets.lt g hg).2)).symm
  · rcases hat with hat | hat
    · exact h.mbp (hat ▸ e)
    · rw [hat] at e
      injection e with e
      have := h.blk.lt
      omega
/-- The peer's networks grow (or are put in order) and are stored. -/
theorem ConfSt.nets {w W W' : World} {bc bp : Nat} {port : Int} {vp : Value} {L : List Cf.Q} {vm : Value} {ms : List (Nat × Int)} {k s e : ByteArray} {v : Int} {vn : Value} {ns : List (Nat × Int)} (hc : ConfSt w W bc port vp L vm ms) (h : PeerSt W bc bp vp L vm k s e v vn ns) (hg : W.grownBy W' vn.ownBlock) : ConfSt w W' bc port vp L vm ms :=
  ⟨below_own_grown hc.below h.nets hg (by have := hc.bcb; omega) hc.below.size, hc.bcb, hc.conf.grown hg (fun e => by have := (h.nets.lt bc e).1; omega), hc.peers.kept hg (fun g hv e => h.apv g e hv) (fun q hq g hv e => h.apl q hq g e hv), hc.met.kept hg (fun g hv e => h.apm g e hv), hc.apv, hc.apl⟩
/-- A cell of the peer's block is written. -/
theorem ConfSt.cell {w W : World} {bc bp i : Nat} {port : Int} {vp : Value} {L : List Cf.Q} {vm : Value} {ms : List (Nat × Int)} {k s e : ByteArray} {v : Int} {vn : Value} {ns : List (Nat × Int)} (hc : ConfSt w W bc port vp L vm ms) (h : PeerSt W bc bp vp L vm k s e v vn ns) (x : Value) : ConfSt w (W.setCell ⟨bp, i, none⟩ x) bc port vp L vm ms := by
  have hg := grown_setCell' W bp i x
  have hlt := h.lt
  have hbc := hc.bcb
  exact ⟨hc.below.grown hg hc.below.size (fun j e => by injection e with e; omega), hc.bcb, hc.conf.grown hg (fun e => by injection e with e; omega), hc.peers.kept hg (fun g hv e => h.vbp (hv.trans e.symm)) (fun q hq g hv e => h.lbp q hq (hv.trans e.symm)), hc.met.kept hg (fun g hv e => h.mbp (hv.trans e.symm)), hc.apv, hc.apl⟩
theorem PeerSt.netsAt {w W W' : World} {bc bp : Nat} {port : Int} {vp : Value} {L : List Cf.Q} {vm : Value} {ms : List (Nat × Int)} {k s e : ByteArray} {v : Int} {vn vn' : Value} {ns ns' : List (Nat × Int)} (hc : ConfSt w W bc port vp L vm ms) (h : PeerSt W bc bp vp L vm k s e v vn ns) (hg : W.grownBy W' vn.ownBlock) (ho : netT.own W' (bc + 1) vn' ns') (hat : vn'.ownBlock = vn.ownBlock ∨ vn'.ownBlock = some W.heap.size) : PeerSt (W'.setCell ⟨bp, 4, none⟩ vn') bc bp vp L vm k s e v vn' ns' := by
  have hb : vn'.ownBlock ≠ some bp := fun e => by
    rcases hat with hat | hat
    · exact h.nbp (hat ▸ e)
    · rw [hat] at e
      injection e with e
      have := h.blk.lt
      omega
  refine ⟨h.lt, (h.blk.grown hg h.nbp).set (by show 5 ≤ maxLen; decide) 4 vn', ho.kept (grown_setCell' W' bp 4 vn') (fun g hv e => hb (hv.trans e.symm)), hb, ?_, ?_, fun q hq => ?_, h.mbp, h.vbp, h.lbp⟩
  · exact apart_at h.apm hat (fun g hg => (hc.met.lt g hg).2)
  · exact apart_at h.apv hat (fun g hg => (hc.peers.row.lt g hg).2)
  · exact apart_at (h.apl q hq) hat (fun g hg => ((hc.peers.nets q hq).lt g hg).2)
/-- The peer's networks are put in order where they are. -/
theorem PeerSt.sorted {W W' : World} {bc bp : Nat} {vp : Value} {L : List Cf.Q} {vm : Value} {k s e : ByteArray} {v : Int} {vn : Value} {ns ns' : List (Nat × Int)} (h : PeerSt W bc bp vp L vm k s e v vn ns) (hg : W.grownBy W' vn.ownBlock) (ho : netT.own W' (bc + 1) vn ns') : PeerSt W' bc bp vp L vm k s e v vn ns' :=
  ⟨h.lt, h.blk.grown hg h.nbp, ho, h.nbp, h.apm, h.apv, h.apl, h.mbp, h.vbp, h.lbp⟩
/-- The shared key is stored. -/
theorem PeerSt.shared {W : World} {bc bp : Nat} {vp : Value} {L : List Cf.Q} {vm : Value} {k s e : ByteArray} {v : Int} {vn : Value} {ns : List (Nat × Int)} (h : PeerSt W bc bp vp L vm k s e v vn ns) (s' : ByteArray) : PeerSt (W.setCell ⟨bp, 1, none⟩ (.string s')) bc bp vp L vm k s' e v vn ns :=
  ⟨h.lt, h.blk.set (by show 5 ≤ maxLen; decide) 1 (.string s'), h.nets.kept (grown_setCell' W bp 1 _) (fun g hv e => h.nbp (hv.trans e.symm)), h.nbp, h.apm, h.apv, h.apl, h.mbp, h.vbp, h.lbp⟩
/-- The port is stored. -/
theorem ConfSt.port {w W : World} {bc : Nat} {port : Int} {vp : Value} {L : List Cf.Q} {vm : Value} {ms : List (Nat × Int)} (h : ConfSt w W bc port vp L vm ms) (p : Int) : ConfSt w (W.setCell ⟨bc, 1, none⟩ (.int .i64 p)) bc p vp L vm ms := by
  have hg := grown_setCell' W bc 1 (.int .i64 p)
  have hbc := h.bcb
  exact ⟨h.below.grown hg h.below.size (fun j e => by injection e with e; omega), hbc, h.conf.set (by show 3 ≤ maxLen; decide) 1 _, h.peers.kept hg (fun g hv e => by have := (h.peers.row.lt g hv).1; injection e with e; omega) (fun q hq g hv e => by have := ((h.peers.nets q hq).lt g hv).1; injection e with e; omega), h.met.kept hg (fun g hv e => by have := (h.met.lt g hv).1; injection e with e; omega), h.apv, h.apl⟩
/-- The peer is appended and its configuration's slice stored. -/
theorem ConfSt.push {w W W' : World} {bc bp : Nat} {port : Int} {vp vp' : Value} {L : List Cf.Q} {vm : Value} {ms : List (Nat × Int)} {p : Cf.P} {a : Option Addr} {c : Nat} (hc : ConfSt w W bc port vp L vm ms) (h : PeerSt W bc bp vp L vm p.k p.s p.e p.v (.slice a p.ns.length c) p.ns)
    (hg : W.grownBy W' vp.ownBlock) (ho : peerT.own W' (bc + 1) vp' (L ++ [(p, a, c)])) (hat : vp'.ownBlock = vp.ownBlock ∨ vp'.ownBlock = some W.heap.size) : ConfSt w (W'.setCell ⟨bc, 2, none⟩ vp') bc port vp' (L ++ [(p, a, c)]) vm ms := by
  have hgs := grown_setCell' W' bc 2 vp'
  have hbc := hc.bcb
  have hov : ∀ g, vp'.ownBlock = some g → bc + 1 ≤ g := fun g hv => (ho.lt g hv).1
  have hL : ∀ q ∈ L, netT.own W' (bc + 1) (Cf.nv q) q.1.ns := fun q hq => (hc.peers.nets q hq).kept hg (fun g hv e => hc.peers.apart q hq g hv e)
  have hn : netT.own W' (bc + 1) (.slice a p.ns.length c) p.ns := h.nets.kept hg (fun g hv e => h.apv g hv e)
  have hm : netT.own W' (bc + 1) vm ms := hc.met.kept hg (fun g hv e => hc.apv g hv e)
  refine ⟨?_, hbc, (hc.conf.grown hg (fun e => by have := (hc.peers.row.lt bc e).1; omega)).set (by show 3 ≤ maxLen; decide) 2 vp', ⟨ho.kept hgs (fun g hv e => by have := hov g hv; injection e with e; omega), ?_, ?_, ?_⟩, hm.kept hgs (fun g hv e => by have := (hm.lt g hv).1; injection e with e; omega), ?_, ?_⟩
  · exact (hc.below.grown hg hc.below.size (fun k h => by have := (hc.peers.row.lt k h).1; omega)).grown hgs (by have := hc.below.size; have := hg.size; omega) (fun j e => by injection e with e; omega)
  · intro q hq
    rcases List.mem_append.1 hq with hq | hq
    · exact (hL q hq).kept hgs (fun g hv e => by have := ((hL q hq).lt g hv).1; injection e with e; omega)
    · obtain rfl : q = (p, a, c) := by simpa using hq
      exact hn.kept hgs (fun g hv e => by have := (hn.lt g hv).1; injection e with e; omega)
  · intro q hq
    rcases List.mem_append.1 hq with hq | hq
    · exact (apart_at (hc.peers.apart q hq).symm hat (fun g hv => ((hc.peers.nets q hq).lt g hv).2)).symm
    · obtain rfl : q = (p, a, c) := by simpa using hq
      exact (apart_at h.apv.symm hat (fun g hv => (h.nets.lt g hv).2)).symm
  · refine List.pairwise_append.2 ⟨hc.peers.pair, List.pairwise_singleton _ _, fun q hq r hr => ?_⟩
    obtain rfl : r = (p, a, c) := by simpa using hr
    exact (h.apl q hq).symm
  · exact (apart_at hc.apv.symm hat (fun g hv => (hc.met.lt g hv).2)).symm
  · intro q hq
    rcases List.mem_append.1 hq with hq | hq
    · exact hc.apl q hq
    · obtain rfl : q = (p, a, c) := by simpa using hq
      exact h.apm.symm
end Go.Proofs.YtjdflnnpamjjcaaDoor

namespace Go.Proofs.YtjdflnnpamjjcaaDoor
open Go.RowKit

def endsC : List Value := Cf.ends.map .string
theorem keep_ends (w : World) :
    Calls Tryd.prog 21 #[] w fun e w' => e = .returned (.slice (some ⟨w.heap.size, 0, none⟩) 5 5) ∧ Blk w' w.heap.size 9 endsC ∧ Below w.heap.size w w' := by
  go_enter Tryd.func21, Tryd.ntmps21
  go_wp2
  go_ret
  exact ⟨rfl, Blk.new _ _ _, (Below.refl _ _).alloc (Nat.le_refl _) _⟩
end Go.Proofs.YtjdflnnpamjjcaaDoor
