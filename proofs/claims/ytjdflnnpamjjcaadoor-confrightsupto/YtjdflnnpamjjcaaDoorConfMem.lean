/- Peers in memory: a slice of peers, five cells each, each one's networks behind its fifth. -/
import Derived.Test.YtjdflnnpamjjcaaDoorNetsMem
import Derived.Test.YtjdflnnpamjjcaaDoorConfPlain
namespace Go.Proofs.YtjdflnnpamjjcaaDoor
open Go.RowKit

def peerV (p : Cf.P) (a : Option Addr) (c : Nat) : Value := .agg #[.string p.k, .string p.s, .string p.e, .int .i64 p.v, .slice a p.ns.length c]
def confV (x : Cf.C) (a : Option Addr) (c : Nat) : Value := .agg #[.string x.k, .int .i64 x.p, .slice a x.ps.length c]
/-- The peers l lie in memory, behind the slice (a, n). -/
def PeersAt (w : World) (B : Nat) (a : Option Addr) (n : Nat) (l : List Cf.P) : Prop :=
  l.length = n ∧ (0 < n → ∃ b off, a = some ⟨b, off, none⟩ ∧ b < B ∧ ∀ i (h : i < l.length), w.cell? ⟨b, off + i * 5, none⟩ = some (.string l[i].k) ∧ w.cell? ⟨b, off + i * 5 + 1, none⟩ = some (.string l[i].s) ∧ w.cell? ⟨b, off + i * 5 + 2, none⟩ = some (.string l[i].e) ∧ w.cell? ⟨b, off + i * 5 + 3, none⟩ = some (.int .i64 l[i].v) ∧
    ∃ x c, w.cell? ⟨b, off + i * 5 + 4, none⟩ = some (.slice x l[i].ns.length c) ∧ NetsAt w B x l[i].ns.length l[i].ns)
theorem PeersAt.nil (w : World) (B : Nat) (a : Option Addr) : PeersAt w B a 0 [] := ⟨rfl, fun h => absurd h (by decide)⟩
theorem PeersAt.below {w w' : World} {B n : Nat} {a : Option Addr} {l : List Cf.P} (h : PeersAt w B a n l) (hb : Below B w w') : PeersAt w' B a n l :=
  ⟨h.1, fun hn => by
    obtain ⟨b, off, e, hlt, hc⟩ := h.2 hn
    refine ⟨b, off, e, hlt, fun i hi => ?_⟩
    obtain ⟨h0, h1, h2, h3, x, c, h4, h5⟩ := hc i hi
    rw [hb.cell (p := ⟨b, off + i * 5, none⟩) hlt, hb.cell (p := ⟨b, off + i * 5 + 1, none⟩) hlt, hb.cell (p := ⟨b, off + i * 5 + 2, none⟩) hlt, hb.cell (p := ⟨b, off + i * 5 + 3, none⟩) hlt]
    exact ⟨h0, h1, h2, h3, x, c, by rw [hb.cell (p := ⟨b, off + i * 5 + 4, none⟩) hlt]; exact h4, h5.below hb⟩⟩
theorem PeersAt.more {w : World} {B B' n : Nat} {a : Option Addr} {l : List Cf.P} (h : PeersAt w B a n l) (hB : B ≤ B') : PeersAt w B' a n l :=
  ⟨h.1, fun hn => by
    obtain ⟨b, off, e, hlt, hc⟩ := h.2 hn
    refine ⟨b, off, e, Nat.lt_of_lt_of_le hlt hB, fun i hi => ?_⟩
    obtain ⟨h0, h1, h2, h3, x, c, h4, h5⟩ := hc i hi
    exact ⟨h0, h1, h2, h3, x, c, h4, h5.more hB⟩⟩
theorem PeersAt.kept {w w' : World} {n : Nat} {a : Option Addr} {l : List Cf.P} (h : PeersAt w w.heap.size a n l) (hb : Below w.heap.size w w') : PeersAt w' w'.heap.size a n l := (h.below hb).more hb.size
end Go.Proofs.YtjdflnnpamjjcaaDoor
