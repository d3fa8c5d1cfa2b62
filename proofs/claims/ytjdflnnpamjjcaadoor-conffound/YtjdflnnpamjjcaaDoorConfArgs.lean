/- What is known of a peer that is an argument. -/
import Derived.Test.YtjdflnnpamjjcaaDoorConfPlain
namespace Go.Proofs.YtjdflnnpamjjcaaDoor
def NetBounds (n : Nat × Int) : Prop := n.1 < 4294967296 ∧ -9223372036854775808 ≤ n.2 ∧ n.2 ≤ 9223372036854775807
def PeerBounds (p : Cf.P) : Prop := (∀ n ∈ p.ns, NetBounds n) ∧ -9223372036854775808 ≤ p.v ∧ p.v ≤ 9223372036854775807 ∧ p.ns.length ≤ maxLen
/-- What the narrowed rows say of a peer. -/
def PeerSmall (p : Cf.P) : Prop := p.k.size ≤ 1048576 ∧ p.s.size ≤ 1048576 ∧ p.e.size ≤ 1048576
/-- What the narrowed rows say of a configuration. -/
structure ConfSmall (x : Cf.C) : Prop where
  key : x.k.size ≤ 1048576
  many : x.ps.length ≤ 1048576
  peers : ∀ p ∈ x.ps, PeerSmall p
  nets : ∀ p ∈ x.ps, p.ns.length ≤ 1048576
end Go.Proofs.YtjdflnnpamjjcaaDoor
