/- The plain words of chapter 13: peers and configurations; nothing of the program is named here. -/
import Derived.Test.YtjdflnnpamjjcaaDoorBatchPlain
import Derived.Test.YtjdflnnpamjjcaaDoorTriePlain
import GoSem.Op.String
namespace Go.Proofs.YtjdflnnpamjjcaaDoor
/-- A peer: its key, shared key, endpoint, keep-alive interval and networks. -/
structure Cf.P where
  k : ByteArray
  s : ByteArray
  e : ByteArray
  v : Int
  ns : List (Nat × Int)
deriving DecidableEq
/-- A configuration: its key, port and peers. -/
structure Cf.C where
  k : ByteArray
  p : Int
  ps : List Cf.P
deriving DecidableEq
namespace Cf
def zeroP : P := ⟨⟨#[]⟩, ⟨#[]⟩, ⟨#[]⟩, 0, []⟩
instance : Inhabited P := ⟨zeroP⟩
def lt (x y : ByteArray) : Bool := Op.bytesLess x.toList y.toList
def keyErr (k : ByteArray) : Nat := Hx.checkErr k.data.toList
def endErr (e : ByteArray) : Nat := Ad.endErr e.data.toList
/-- What is wrong with networks, behind another one or none. -/
def netsErr : Option (Nat × Int) → List (Nat × Int) → Nat
  | _, [] => 0
  | m, n :: r => if Nt.err n.1 n.2 ≠ 0 then Nt.err n.1 n.2 else
    match m with
    | none => netsErr (some n) r
    | some q => if Nt.order n.1 n.2 q.1 q.2 = 1 then netsErr (some n) r else 6
/-- What is wrong with a peer by itself. -/
def right (p : P) : Nat :=
  if keyErr p.k ≠ 0 then keyErr p.k else if p.s.size ≠ 0 ∧ keyErr p.s ≠ 0 then keyErr p.s else if p.s = Bt.zeros then 3 else
  if p.e.size ≠ 0 ∧ endErr p.e ≠ 0 then endErr p.e else if p.v < 0 ∨ 65535 < p.v then 4 else if 8 < p.ns.length then 1 else netsErr none p.ns
/-- What is wrong with peers, the last one's key, and the networks before them. -/
def peersErr (key : ByteArray) : ByteArray → List (Nat × Int) → List P → Nat
  | _, _, [] => 0
  | last, met, p :: r => if right p ≠ 0 then right p else if lt last p.k = false ∨ p.k = key then 6 else
    if p.ns.any (fun n => decide (n ∈ met)) then 6 else peersErr key p.k (met ++ p.ns) r
/-- What is wrong with a configuration. -/
def err (c : C) : Nat :=
  if c.k.size ≠ 0 ∧ keyErr c.k ≠ 0 then keyErr c.k else if c.p < 0 ∨ 65535 < c.p then 4 else if 6 < c.ps.length then 1 else peersErr c.k ⟨#[]⟩ [] c.ps
/-- The place of the first peer with a key, or as many as there are. -/
def at_ (l : List P) (key : ByteArray) : Nat := (l.takeWhile fun p => decide (p.k ≠ key)).length
end Cf
end Go.Proofs.YtjdflnnpamjjcaaDoor
