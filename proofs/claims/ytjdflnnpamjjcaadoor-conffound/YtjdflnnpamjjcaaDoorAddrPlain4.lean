/- The plain words of chapter 6: endpoints; nothing of the program is named here. -/
import Derived.Test.YtjdflnnpamjjcaaDoorAddrPlain2
import Derived.Lib.IndexLaws
namespace Go.Proofs.YtjdflnnpamjjcaaDoor

/-- The byte at which an endpoint is parted. -/
def Ad.colon (l : List UInt8) : Int := Lib.indexByte l 58
def Ad.front (l : List UInt8) : List UInt8 := l.take (Ad.colon l).toNat
def Ad.back (l : List UInt8) : List UInt8 := l.drop ((Ad.colon l).toNat + 1)
def Ad.endGood (l : List UInt8) : Bool := decide (0 ≤ Ad.colon l) && Ad.good (Ad.front l) && decide (Ad.numErr (Ad.back l) 65535 = 0) && decide (1 ≤ Ad.numOut (Ad.back l) 65535)
def Ad.endErr (l : List UInt8) : Nat := if Ad.endGood l = true then 0 else 3
def Ad.endAddr (l : List UInt8) : Nat := if Ad.endGood l = true then Ad.addrOut (Ad.front l) else 0
def Ad.endPort (l : List UInt8) : Nat := if Ad.endGood l = true then Ad.numOut (Ad.back l) 65535 else 0
theorem end_bad {l : List UInt8} (h : Ad.endGood l = false) : Ad.endErr l = 3 ∧ Ad.endAddr l = 0 ∧ Ad.endPort l = 0 := by
  unfold Ad.endErr Ad.endAddr Ad.endPort
  rw [h]
  exact ⟨rfl, rfl, rfl⟩
theorem end_ok {l : List UInt8} (h : Ad.endGood l = true) : Ad.endErr l = 0 ∧ Ad.endAddr l = Ad.addrOut (Ad.front l) ∧ Ad.endPort l = Ad.numOut (Ad.back l) 65535 := by
  unfold Ad.endErr Ad.endAddr Ad.endPort
  rw [h]
  exact ⟨rfl, rfl, rfl⟩
theorem colon_lt (l : List UInt8) (k : Nat) (h : Ad.colon l = (k : Int)) : k < l.length := by
  have := (Lib.indexByte_some h).1
  by_cases hk : k < l.length
  · exact hk
  · rw [List.getElem?_eq_none (by omega)] at this; cases this
end Go.Proofs.YtjdflnnpamjjcaaDoor
