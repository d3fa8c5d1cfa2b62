/- The settings' names as cells. -/
import Derived.Test.YthlagpmacnijfaaGreatDoorBatchPlain
import Derived.Test.YthlagpmacnijfaaGreatDoorRows
import Derived.RowKit
namespace Go.Proofs.YthlagpmacnijfaaGreatDoor
open Go.RowKit

def nameCells : List Value := [.string ⟨#[]⟩, .string ⟨#[112, 114, 105, 118, 97, 116, 101, 95, 107, 101, 121]⟩, .string ⟨#[108, 105, 115, 116, 101, 110, 95, 112, 111, 114, 116]⟩, .string ⟨#[114, 101, 112, 108, 97, 99, 101, 95, 112, 101, 101, 114, 115]⟩, .string ⟨#[112, 117, 98, 108, 105, 99, 95, 107, 101, 121]⟩, .string ⟨#[114, 101, 109, 111, 118, 101]⟩, .string ⟨#[112, 114, 101, 115, 104, 97, 114, 101, 100, 95, 107, 101, 121]⟩, .string ⟨#[101, 110, 100, 112, 111, 105, 110, 116]⟩, .string ⟨#[112, 101, 114, 115, 105, 115, 116, 101, 110, 116, 95, 107, 101, 101, 112, 97, 108, 105, 118, 101, 95, 105, 110, 116, 101, 114, 118, 97, 108]⟩, .string ⟨#[114, 101, 112, 108, 97, 99, 101, 95, 97, 108, 108, 111, 119, 101, 100, 95, 105, 112, 115]⟩, .string ⟨#[97, 108, 108, 111, 119, 101, 100, 95, 105, 112]⟩]
theorem nameCells_at (k : Nat) (h : k ≤ 10) : nameCells[k]? = some (.string (Bt.nameOf k)) := by
  have : k = 0 ∨ k = 1 ∨ k = 2 ∨ k = 3 ∨ k = 4 ∨ k = 5 ∨ k = 6 ∨ k = 7 ∨ k = 8 ∨ k = 9 ∨ k = 10 := by omega
  rcases this with rfl | rfl | rfl | rfl | rfl | rfl | rfl | rfl | rfl | rfl | rfl <;> rfl
end Go.Proofs.YthlagpmacnijfaaGreatDoor
