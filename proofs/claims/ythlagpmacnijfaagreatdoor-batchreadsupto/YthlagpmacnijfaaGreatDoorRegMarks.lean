/- Small facts on lists of marks. -/
import Derived.Orders
namespace Go.Proofs.YthlagpmacnijfaaGreatDoor

theorem listed_all {listed : Array Bool} {n : Nat} (hs : listed.size = n) (hc : listed.toList.count false = 0) : ∀ j, j < n → listed.getD j false = true := by
  intro j hj
  have hlt : j < listed.size := by omega
  cases hx : listed[j]
  · exfalso
    have hm : false ∈ listed.toList := by rw [← hx]; simp
    exact (List.count_eq_zero.1 hc) hm
  · simp [hlt, hx]
theorem getD_false {listed : Array Bool} {i : Nat} (h : listed.getD i true = false) : listed.getD i false = false := by
  by_cases hlt : i < listed.size
  · simpa [hlt] using h
  · simp [hlt] at h
end Go.Proofs.YthlagpmacnijfaaGreatDoor
