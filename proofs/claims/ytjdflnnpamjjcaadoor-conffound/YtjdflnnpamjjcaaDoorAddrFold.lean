/- Plain facts on the parts of an address; nothing of the program is named here. -/
import Derived.Test.YtjdflnnpamjjcaaDoorAddrPlain2
namespace Go.Proofs.YtjdflnnpamjjcaaDoor
theorem numOut_bad (l : List UInt8) (most : Int) (h : Ad.numErr l most ≠ 0) : Ad.numErr l most = 3 ∧ Ad.numOut l most = 0 := by
  unfold Ad.numOut
  rw [if_neg h]
  refine ⟨?_, rfl⟩
  unfold Ad.numErr at h ⊢
  by_cases hc : Ad.isNum l = true ∧ (Ad.val l : Int) ≤ most
  · rw [if_pos hc] at h; exact absurd rfl h
  · rw [if_neg hc]
theorem fold_snoc (ls : List (List UInt8)) (k : Nat) (h : k < ls.length) : Ad.fold (ls.take (k + 1)) 0 = Ad.fold (ls.take k) 0 * 256 + Ad.val ls[k] := by
  unfold Ad.fold
  rw [List.take_succ_eq_append_getElem h, List.foldl_append]
  rfl
theorem fold_lt (ls : List (List UInt8)) : ∀ (k : Nat), k ≤ ls.length → (∀ p ∈ ls.take k, Ad.numErr p 255 = 0) → Ad.fold (ls.take k) 0 < 256 ^ k := by
  intro k
  induction k with
  | zero => intro _ _; simp [Ad.fold]
  | succ k ih =>
    intro hk h
    have hlt : k < ls.length := hk
    have h1 := ih (by omega) (fun p hp => h p (by rw [List.take_succ_eq_append_getElem hlt]; exact List.mem_append_left _ hp))
    have h2 := (Ad.num_dec ls[k] (h _ (by rw [List.take_succ_eq_append_getElem hlt]; exact List.mem_append_right _ (List.mem_singleton.2 rfl)))).1
    rw [fold_snoc ls k hlt, Nat.pow_succ]
    omega
theorem numOut_val (l : List UInt8) (h : Ad.numErr l 255 = 0) : Ad.numOut l 255 = Ad.val l := by unfold Ad.numOut; rw [if_pos h]

theorem addr_bad (l : List UInt8) (h : Ad.good l = false) : Ad.addrErr l = 3 ∧ Ad.addrOut l = 0 := by
  unfold Ad.addrErr Ad.addrOut
  rw [h]
  exact ⟨rfl, rfl⟩
end Go.Proofs.YtjdflnnpamjjcaaDoor
