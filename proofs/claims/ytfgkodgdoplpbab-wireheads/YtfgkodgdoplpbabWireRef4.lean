/- The contracts of the reference's numberOf, and its map of the heads' sizes. -/
import Derived.Test.YtfgkodgdoplpbabWireCode2
import Derived.Maps.Own
namespace Go.Proofs.Ytfgkodgdoplpbab
open Go.RowKit

theorem sum_step (N x : Nat) (hN : N < 72057594037927936) (hx : x < 256) : IntKind.i64.wrap (IntKind.i64.wrap ((N * 256 : Nat) : Int) + (x : Int)) = Wr.sgn (x + 256 * N) := by
  rw [IntKind.wrap_i64, IntKind.wrap_i64]
  unfold Wr.sgn
  split <;> omega
theorem i64_shl8w (t : TypeId) (a : Nat) : binOp .shl t (.int .i64 (a : Int)) (.int .u64 8) = pure (.int .i64 (IntKind.i64.wrap ((a * 256 : Nat) : Int))) := by
  rw [binOp_shl, shift_shl .i64 .u64 _ 8 (by omega) (by show (8 : Int) ≤ 64; omega), show (2 : Int) ^ (8 : Int).toNat = 256 from rfl]
  exact congrArg (fun z => pure (Value.int .i64 (IntKind.i64.wrap z))) (by omega)
theorem Wr.num_drop_lt (bs : List UInt8) (k : Nat) (h : bs.length ≤ k + 7) : Wr.num (bs.drop k) < 72057594037927936 := by
  have h1 := Wr.num_lt (bs.drop k)
  have h2 : 256 ^ (bs.drop k).length ≤ 256 ^ 7 := Nat.pow_le_pow_right (by decide) (by rw [List.length_drop]; omega)
  have h3 : 256 ^ 7 = 72057594037927936 := by decide
  omega

set_option maxHeartbeats 800000 in
theorem ref_numberOf (b off n c B : Nat) (bs : List UInt8) (w : World) (h : BytesAt w B (some ⟨b, off, none⟩) n bs) (hn : n ≤ 8) :
    Calls Try.prog 29 #[.slice (some ⟨b, off, none⟩) n c] w fun e w' => e = .returned (.int .i64 (Wr.sgn (Wr.num bs))) ∧ w = w' := by
  have Hb := Lib.hid h
  have Hl := Lib.hid h.1
  clear h
  go_enter Try.func29, Try.ntmps29
  go_wp2
  go_loopw [3, 4] (fun vn vi wr => ∃ k : Nat, k ≤ n ∧ vn = .int .i64 (Wr.sgn (Wr.num (bs.drop k))) ∧ vi = .int .i64 ((k : Int) - 1) ∧ wr = w) (fun _ vi _ => (intOf vi + 1).toNat)
  case atStart => exact ⟨n, Nat.le_refl _, by rw [List.drop_eq_nil_of_le (by rw [Hl.out]; exact Nat.le_refl _)]; rfl, by go_num, rfl⟩
  case round =>
    obtain ⟨k, hk, rfl, rfl, rfl⟩ := hrel
    by_cases hlt : 0 < k
    · obtain ⟨i, rfl⟩ : ∃ i, k = i + 1 := ⟨k - 1, by omega⟩
      obtain ⟨b', o', e', hcell⟩ := bytes_lt Hb.out (k := i) (by omega)
      cases e'
      have hx := (bs.getD i 0).toNat_lt
      have hN := Wr.num_drop_lt bs (i + 1) (by rw [Hl.out]; omega)
      have Hs := Lib.hid (Wr.num_drop bs i (by rw [Hl.out]; omega))
      have hs := fun t => i64_shl8w t (Wr.num (bs.drop (i + 1)))
      have hsum := sum_step (Wr.num (bs.drop (i + 1))) (bs.getD i 0).toNat hN hx
      rw [← Hs.out] at hsum
      rw [Wr.sgn_small _ (by omega)]
      have hii : ((i + 1 : Nat) : Int) - 1 = (i : Int) := by omega
      rw [hii]
      have kn : (i : Int) < (n : Int) := by omega
      have kn' : i < n := by omega
      clear hN hii
      generalize IntKind.i64.wrap ((Wr.num (bs.drop (i + 1)) * 256 : Nat) : Int) = Y at *
      generalize (bs.getD i 0).toNat = x at *
      generalize Wr.num (bs.drop (i + 1)) = N at *
      go_wp2
      go_roundw
      case rel => exact ⟨i, by omega, rfl, by go_num, trivial⟩
      case measure => simp [intOf]
    · obtain rfl : k = 0 := by omega
      go_wp2
      go_ret
      exact ⟨rfl, rfl⟩

def Wr.hd (x : Nat) : Nat := if x = 1 then 8 else if x = 2 then 12 else if x = 4 then 16 else 0
theorem Wr.hd_known {x : Nat} (h : Wr.Known (x : Int)) : Wr.hd x = Wr.head x ∧ ¬ Wr.hd x = 0 := by
  have : x = 1 ∨ x = 2 ∨ x = 4 := by unfold Wr.Known at h; omega
  rcases this with rfl | rfl | rfl <;> decide
theorem Wr.hd_unknown {x : Nat} (h : ¬ Wr.Known (x : Int)) : Wr.hd x = 0 := by
  have h1 : ¬ x = 1 := fun e => h (.inl (by omega))
  have h2 : ¬ x = 2 := fun e => h (.inr (.inl (by omega)))
  have h4 : ¬ x = 4 := fun e => h (.inr (.inr (by omega)))
  unfold Wr.hd
  rw [if_neg h1, if_neg h2, if_neg h4]
theorem wf_i64 (x : Nat) (h : x < 1000) : (Lit.int .i64 (x : Int)).wf = true := by
  show (decide (IntKind.i64.min ≤ (x : Int)) && decide ((x : Int) ≤ IntKind.i64.max)) = true
  rw [show IntKind.i64.min = -9223372036854775808 from rfl, show IntKind.i64.max = 9223372036854775807 from rfl]
  simp; omega
theorem hd_at (x : Nat) : ((((DataW.map (H := Unit) []).put (.int .i64 ((1 : Nat) : Int)) (.lit (.int .i64 ((8 : Nat) : Int)))).put (.int .i64 ((2 : Nat) : Int)) (.lit (.int .i64 ((12 : Nat) : Int)))).put (.int .i64 ((4 : Nat) : Int)) (.lit (.int .i64 ((16 : Nat) : Int)))).atKey (.int .i64 (x : Int)) (.lit (.int .i64 0)) = .lit (.int .i64 (Wr.hd x : Int)) := by
  have e : ((((DataW.map (H := Unit) []).put (.int .i64 ((1 : Nat) : Int)) (.lit (.int .i64 ((8 : Nat) : Int)))).put (.int .i64 ((2 : Nat) : Int)) (.lit (.int .i64 ((12 : Nat) : Int)))).put (.int .i64 ((4 : Nat) : Int)) (.lit (.int .i64 ((16 : Nat) : Int)))) = .map [(.int .i64 1, .lit (.int .i64 8)), (.int .i64 2, .lit (.int .i64 12)), (.int .i64 4, .lit (.int .i64 16))] := by rfl
  rw [e]
  unfold Wr.hd
  by_cases h1 : x = 1
  · subst h1; rfl
  by_cases h2 : x = 2
  · subst h2; rfl
  by_cases h4 : x = 4
  · subst h4; rfl
  rw [if_neg h1, if_neg h2, if_neg h4]
  have g1 : ¬ (1 : Int) = (x : Int) := by omega
  have g2 : ¬ (2 : Int) = (x : Int) := by omega
  have g4 : ¬ (4 : Int) = (x : Int) := by omega
  simp [DataW.atKey, Lit.sameKey, g1, g2, g4]
theorem head_map (w : World) (x : Nat) (hx : x < 256) : ∃ W1 W2 W3,
    (Instr.mapUpdate 56 (.map (some w.heap.size)) (.int .i64 1) (.int .i64 8)).run Try.prog (w.alloc (.map #[] 0)) = .ok () W1 ∧
    (Instr.mapUpdate 56 (.map (some w.heap.size)) (.int .i64 2) (.int .i64 12)).run Try.prog W1 = .ok () W2 ∧
    (Instr.mapUpdate 56 (.map (some w.heap.size)) (.int .i64 4) (.int .i64 16)).run Try.prog W2 = .ok () W3 ∧
    (Instr.lookup 56 (.map (some w.heap.size)) (.int .i64 (x : Int)) false).run Try.prog W3 = .ok (.int .i64 (Wr.hd x : Int)) W3 ∧ Below w.heap.size w W3 := by
  have K : Go.Maps.Keyed Try.prog 3 := Go.Maps.int_keyed Try.underlying3
  have key := fun (n : Nat) (h : n < 1000) => Go.Maps.keyOf_int_mk (P := Try.prog) Try.underlying3 (wf_i64 n h)
  have val := fun (n : Nat) (h : n < 1000) => plainElem_int (H := Unit) (P := Try.prog) Try.underlying3 (wf_i64 n h)
  have h0 : (w.alloc (.map #[] 0)).ownsMap Try.prog 3 (plainElem (H := Unit) Try.prog 3) w.heap.size 0 (.map []) := World.ownsMap_made w Try.prog 3 _
  obtain ⟨W1, r1, o1, g1⟩ := h0.update K Try.underlying56 (by decide) (key 1 (by decide)) (val 8 (by decide))
  obtain ⟨W2, r2, o2, g2⟩ := o1.update K Try.underlying56 (by decide) (key 2 (by decide)) (val 12 (by decide))
  obtain ⟨W3, r3, o3, g3⟩ := o2.update K Try.underlying56 (by decide) (key 4 (by decide)) (val 16 (by decide))
  obtain ⟨c, hrun, hat, _⟩ := o3.lookup_int K Try.underlying56 Try.underlying3 (by kernel_rfl) (key x (by omega))
  rw [hd_at x] at hat
  have hc : c = (Wr.hd x : Int) := by injection hat with h; injection h with _ h; exact h.symm
  subst hc
  refine ⟨W1, W2, W3, r1, r2, r3, hrun, ?_⟩
  have b0 : Below w.heap.size w (w.alloc (.map #[] 0)) := (Below.refl _ _).alloc (Nat.le_refl _) _
  have hrow : ∀ r, (some w.heap.size) = some r → w.heap.size ≤ r := fun r h => by injection h with h; omega
  have b1 := b0.grown g1 b0.size hrow
  have b2 := b1.grown g2 b1.size hrow
  exact b2.grown g3 b2.size hrow
end Go.Proofs.Ytfgkodgdoplpbab
