/- A region that draws its order, whose operations' values are told by predicates that later memory keeps; one operation (m) may use up what came before. -/
import Derived.Test.YthlagpmacnijfaaGreatDoorRegDet
import Derived.Below
namespace Go.Proofs.YthlagpmacnijfaaGreatDoor
open Go.RowKit

section
variable {dst : Nat → Option Nat} {a0 : Act}
theorem det_congr {F G : Nat → Value} {listed : Array Bool} : ∀ n, (∀ j, j < n → listed.getD j false = true → F j = G j) → detAct dst F a0 listed n = detAct dst G a0 listed n
  | 0, _ => rfl
  | k + 1, h => by
    have ih := det_congr (F := F) (G := G) (listed := listed) k (fun j hj => h j (by omega))
    unfold detAct
    by_cases hl : listed.getD k false = true
    · rw [if_pos hl, if_pos hl, ih, h k (by omega) hl]
    · rw [if_neg hl, if_neg hl, ih]
/-- What a slot holds that none of the operations that have come up writes. -/
theorem det_still {F : Nat → Value} {listed : Array Bool} {d : Nat} : ∀ n, (∀ j, j < n → dst j = some d → listed.getD j false = false) → (detAct dst F a0 listed n).tmps.getD d undef = a0.tmps.getD d undef
  | 0, _ => rfl
  | k + 1, h => by
    have ih := det_still (F := F) (listed := listed) k (fun j hj => h j (by omega))
    unfold detAct
    by_cases hl : listed.getD k false = true
    · rw [if_pos hl]
      cases hk : dst k with
      | none => exact ih
      | some e =>
        have hne : e ≠ d := fun x => by
          have := h k (by omega) (by rw [hk, x])
          rw [hl] at this
          cases this
        rw [← ih]
        simp [Act.put, Array.getElem?_setIfInBounds_ne hne]
    · rw [if_neg hl]
      exact ih
end
section
variable {P : Program} {ops : Array Oper} {Q : Exit → Act → World → Prop}
theorem wp_region_vals (n m : Nat) (dst : Nat → Option Nat) (R : Bool → Nat → Value → World → Prop) (S : Bool → World → Prop) {id : Nat} {a0 : Act} {w : World} (hm : P.follows .mixedOrders = true) (hn : ops.size = n)
    (hdist : ∀ i j, i < j → j < n → dst i = none ∨ dst i ≠ dst j) (hlow : ∀ (i : Nat) (o : Oper), ops[i]? = some o → ∀ e ∈ o.after, e.on < i) (hin : ∀ i d, i < n → dst i = some d → d < a0.tmps.size)
    (hstab : ∀ b j u W W', Below W.heap.size W W' → R b j u W → R b j u W')
    (hdrop : ∀ j u W, j < m → R true j u W)
    (hlate : ∀ (j : Nat) (o : Oper), m < j → ops[j]? = some o → ∃ e ∈ o.after, Region.binds .any e = true ∧ e.on = m)
    (hS : S false { w with drawn := w.drawn + 1 })
    (hstep : ∀ (listed : Array Bool) (W : World), listed.size = n → (∀ (i : Nat) (o : Oper), ops[i]? = some o → listed.getD i false = true → ∀ e ∈ o.after, Region.binds .any e = true → listed.getD e.on false = true) → S (listed.getD m false) W →
      ∀ (A : Act) (F : Nat → Value), (∀ i d, i < n → listed.getD i false = true → dst i = some d → A.tmps.getD d undef = F i) → (∀ i, i < n → listed.getD i false = true → R (listed.getD m false) i (F i) W) →
      (∀ d, (∀ j, j < n → dst j = some d → listed.getD j false = false) → A.tmps.getD d undef = a0.tmps.getD d undef) →
      ∀ (i : Nat) (o : Oper), ops[i]? = some o → listed.getD i false = false → (∀ e ∈ o.after, Region.binds .any e = true → listed.getD e.on false = true) →
      wpOp P ops Q i (fun a' w' => ∃ v, a' = A.put (dst i) v ∧ ((i ≠ m ∧ S (listed.getD m false) w' ∧ R (listed.getD m false) i v w' ∧ Below W.heap.size W w') ∨ (i = m ∧ S true w' ∧ R true i v w'))) A W)
    (hdone : ∀ (F : Nat → Value) (W : World), S ((Array.replicate n true).getD m false) W → (∀ i, i < n → R ((Array.replicate n true).getD m false) i (F i) W) → Q .normal (putAll dst F a0 n) W) : (Code.region id ops true).wp P Q a0 w := by
  have hzero : ∀ F, detAct dst F a0 (Array.replicate n false) n = a0 := by
    intro F
    have : ∀ k, detAct dst F a0 (Array.replicate n false) k = a0 := by
      intro k
      induction k with
      | zero => rfl
      | succ k ih =>
        unfold detAct
        rw [if_neg, ih]
        by_cases hk : k < n <;> simp [hk]
    exact this n
  refine wp_region_inv (fun listed a w' => listed.size = n ∧ (∀ (i : Nat) (o : Oper), ops[i]? = some o → listed.getD i false = true → ∀ e ∈ o.after, Region.binds .any e = true → listed.getD e.on false = true) ∧ ∃ F, a = detAct dst F a0 listed n ∧ S (listed.getD m false) w' ∧ ∀ i, i < n → listed.getD i false = true → R (listed.getD m false) i (F i) w') hm (fun _ _ _ h => by rw [hn]; exact h.1) ?_ ?_ ?_ hlow
  · rw [hn]
    refine ⟨by simp, fun i o ho hl => ?_, fun _ => undef, (hzero _).symm, ?_, fun i hi hl => ?_⟩
    · exfalso
      by_cases hk : i < n <;> simp [hk] at hl
    · rw [show (Array.replicate n false).getD m false = false by by_cases hk : m < n <;> simp [hk]]
      exact hS
    · exfalso
      simp [hi] at hl
  · rintro listed a w' ⟨hs, hcl, F, rfl, hSw, hR⟩ i o ho h0 hdep
    have h00 := getD_false h0
    have hi : i < n := by rw [← hn]; exact (Array.getElem?_eq_some_iff.1 ho).1
    refine wpOp_mono (fun a' w'' h => ?_) (hstep listed w' hs hcl hSw _ F (fun i d hi hl hd => det_get hl hd (hin i d hi hd) n hi (fun j h1 h2 => hdist i j h1 h2)) hR (fun d hd => det_still n hd) i o ho h00 hdep)
    obtain ⟨v, ha, hv⟩ := h
    refine ⟨by simpa using hs, fun j p hp hlj e he hb => ?_, fun j => if j = i then v else F j, ?_, ?_, fun j hj hlj => ?_⟩
    · by_cases hei : i = e.on
      · rw [← hei]; exact mark_same (by omega)
      · rw [mark_other hei]
        by_cases hij : i = j
        · subst hij
          rw [ho] at hp
          obtain rfl := Option.some.inj hp
          exact hdep e he hb
        · rw [mark_other hij] at hlj
          exact hcl j p hp hlj e he hb
    · rw [det_set (by omega) h00 n hi (fun j h1 h2 => hdist i j h1 h2), if_pos rfl, ha]
      congr 1
      refine det_congr n fun j hj hlj => ?_
      rw [if_neg]
      intro e
      rw [e, h00] at hlj
      cases hlj
    · rcases hv with ⟨hne, hs', _⟩ | ⟨he, hs', _⟩
      · rw [mark_other hne]; exact hs'
      · subst he
        rw [mark_same (by omega)]; exact hs'
    · show R _ j (if j = i then v else F j) w''
      by_cases hji : j = i
      · subst hji
        rw [if_pos rfl]
        rcases hv with ⟨hne, _, hr, _⟩ | ⟨he, _, hr⟩
        · rw [mark_other hne]; exact hr
        · subst he
          rw [mark_same (by omega)]; exact hr
      · rw [if_neg hji]
        rw [mark_other (fun e => hji e.symm)] at hlj
        rcases hv with ⟨hne, _, _, hb⟩ | ⟨he, _⟩
        · rw [mark_other hne]
          exact hstab _ _ _ _ _ hb (hR j hj hlj)
        · subst he
          rw [mark_same (by omega)]
          by_cases hjm : j < i
          · exact hdrop j _ _ hjm
          · exfalso
            have hop : ops[j]? = some ops[j] := Array.getElem?_eq_getElem (by omega)
            obtain ⟨e, he, hb, hon⟩ := hlate j _ (by omega) hop
            have := hcl j _ hop hlj e he hb
            rw [hon, h00] at this
            cases this
  · rintro listed a w' ⟨hs, _, F, rfl, hSw, hR⟩ hc
    have hall := listed_all hs hc
    have e : listed = Array.replicate n true := by
      apply Array.ext
      · simp [hs]
      · intro j h1 h2
        have := hall j (by omega)
        simpa [h1] using this
    subst e
    rw [det_all dst F a0 n n (Nat.le_refl n)]
    exact hdone F w' hSw fun i hi => hR i hi (hall i hi)
end
end Go.Proofs.YthlagpmacnijfaaGreatDoor
