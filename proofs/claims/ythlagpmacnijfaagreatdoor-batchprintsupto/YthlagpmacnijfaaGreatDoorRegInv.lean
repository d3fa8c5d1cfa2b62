/- A region that draws its order, by an invariant: whatever operation comes up next keeps it. -/
import Derived.Orders
namespace Go.Proofs.YthlagpmacnijfaaGreatDoor

section
variable {P : Program} {md : Region.Mode} {ops : Array Oper} {Q : Exit → Act → World → Prop}
theorem ready_none {listed : Array Bool} (hs : listed.size = ops.size) (h : listed.toList.count false = 0) : Region.ready md ops listed = [] := by
  apply List.eq_nil_iff_forall_not_mem.2
  intro j hj
  obtain ⟨h0, o, ho, _⟩ := mem_ready.1 hj
  have hlt : j < listed.size := by rw [hs]; exact (Array.getElem?_eq_some_iff.1 ho).1
  have hf : listed[j] = false := by simpa [hlt] using h0
  have hm : false ∈ listed.toList := by rw [← hf]; simp
  have := List.count_pos_iff.2 hm
  omega
theorem wpAny_inv (I : Array Bool → Act → World → Prop) (hsz : ∀ listed a w, I listed a w → listed.size = ops.size)
    (hstep : ∀ listed a w, I listed a w → ∀ i ∈ Region.ready md ops listed, wpOp P ops Q i (fun a' w' => I (listed.setIfInBounds i true) a' w') a w)
    (hdone : ∀ listed a w, I listed a w → Region.ready md ops listed = [] → Q .normal a w) :
    ∀ (fuel : Nat) (listed : Array Bool) (a : Act) (w : World), I listed a w → listed.toList.count false ≤ fuel → wpAny P md ops Q fuel listed a w := by
  intro fuel
  induction fuel with
  | zero =>
    intro listed a w hI hc
    have hr := ready_none (md := md) (ops := ops) (hsz _ _ _ hI) (by omega)
    exact ⟨hr, hdone _ _ _ hI hr⟩
  | succ fuel ih =>
    intro listed a w hI hc
    refine ⟨hdone _ _ _ hI, fun i hi => wpOp_mono (fun a' w' hI' => ih _ _ _ hI' ?_) (hstep _ _ _ hI i hi)⟩
    obtain ⟨h0, o, ho, _⟩ := mem_ready.1 hi
    have hlt : i < listed.size := by rw [hsz _ _ _ hI]; exact (Array.getElem?_eq_some_iff.1 ho).1
    have hf : listed[i] = false := by simpa [hlt] using h0
    have hl : i < listed.toList.length := by simpa using hlt
    have hf' : listed.toList[i] = false := by simpa using hf
    have hm : false ∈ listed.toList := by rw [← hf]; simp
    have hp := List.count_pos_iff.2 hm
    have hcs := List.count_set (a := true) (b := false) (l := listed.toList) (i := i) (h := hl)
    rw [hf'] at hcs
    rw [Array.toList_setIfInBounds, hcs]
    simp only [beq_self_eq_true, if_true, show (true == false) = false from rfl, Bool.false_eq_true, if_false]
    omega
theorem all_listed (hlow : ∀ (i : Nat) (o : Oper), ops[i]? = some o → ∀ e ∈ o.after, e.on < i) {listed : Array Bool} (hs : listed.size = ops.size) (hr : Region.ready md ops listed = []) : listed.toList.count false = 0 := by
  have hall : ∀ j (h : j < listed.size), listed[j] = true := by
    intro j
    induction j using Nat.strongRecOn with
    | _ j ih =>
      intro h
      cases hj : listed[j]
      · exfalso
        have ho : ops[j]? = some ops[j] := Array.getElem?_eq_getElem (by omega)
        have : j ∈ Region.ready md ops listed := mem_ready.2 ⟨by simp [h, hj], ops[j], ho, fun e he _ => by
          have hl := hlow j _ ho e he
          have hlt : e.on < listed.size := by omega
          have := ih e.on hl hlt
          simp [hlt, this]⟩
        rw [hr] at this
        cases this
      · rfl
  apply List.count_eq_zero.2
  intro hm
  obtain ⟨j, hj, he⟩ := List.mem_iff_getElem.1 hm
  have := hall j (by simpa using hj)
  simp at he
  rw [he] at this
  cases this
/-- A region by an invariant. -/
theorem wp_region_inv (I : Array Bool → Act → World → Prop) {id : Nat} {a : Act} {w : World} (hm : P.follows .mixedOrders = true) (hsz : ∀ listed a w, I listed a w → listed.size = ops.size)
    (hI : I (Array.replicate ops.size false) a { w with drawn := w.drawn + 1 })
    (hstep : ∀ listed a w, I listed a w → ∀ (i : Nat) (o : Oper), ops[i]? = some o → listed.getD i true = false → (∀ e ∈ o.after, Region.binds .any e = true → listed.getD e.on false = true) → wpOp P ops Q i (fun a' w' => I (listed.setIfInBounds i true) a' w') a w)
    (hdone : ∀ listed a w, I listed a w → listed.toList.count false = 0 → Q .normal a w) (hlow : ∀ (i : Nat) (o : Oper), ops[i]? = some o → ∀ e ∈ o.after, e.on < i) :
    (Code.region id ops true).wp P Q a w := by
  refine wp_region_any hm (wpAny_inv I hsz (fun listed a w h i hi => ?_) (fun listed a w h hr => hdone listed a w h (all_listed hlow (hsz _ _ _ h) hr)) _ _ _ _ hI (by simp))
  obtain ⟨h0, o, ho, hall⟩ := mem_ready.1 hi
  exact hstep listed a w h i o ho h0 hall
theorem wpOp_plain {i : Nat} {o : Oper} {K : Act → World → Prop} {a : Act} {w : World} (hi : ops[i]? = some o) (hg : o.guard = none) (h : o.wp P a w K Q) : wpOp P ops Q i K a w := by
  unfold wpOp
  simp only [hi]
  rw [if_pos (by simp [Region.wanted, hg])]
  exact .inl h
end
end Go.Proofs.YthlagpmacnijfaaGreatDoor
