/- A region that draws its order, whose operations' values and whose world are the same in whatever order they come up. -/
import Derived.Orders
namespace Go.Proofs.YtjdflnnpamjjcaaDoor

section
variable {P : Program} {md : Region.Mode} {ops : Array Oper} {Q : Exit → Act → World → Prop}
theorem ready_none {listed : Array Bool} (hs : listed.size = ops.size) (h : listed.toList.count false = 0) : Region.ready md ops listed = [] := by
  apply List.eq_nil_iff_forall_not_mem.2
  intro j hj
  obtain ⟨h0, o, ho, _⟩ := mem_ready.1 hj
  have hlt : j < listed.size := by rw [hs]; exact (Array.getElem?_eq_some_iff.1 ho).1
  have hf : listed[j] = false := by simpa [hlt] using h0
  have hm : false ∈ listed.toList := by rw [← hf]; simp
  have := List.count_pos_iff.2 hm
  omega
theorem wpAny_inv (I : Array Bool → Act → World → Prop) (hsz : ∀ listed a w, I listed a w → listed.size = ops.size)
    (hstep : ∀ listed a w, I listed a w → ∀ i ∈ Region.ready md ops listed, wpOp P ops Q i (fun a' w' => I (listed.setIfInBounds i true) a' w') a w)
    (hdone : ∀ listed a w, I listed a w → Region.ready md ops listed = [] → Q .normal a w) :
    ∀ (fuel : Nat) (listed : Array Bool) (a : Act) (w : World), I listed a w → listed.toList.count false ≤ fuel → wpAny P md ops Q fuel listed a w := by
  intro fuel
  induction fuel with
  | zero =>
    intro listed a w hI hc
    have hr := ready_none (md := md) (ops := ops) (hsz _ _ _ hI) (by omega)
    exact ⟨hr, hdone _ _ _ hI hr⟩
  | succ fuel ih =>
    intro listed a w hI hc
    refine ⟨hdone _ _ _ hI, fun i hi => wpOp_mono (fun a' w' hI' => ih _ _ _ hI' ?_) (hstep _ _ _ hI i hi)⟩
    obtain ⟨h0, o, ho, _⟩ := mem_ready.1 hi
    have hlt : i < listed.size := by rw [hsz _ _ _ hI]; exact (Array.getElem?_eq_some_iff.1 ho).1
    have hf : listed[i] = false := by simpa [hlt] using h0
    have hl : i < listed.toList.length := by simpa using hlt
    have hf' : listed.toList[i] = false := by simpa using hf
    have hm : false ∈ listed.toList := by rw [← hf]; simp
    have hp := List.count_pos_iff.2 hm
    have hcs := List.count_set (a := true) (b := false) (l := listed.toList) (i := i) (h := hl)
    rw [hf'] at hcs
    rw [Array.toList_setIfInBounds, hcs]
    simp only [beq_self_eq_true, if_true, show (true == false) = false from rfl, Bool.false_eq_true, if_false]
    omega
theorem all_listed (hlow : ∀ (i : Nat) (o : Oper), ops[i]? = some o → ∀ e ∈ o.after, e.on < i) {listed : Array Bool} (hs : listed.size = ops.size) (hr : Region.ready md ops listed = []) : listed.toList.count false = 0 := by
  have hall : ∀ j (h : j < listed.size), listed[j] = true := by
    intro j
    induction j using Nat.strongRecOn with
    | _ j ih =>
      intro h
      cases hj : listed[j]
      · exfalso
        have ho : ops[j]? = some ops[j] := Array.getElem?_eq_getElem (by omega)
        have : j ∈ Region.ready md ops listed := mem_ready.2 ⟨by simp [h, hj], ops[j], ho, fun e he _ => by
          have hl := hlow j _ ho e he
          have hlt : e.on < listed.size := by omega
          have := ih e.on hl hlt
          simp [hlt, this]⟩
        rw [hr] at this
        cases this
      · rfl
  apply List.count_eq_zero.2
  intro hm
  obtain ⟨j, hj, he⟩ := List.mem_iff_getElem.1 hm
  have := hall j (by simpa using hj)
  simp at he
  rw [he] at this
  cases this
/-- A region by an invariant. -/
theorem wp_region_inv (I : Array Bool → Act → World → Prop) {id : Nat} {a : Act} {w : World} (hm : P.follows .mixedOrders = true) (hsz : ∀ listed a w, I listed a w → listed.size = ops.size)
    (hI : I (Array.replicate ops.size false) a { w with drawn := w.drawn + 1 })
    (hstep : ∀ listed a w, I listed a w → ∀ (i : Nat) (o : Oper), ops[i]? = some o → listed.getD i true = false → (∀ e ∈ o.after, Region.binds .any e = true → listed.getD e.on false = true) → wpOp P ops Q i (fun a' w' => I (listed.setIfInBounds i true) a' w') a w)
    (hdone : ∀ listed a w, I listed a w → listed.toList.count false = 0 → Q .normal a w) (hlow : ∀ (i : Nat) (o : Oper), ops[i]? = some o → ∀ e ∈ o.after, e.on < i) :
    (Code.region id ops true).wp P Q a w := by
  refine wp_region_any hm (wpAny_inv I hsz (fun listed a w h i hi => ?_) (fun listed a w h hr => hdone listed a w h (all_listed hlow (hsz _ _ _ h) hr)) _ _ _ _ hI (by simp))
  obtain ⟨h0, o, ho, hall⟩ := mem_ready.1 hi
  exact hstep listed a w h i o ho h0 hall
theorem wpOp_plain {i : Nat} {o : Oper} {K : Act → World → Prop} {a : Act} {w : World} (hi : ops[i]? = some o) (hg : o.guard = none) (h : o.wp P a w K Q) : wpOp P ops Q i K a w := by
  unfold wpOp
  simp only [hi]
  rw [if_pos (by simp [Region.wanted, hg])]
  exact .inl h
end
end Go.Proofs.YtjdflnnpamjjcaaDoor

namespace Go.Proofs.YtjdflnnpamjjcaaDoor

theorem listed_all {listed : Array Bool} {n : Nat} (hs : listed.size = n) (hc : listed.toList.count false = 0) : ∀ j, j < n → listed.getD j false = true := by
  intro j hj
  have hlt : j < listed.size := by omega
  cases hx : listed[j]
  · exfalso
    have hm : false ∈ listed.toList := by rw [← hx]; simp
    exact (List.count_eq_zero.1 hc) hm
  · simp [hlt, hx]
theorem getD_false {listed : Array Bool} {i : Nat} (h : listed.getD i true = false) : listed.getD i false = false := by
  by_cases hlt : i < listed.size
  · simpa [hlt] using h
  · simp [hlt] at h
end Go.Proofs.YtjdflnnpamjjcaaDoor

namespace Go.Proofs.YtjdflnnpamjjcaaDoor

/-- The frame where just the marked ones of the first k operations have come up. -/
def detAct (dst : Nat → Option Nat) (F : Nat → Value) (a0 : Act) (listed : Array Bool) : Nat → Act
  | 0 => a0
  | k + 1 => if listed.getD k false = true then (detAct dst F a0 listed k).put (dst k) (F k) else detAct dst F a0 listed k
/-- The frame where all of the first k operations have come up. -/
def putAll (dst : Nat → Option Nat) (F : Nat → Value) (a0 : Act) : Nat → Act
  | 0 => a0
  | k + 1 => (putAll dst F a0 k).put (dst k) (F k)
theorem putAll_some {dst : Nat → Option Nat} {F : Nat → Value} {a0 : Act} (n k d : Nat) (v : Value) (hn : n = k + 1) (hd : dst k = some d) (hF : F k = v) : putAll dst F a0 n = (putAll dst F a0 k).put (some d) v := by
  rw [hn, putAll, hd, hF]
theorem putAll_none {dst : Nat → Option Nat} {F : Nat → Value} {a0 : Act} (n k : Nat) (hn : n = k + 1) (hd : dst k = none) : putAll dst F a0 n = putAll dst F a0 k := by
  rw [hn, putAll, hd]
  rfl
theorem det_all (dst : Nat → Option Nat) (F : Nat → Value) (a0 : Act) (n : Nat) : ∀ k, k ≤ n → detAct dst F a0 (Array.replicate n true) k = putAll dst F a0 k
  | 0, _ => rfl
  | k + 1, h => by
    have hk : k < n := by omega
    rw [detAct, if_pos (by simp [hk]), det_all dst F a0 n k (by omega)]
    rfl
theorem put_comm (a : Act) (d e : Option Nat) (v u : Value) (h : d = none ∨ d ≠ e) : (a.put d v).put e u = (a.put e u).put d v := by
  cases d with
  | none => rfl
  | some d =>
    cases e with
    | none => rfl
    | some e =>
      have hne : d ≠ e := fun x => by rcases h with h | h; cases h; exact h (by rw [x])
      unfold Act.put
      simp only
      congr 1
      exact Array.setIfInBounds_comm v u hne
theorem mark_other {l : Array Bool} {i j : Nat} (h : i ≠ j) : (l.setIfInBounds i true).getD j false = l.getD j false := by simp [Array.getElem?_setIfInBounds_ne h]
theorem mark_same {l : Array Bool} {i : Nat} (h : i < l.size) : (l.setIfInBounds i true).getD i false = true := by simp [h]
section
variable {dst : Nat → Option Nat} {F : Nat → Value} {a0 : Act}
theorem det_below {listed : Array Bool} {i : Nat} : ∀ k, k ≤ i → detAct dst F a0 (listed.setIfInBounds i true) k = detAct dst F a0 listed k
  | 0, _ => rfl
  | k + 1, h => by
    unfold detAct
    rw [det_below k (by omega), mark_other (by omega)]
theorem det_set {listed : Array Bool} {i : Nat} (hi : i < listed.size) (h0 : listed.getD i false = false) : ∀ n, i < n → (∀ j, i < j → j < n → dst i = none ∨ dst i ≠ dst j) → detAct dst F a0 (listed.setIfInBounds i true) n = (detAct dst F a0 listed n).put (dst i) (F i)
  | 0, h, _ => by omega
  | k + 1, h, hd => by
    by_cases hk : k = i
    · subst hk
      rw [detAct, mark_same hi, if_pos rfl, det_below k (Nat.le_refl _)]
      conv => rhs; rw [detAct, h0, if_neg (by decide)]
    · have ih := det_set hi h0 k (by omega) (fun j h1 h2 => hd j h1 (by omega))
      rw [detAct, mark_other (by omega), ih]
      conv => rhs; rw [detAct]
      by_cases hl : listed.getD k false = true
      · rw [if_pos hl, if_pos hl]
        exact put_comm _ _ _ _ _ (hd k (by omega) (by omega))
      · rw [if_neg hl, if_neg hl]
theorem det_size {listed : Array Bool} : ∀ n, (detAct dst F a0 listed n).tmps.size = a0.tmps.size
  | 0 => rfl
  | k + 1 => by
    unfold detAct
    split
    · cases h : dst k with
      | none => exact det_size k
      | some d => simp [Act.put, det_size k]
    · exact det_size k
/-- What a slot holds that none of the operations writes. -/
theorem det_old {listed : Array Bool} {d : Nat} : ∀ n, (∀ j, j < n → dst j ≠ some d) → (detAct dst F a0 listed n).tmps.getD d undef = a0.tmps.getD d undef
  | 0, _ => rfl
  | k + 1, h => by
    have ih := det_old (listed := listed) k (fun j hj => h j (by omega))
    unfold detAct
    split
    · cases hk : dst k with
      | none => exact ih
      | some e =>
        have hne : e ≠ d := fun x => h k (by omega) (by rw [hk, x])
        rw [← ih]
        simp [Act.put, Array.getElem?_setIfInBounds_ne hne]
    · exact ih
/-- What an operation that has come up has left in its slot. -/
theorem det_get {listed : Array Bool} {i d : Nat} (hl : listed.getD i false = true) (hdi : dst i = some d) (hs : d < a0.tmps.size) : ∀ n, i < n → (∀ j, i < j → j < n → dst i = none ∨ dst i ≠ dst j) → (detAct dst F a0 listed n).tmps.getD d undef = F i
  | 0, h, _ => by omega
  | k + 1, h, hd => by
    by_cases hk : k = i
    · subst hk
      have hz : d < (detAct dst F a0 listed k).tmps.size := by rw [det_size]; exact hs
      rw [detAct, if_pos hl, hdi]
      simp [Act.put, hz]
    · have ih := det_get hl hdi hs k (by omega) (fun j h1 h2 => hd j h1 (by omega))
      unfold detAct
      split
      · cases hx : dst k with
        | none => exact ih
        | some e =>
          have hne : e ≠ d := fun x => by
            rcases hd k (by omega) (by omega) with h' | h'
            · rw [hdi] at h'; cases h'
            · exact h' (by rw [hdi, hx, x])
          rw [← ih]
          simp [Act.put, Array.getElem?_setIfInBounds_ne hne]
      · exact ih
end
section
variable {P : Program} {ops : Array Oper} {Q : Exit → Act → World → Prop}
/-- A region whose operations' values (F) and world (Wf) do not hang on their order. -/
theorem wp_region_det (n : Nat) (dst : Nat → Option Nat) (F : Nat → Value) (Wf : Array Bool → World) {id : Nat} {a0 : Act} {w : World} (hm : P.follows .mixedOrders = true) (hn : ops.size = n)
    (hdist : ∀ i j, i < j → j < n → dst i = none ∨ dst i ≠ dst j) (hlow : ∀ (i : Nat) (o : Oper), ops[i]? = some o → ∀ e ∈ o.after, e.on < i)
    (hW0 : Wf (Array.replicate n false) = { w with drawn := w.drawn + 1 })
    (hstep : ∀ listed : Array Bool, listed.size = n → (∀ (i : Nat) (o : Oper), ops[i]? = some o → listed.getD i false = true → ∀ e ∈ o.after, Region.binds .any e = true → listed.getD e.on false = true) → ∀ (i : Nat) (o : Oper), ops[i]? = some o → listed.getD i false = false → (∀ e ∈ o.after, Region.binds .any e = true → listed.getD e.on false = true) →
      wpOp P ops Q i (fun a' w' => a' = (detAct dst F a0 listed n).put (dst i) (F i) ∧ w' = Wf (listed.setIfInBounds i true)) (detAct dst F a0 listed n) (Wf listed))
    (hdone : Q .normal (detAct dst F a0 (Array.replicate n true) n) (Wf (Array.replicate n true))) : (Code.region id ops true).wp P Q a0 w := by
  have hzero : detAct dst F a0 (Array.replicate n false) n = a0 := by
    have : ∀ k, detAct dst F a0 (Array.replicate n false) k = a0 := by
      intro k
      induction k with
      | zero => rfl
      | succ k ih =>
        unfold detAct
        rw [if_neg, ih]
        by_cases hk : k < n <;> simp [hk]
    exact this n
  refine wp_region_inv (fun listed a w' => listed.size = n ∧ (∀ (i : Nat) (o : Oper), ops[i]? = some o → listed.getD i false = true → ∀ e ∈ o.after, Region.binds .any e = true → listed.getD e.on false = true) ∧ a = detAct dst F a0 listed n ∧ w' = Wf listed) hm (fun _ _ _ h => by rw [hn]; exact h.1) ?_ ?_ ?_ hlow
  · rw [hn]
    refine ⟨by simp, fun i o ho hl => ?_, hzero.symm, hW0.symm⟩
    exfalso
    by_cases hk : i < n <;> simp [hk] at hl
  · rintro listed a w' ⟨hs, hcl, rfl, rfl⟩ i o ho h0 hdep
    have h00 := getD_false h0
    have hi : i < n := by rw [← hn]; exact (Array.getElem?_eq_some_iff.1 ho).1
    refine wpOp_mono (fun a' w'' h => ?_) (hstep listed hs hcl i o ho h00 hdep)
    refine ⟨by simpa using hs, fun j p hp hlj e he hb => ?_, by rw [h.1, det_set (by omega) h00 n hi (fun j h1 h2 => hdist i j h1 h2)], h.2⟩
    by_cases hei : i = e.on
    · rw [← hei]; exact mark_same (by omega)
    · rw [mark_other hei]
      by_cases hij : i = j
      · subst hij
        rw [ho] at hp
        obtain rfl := Option.some.inj hp
        exact hdep e he hb
      · rw [mark_other hij] at hlj
        exact hcl j p hp hlj e he hb
  · rintro listed a w' ⟨hs, _, rfl, rfl⟩ hc
    have hall := listed_all hs hc
    have e : listed = Array.replicate n true := by
      apply Array.ext
      · simp [hs]
      · intro j h1 h2
        have := hall j (by omega)
        simpa [h1] using this
    rw [e]
    exact hdone
/-- The same; the frame in a step is a letter of which the operations' slots are known. -/
theorem wp_region_frames (n : Nat) (dst : Nat → Option Nat) (F : Nat → Value) (Wf : Array Bool → World) {id : Nat} {a0 : Act} {w : World} (hm : P.follows .mixedOrders = true) (hn : ops.size = n)
    (hdist : ∀ i j, i < j → j < n → dst i = none ∨ dst i ≠ dst j) (hlow : ∀ (i : Nat) (o : Oper), ops[i]? = some o → ∀ e ∈ o.after, e.on < i) (hin : ∀ i d, i < n → dst i = some d → d < a0.tmps.size)
    (hW0 : Wf (Array.replicate n false) = { w with drawn := w.drawn + 1 })
    (hstep : ∀ listed : Array Bool, listed.size = n → (∀ (i : Nat) (o : Oper), ops[i]? = some o → listed.getD i false = true → ∀ e ∈ o.after, Region.binds .any e = true → listed.getD e.on false = true) →
      ∀ A : Act, (∀ i d, i < n → listed.getD i false = true → dst i = some d → A.tmps.getD d undef = F i) → (∀ d, (∀ j, j < n → dst j ≠ some d) → A.tmps.getD d undef = a0.tmps.getD d undef) →
      ∀ (i : Nat) (o : Oper), ops[i]? = some o → listed.getD i false = false → (∀ e ∈ o.after, Region.binds .any e = true → listed.getD e.on false = true) →
      wpOp P ops Q i (fun a' w' => a' = A.put (dst i) (F i) ∧ w' = Wf (listed.setIfInBounds i true)) A (Wf listed))
    (hdone : Q .normal (putAll dst F a0 n) (Wf (Array.replicate n true))) : (Code.region id ops true).wp P Q a0 w := by
  refine wp_region_det n dst F Wf hm hn hdist hlow hW0 (fun listed hs hcl i o ho h0 hdep => ?_) (by rw [det_all dst F a0 n n (Nat.le_refl n)]; exact hdone)
  exact hstep listed hs hcl _ (fun i d hi hl hd => det_get hl hd (hin i d hi hd) n hi (fun j h1 h2 => hdist i j h1 h2)) (fun d hd => det_old n hd) i o ho h0 hdep
end
end Go.Proofs.YtjdflnnpamjjcaaDoor
