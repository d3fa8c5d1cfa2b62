/- What the last region of the reference's SettingLine does, operation by operation. -/
import Derived.Orders
import Derived.Test.YthlagpmacnijfaaGreatDoorSp01
import Derived.Below
import Derived.Test.YthlagpmacnijfaaGreatDoorBatchRef3
namespace Go.Proofs.YthlagpmacnijfaaGreatDoor

theorem listed_all {listed : Array Bool} {n : Nat} (hs : listed.size = n) (hc : listed.toList.count false = 0) : ∀ j, j < n → listed.getD j false = true := by
  intro j hj
  have hlt : j < listed.size := by omega
  cases hx : listed[j]
  · exfalso
    have hm : false ∈ listed.toList := by rw [← hx]; simp
    exact (List.count_eq_zero.1 hc) hm
  · simp [hlt, hx]
theorem getD_false {listed : Array Bool} {i : Nat} (h : listed.getD i true = false) : listed.getD i false = false := by
  by_cases hlt : i < listed.size
  · simpa [hlt] using h
  · simp [hlt] at h
end Go.Proofs.YthlagpmacnijfaaGreatDoor

namespace Go.Proofs.YthlagpmacnijfaaGreatDoor

/-- The frame where just the marked ones of the first k operations have come up. -/
def detAct (dst : Nat → Option Nat) (F : Nat → Value) (a0 : Act) (listed : Array Bool) : Nat → Act
  | 0 => a0
  | k + 1 => if listed.getD k false = true then (detAct dst F a0 listed k).put (dst k) (F k) else detAct dst F a0 listed k
/-- The frame where all of the first k operations have come up. -/
def putAll (dst : Nat → Option Nat) (F : Nat → Value) (a0 : Act) : Nat → Act
  | 0 => a0
  | k + 1 => (putAll dst F a0 k).put (dst k) (F k)
theorem putAll_some {dst : Nat → Option Nat} {F : Nat → Value} {a0 : Act} (n k d : Nat) (v : Value) (hn : n = k + 1) (hd : dst k = some d) (hF : F k = v) : putAll dst F a0 n = (putAll dst F a0 k).put (some d) v := by
  rw [hn, putAll, hd, hF]
theorem putAll_none {dst : Nat → Option Nat} {F : Nat → Value} {a0 : Act} (n k : Nat) (hn : n = k + 1) (hd : dst k = none) : putAll dst F a0 n = putAll dst F a0 k := by
  rw [hn, putAll, hd]
  rfl
theorem det_all (dst : Nat → Option Nat) (F : Nat → Value) (a0 : Act) (n : Nat) : ∀ k, k ≤ n → detAct dst F a0 (Array.replicate n true) k = putAll dst F a0 k
  | 0, _ => rfl
  | k + 1, h => by
    have hk : k < n := by omega
    rw [detAct, if_pos (by simp [hk]), det_all dst F a0 n k (by omega)]
    rfl
theorem put_comm (a : Act) (d e : Option Nat) (v u : Value) (h : d = none ∨ d ≠ e) : (a.put d v).put e u = (a.put e u).put d v := by
  cases d with
  | none => rfl
  | some d =>
    cases e with
    | none => rfl
    | some e =>
      have hne : d ≠ e := fun x => by rcases h with h | h; cases h; exact h (by rw [x])
      unfold Act.put
      simp only
      congr 1
      exact Array.setIfInBounds_comm v u hne
theorem mark_other {l : Array Bool} {i j : Nat} (h : i ≠ j) : (l.setIfInBounds i true).getD j false = l.getD j false := by simp [Array.getElem?_setIfInBounds_ne h]
theorem mark_same {l : Array Bool} {i : Nat} (h : i < l.size) : (l.setIfInBounds i true).getD i false = true := by simp [h]
section
variable {dst : Nat → Option Nat} {F : Nat → Value} {a0 : Act}
theorem det_below {listed : Array Bool} {i : Nat} : ∀ k, k ≤ i → detAct dst F a0 (listed.setIfInBounds i true) k = detAct dst F a0 listed k
  | 0, _ => rfl
  | k + 1, h => by
    unfold detAct
    rw [det_below k (by omega), mark_other (by omega)]
theorem det_set {listed : Array Bool} {i : Nat} (hi : i < listed.size) (h0 : listed.getD i false = false) : ∀ n, i < n → (∀ j, i < j → j < n → dst i = none ∨ dst i ≠ dst j) → detAct dst F a0 (listed.setIfInBounds i true) n = (detAct dst F a0 listed n).put (dst i) (F i)
  | 0, h, _ => by omega
  | k + 1, h, hd => by
    by_cases hk : k = i
    · subst hk
      rw [detAct, mark_same hi, if_pos rfl, det_below k (Nat.le_refl _)]
      conv => rhs; rw [detAct, h0, if_neg (by decide)]
    · have ih := det_set hi h0 k (by omega) (fun j h1 h2 => hd j h1 (by omega))
      rw [detAct, mark_other (by omega), ih]
      conv => rhs; rw [detAct]
      by_cases hl : listed.getD k false = true
      · rw [if_pos hl, if_pos hl]
        exact put_comm _ _ _ _ _ (hd k (by omega) (by omega))
      · rw [if_neg hl, if_neg hl]
theorem det_size {listed : Array Bool} : ∀ n, (detAct dst F a0 listed n).tmps.size = a0.tmps.size
  | 0 => rfl
  | k + 1 => by
    unfold detAct
    split
    · cases h : dst k with
      | none => exact det_size k
      | some d => simp [Act.put, det_size k]
    · exact det_size k
/-- What a slot holds that none of the operations writes. -/
theorem det_old {listed : Array Bool} {d : Nat} : ∀ n, (∀ j, j < n → dst j ≠ some d) → (detAct dst F a0 listed n).tmps.getD d undef = a0.tmps.getD d undef
  | 0, _ => rfl
  | k + 1, h => by
    have ih := det_old (listed := listed) k (fun j hj => h j (by omega))
    unfold detAct
    split
    · cases hk : dst k with
      | none => exact ih
      | some e =>
        have hne : e ≠ d := fun x => h k (by omega) (by rw [hk, x])
        rw [← ih]
        simp [Act.put, Array.getElem?_setIfInBounds_ne hne]
    · exact ih
/-- What an operation that has come up has left in its slot. -/
theorem det_get {listed : Array Bool} {i d : Nat} (hl : listed.getD i false = true) (hdi : dst i = some d) (hs : d < a0.tmps.size) : ∀ n, i < n → (∀ j, i < j → j < n → dst i = none ∨ dst i ≠ dst j) → (detAct dst F a0 listed n).tmps.getD d undef = F i
  | 0, h, _ => by omega
  | k + 1, h, hd => by
    by_cases hk : k = i
    · subst hk
      have hz : d < (detAct dst F a0 listed k).tmps.size := by rw [det_size]; exact hs
      rw [detAct, if_pos hl, hdi]
      simp [Act.put, hz]
    · have ih := det_get hl hdi hs k (by omega) (fun j h1 h2 => hd j h1 (by omega))
      unfold detAct
      split
      · cases hx : dst k with
        | none => exact ih
        | some e =>
          have hne : e ≠ d := fun x => by
            rcases hd k (by omega) (by omega) with h' | h'
            · rw [hdi] at h'; cases h'
            · exact h' (by rw [hdi, hx, x])
          rw [← ih]
          simp [Act.put, Array.getElem?_setIfInBounds_ne hne]
      · exact ih
end
section
variable {P : Program} {ops : Array Oper} {Q : Exit → Act → World → Prop}
/-- A region whose operations' values (F) and world (Wf) do not hang on their order. -/
theorem wp_region_det (n : Nat) (dst : Nat → Option Nat) (F : Nat → Value) (Wf : Array Bool → World) {id : Nat} {a0 : Act} {w : World} (hm : P.follows .mixedOrders = true) (hn : ops.size = n)
    (hdist : ∀ i j, i < j → j < n → dst i = none ∨ dst i ≠ dst j) (hlow : ∀ (i : Nat) (o : Oper), ops[i]? = some o → ∀ e ∈ o.after, e.on < i)
    (hW0 : Wf (Array.replicate n false) = { w with drawn := w.drawn + 1 })
    (hstep : ∀ listed : Array Bool, listed.size = n → (∀ (i : Nat) (o : Oper), ops[i]? = some o → listed.getD i false = true → ∀ e ∈ o.after, Region.binds .any e = true → listed.getD e.on false = true) → ∀ (i : Nat) (o : Oper), ops[i]? = some o → listed.getD i false = false → (∀ e ∈ o.after, Region.binds .any e = true → listed.getD e.on false = true) →
      wpOp P ops Q i (fun a' w' => a' = (detAct dst F a0 listed n).put (dst i) (F i) ∧ w' = Wf (listed.setIfInBounds i true)) (detAct dst F a0 listed n) (Wf listed))
    (hdone : Q .normal (detAct dst F a0 (Array.replicate n true) n) (Wf (Array.replicate n true))) : (Code.region id ops true).wp P Q a0 w := by
  have hzero : detAct dst F a0 (Array.replicate n false) n = a0 := by
    have : ∀ k, detAct dst F a0 (Array.replicate n false) k = a0 := by
      intro k
      induction k with
      | zero => rfl
      | succ k ih =>
        unfold detAct
        rw [if_neg, ih]
        by_cases hk : k < n <;> simp [hk]
    exact this n
  refine wp_region_inv (fun listed a w' => listed.size = n ∧ (∀ (i : Nat) (o : Oper), ops[i]? = some o → listed.getD i false = true → ∀ e ∈ o.after, Region.binds .any e = true → listed.getD e.on false = true) ∧ a = detAct dst F a0 listed n ∧ w' = Wf listed) hm (fun _ _ _ h => by rw [hn]; exact h.1) ?_ ?_ ?_ hlow
  · rw [hn]
    refine ⟨by simp, fun i o ho hl => ?_, hzero.symm, hW0.symm⟩
    exfalso
    by_cases hk : i < n <;> simp [hk] at hl
  · rintro listed a w' ⟨hs, hcl, rfl, rfl⟩ i o ho h0 hdep
    have h00 := getD_false h0
    have hi : i < n := by rw [← hn]; exact (Array.getElem?_eq_some_iff.1 ho).1
    refine wpOp_mono (fun a' w'' h => ?_) (hstep listed hs hcl i o ho h00 hdep)
    refine ⟨by simpa using hs, fun j p hp hlj e he hb => ?_, by rw [h.1, det_set (by omega) h00 n hi (fun j h1 h2 => hdist i j h1 h2)], h.2⟩
    by_cases hei : i = e.on
    · rw [← hei]; exact mark_same (by omega)
    · rw [mark_other hei]
      by_cases hij : i = j
      · subst hij
        rw [ho] at hp
        obtain rfl := Option.some.inj hp
        exact hdep e he hb
      · rw [mark_other hij] at hlj
        exact hcl j p hp hlj e he hb
  · rintro listed a w' ⟨hs, _, rfl, rfl⟩ hc
    have hall := listed_all hs hc
    have e : listed = Array.replicate n true := by
      apply Array.ext
      · simp [hs]
      · intro j h1 h2
        have := hall j (by omega)
        simpa [h1] using this
    rw [e]
    exact hdone
/-- The same; the frame in a step is a letter of which the operations' slots are known. -/
theorem wp_region_frames (n : Nat) (dst : Nat → Option Nat) (F : Nat → Value) (Wf : Array Bool → World) {id : Nat} {a0 : Act} {w : World} (hm : P.follows .mixedOrders = true) (hn : ops.size = n)
    (hdist : ∀ i j, i < j → j < n → dst i = none ∨ dst i ≠ dst j) (hlow : ∀ (i : Nat) (o : Oper), ops[i]? = some o → ∀ e ∈ o.after, e.on < i) (hin : ∀ i d, i < n → dst i = some d → d < a0.tmps.size)
    (hW0 : Wf (Array.replicate n false) = { w with drawn := w.drawn + 1 })
    (hstep : ∀ listed : Array Bool, listed.size = n → (∀ (i : Nat) (o : Oper), ops[i]? = some o → listed.getD i false = true → ∀ e ∈ o.after, Region.binds .any e = true → listed.getD e.on false = true) →
      ∀ A : Act, (∀ i d, i < n → listed.getD i false = true → dst i = some d → A.tmps.getD d undef = F i) → (∀ d, (∀ j, j < n → dst j ≠ some d) → A.tmps.getD d undef = a0.tmps.getD d undef) →
      ∀ (i : Nat) (o : Oper), ops[i]? = some o → listed.getD i false = false → (∀ e ∈ o.after, Region.binds .any e = true → listed.getD e.on false = true) →
      wpOp P ops Q i (fun a' w' => a' = A.put (dst i) (F i) ∧ w' = Wf (listed.setIfInBounds i true)) A (Wf listed))
    (hdone : Q .normal (putAll dst F a0 n) (Wf (Array.replicate n true))) : (Code.region id ops true).wp P Q a0 w := by
  refine wp_region_det n dst F Wf hm hn hdist hlow hW0 (fun listed hs hcl i o ho h0 hdep => ?_) (by rw [det_all dst F a0 n n (Nat.le_refl n)]; exact hdone)
  exact hstep listed hs hcl _ (fun i d hi hl hd => det_get hl hd (hin i d hi hd) n hi (fun j h1 h2 => hdist i j h1 h2)) (fun d hd => det_old n hd) i o ho h0 hdep
end
end Go.Proofs.YthlagpmacnijfaaGreatDoor

namespace Go.Proofs.YthlagpmacnijfaaGreatDoor
open Go.RowKit

section
variable {dst : Nat → Option Nat} {a0 : Act}
theorem det_congr {F G : Nat → Value} {listed : Array Bool} : ∀ n, (∀ j, j < n → listed.getD j false = true → F j = G j) → detAct dst F a0 listed n = detAct dst G a0 listed n
  | 0, _ => rfl
  | k + 1, h => by
    have ih := det_congr (F := F) (G := G) (listed := listed) k (fun j hj => h j (by omega))
    unfold detAct
    by_cases hl : listed.getD k false = true
    · rw [if_pos hl, if_pos hl, ih, h k (by omega) hl]
    · rw [if_neg hl, if_neg hl, ih]
/-- What a slot holds that none of the operations that have come up writes. -/
theorem det_still {F : Nat → Value} {listed : Array Bool} {d : Nat} : ∀ n, (∀ j, j < n → dst j = some d → listed.getD j false = false) → (detAct dst F a0 listed n).tmps.getD d undef = a0.tmps.getD d undef
  | 0, _ => rfl
  | k + 1, h => by
    have ih := det_still (F := F) (listed := listed) k (fun j hj => h j (by omega))
    unfold detAct
    by_cases hl : listed.getD k false = true
    · rw [if_pos hl]
      cases hk : dst k with
      | none => exact ih
      | some e =>
        have hne : e ≠ d := fun x => by
          have := h k (by omega) (by rw [hk, x])
          rw [hl] at this
          cases this
        rw [← ih]
        simp [Act.put, Array.getElem?_setIfInBounds_ne hne]
    · rw [if_neg hl]
      exact ih
end
section
variable {P : Program} {ops : Array Oper} {Q : Exit → Act → World → Prop}
theorem wp_region_vals (n m : Nat) (dst : Nat → Option Nat) (R : Bool → Nat → Value → World → Prop) (S : Bool → World → Prop) {id : Nat} {a0 : Act} {w : World} (hm : P.follows .mixedOrders = true) (hn : ops.size = n)
    (hdist : ∀ i j, i < j → j < n → dst i = none ∨ dst i ≠ dst j) (hlow : ∀ (i : Nat) (o : Oper), ops[i]? = some o → ∀ e ∈ o.after, e.on < i) (hin : ∀ i d, i < n → dst i = some d → d < a0.tmps.size)
    (hstab : ∀ b j u W W', Below W.heap.size W W' → R b j u W → R b j u W')
    (hdrop : ∀ j u W, j < m → R true j u W)
    (hlate : ∀ (j : Nat) (o : Oper), m < j → ops[j]? = some o → ∃ e ∈ o.after, Region.binds .any e = true ∧ e.on = m)
    (hS : S false { w with drawn := w.drawn + 1 })
    (hstep : ∀ (listed : Array Bool) (W : World), listed.size = n → (∀ (i : Nat) (o : Oper), ops[i]? = some o → listed.getD i false = true → ∀ e ∈ o.after, Region.binds .any e = true → listed.getD e.on false = true) → S (listed.getD m false) W →
      ∀ (A : Act) (F : Nat → Value), (∀ i d, i < n → listed.getD i false = true → dst i = some d → A.tmps.getD d undef = F i) → (∀ i, i < n → listed.getD i false = true → R (listed.getD m false) i (F i) W) →
      (∀ d, (∀ j, j < n → dst j = some d → listed.getD j false = false) → A.tmps.getD d undef = a0.tmps.getD d undef) →
      ∀ (i : Nat) (o : Oper), ops[i]? = some o → listed.getD i false = false → (∀ e ∈ o.after, Region.binds .any e = true → listed.getD e.on false = true) →
      wpOp P ops Q i (fun a' w' => ∃ v, a' = A.put (dst i) v ∧ ((i ≠ m ∧ S (listed.getD m false) w' ∧ R (listed.getD m false) i v w' ∧ Below W.heap.size W w') ∨ (i = m ∧ S true w' ∧ R true i v w'))) A W)
    (hdone : ∀ (F : Nat → Value) (W : World), S ((Array.replicate n true).getD m false) W → (∀ i, i < n → R ((Array.replicate n true).getD m false) i (F i) W) → Q .normal (putAll dst F a0 n) W) : (Code.region id ops true).wp P Q a0 w := by
  have hzero : ∀ F, detAct dst F a0 (Array.replicate n false) n = a0 := by
    intro F
    have : ∀ k, detAct dst F a0 (Array.replicate n false) k = a0 := by
      intro k
      induction k with
      | zero => rfl
      | succ k ih =>
        unfold detAct
        rw [if_neg, ih]
        by_cases hk : k < n <;> simp [hk]
    exact this n
  refine wp_region_inv (fun listed a w' => listed.size = n ∧ (∀ (i : Nat) (o : Oper), ops[i]? = some o → listed.getD i false = true → ∀ e ∈ o.after, Region.binds .any e = true → listed.getD e.on false = true) ∧ ∃ F, a = detAct dst F a0 listed n ∧ S (listed.getD m false) w' ∧ ∀ i, i < n → listed.getD i false = true → R (listed.getD m false) i (F i) w') hm (fun _ _ _ h => by rw [hn]; exact h.1) ?_ ?_ ?_ hlow
  · rw [hn]
    refine ⟨by simp, fun i o ho hl => ?_, fun _ => undef, (hzero _).symm, ?_, fun i hi hl => ?_⟩
    · exfalso
      by_cases hk : i < n <;> simp [hk] at hl
    · rw [show (Array.replicate n false).getD m false = false by by_cases hk : m < n <;> simp [hk]]
      exact hS
    · exfalso
      simp [hi] at hl
  · rintro listed a w' ⟨hs, hcl, F, rfl, hSw, hR⟩ i o ho h0 hdep
    have h00 := getD_false h0
    have hi : i < n := by rw [← hn]; exact (Array.getElem?_eq_some_iff.1 ho).1
    refine wpOp_mono (fun a' w'' h => ?_) (hstep listed w' hs hcl hSw _ F (fun i d hi hl hd => det_get hl hd (hin i d hi hd) n hi (fun j h1 h2 => hdist i j h1 h2)) hR (fun d hd => det_still n hd) i o ho h00 hdep)
    obtain ⟨v, ha, hv⟩ := h
    refine ⟨by simpa using hs, fun j p hp hlj e he hb => ?_, fun j => if j = i then v else F j, ?_, ?_, fun j hj hlj => ?_⟩
    · by_cases hei : i = e.on
      · rw [← hei]; exact mark_same (by omega)
      · rw [mark_other hei]
        by_cases hij : i = j
        · subst hij
          rw [ho] at hp
          obtain rfl := Option.some.inj hp
          exact hdep e he hb
        · rw [mark_other hij] at hlj
          exact hcl j p hp hlj e he hb
    · rw [det_set (by omega) h00 n hi (fun j h1 h2 => hdist i j h1 h2), if_pos rfl, ha]
      congr 1
      refine det_congr n fun j hj hlj => ?_
      rw [if_neg]
      intro e
      rw [e, h00] at hlj
      cases hlj
    · rcases hv with ⟨hne, hs', _⟩ | ⟨he, hs', _⟩
      · rw [mark_other hne]; exact hs'
      · subst he
        rw [mark_same (by omega)]; exact hs'
    · show R _ j (if j = i then v else F j) w''
      by_cases hji : j = i
      · subst hji
        rw [if_pos rfl]
        rcases hv with ⟨hne, _, hr, _⟩ | ⟨he, _, hr⟩
        · rw [mark_other hne]; exact hr
        · subst he
          rw [mark_same (by omega)]; exact hr
      · rw [if_neg hji]
        rw [mark_other (fun e => hji e.symm)] at hlj
        rcases hv with ⟨hne, _, _, hb⟩ | ⟨he, _⟩
        · rw [mark_other hne]
          exact hstab _ _ _ _ _ hb (hR j hj hlj)
        · subst he
          rw [mark_same (by omega)]
          by_cases hjm : j < i
          · exact hdrop j _ _ hjm
          · exfalso
            have hop : ops[j]? = some ops[j] := Array.getElem?_eq_getElem (by omega)
            obtain ⟨e, he, hb, hon⟩ := hlate j _ (by omega) hop
            have := hcl j _ hop hlj e he hb
            rw [hon, h00] at this
            cases this
  · rintro listed a w' ⟨hs, _, F, rfl, hSw, hR⟩ hc
    have hall := listed_all hs hc
    have e : listed = Array.replicate n true := by
      apply Array.ext
      · simp [hs]
      · intro j h1 h2
        have := hall j (by omega)
        simpa [h1] using this
    subst e
    rw [det_all dst F a0 n n (Nat.le_refl n)]
    exact hdone F w' hSw fun i hi => hR i hi (hall i hi)
end
end Go.Proofs.YthlagpmacnijfaaGreatDoor

namespace Go.Proofs.YthlagpmacnijfaaGreatDoor
open Go.RowKit

set_option maxRecDepth 20000 in
set_option maxHeartbeats 800000 in
theorem ref_names (w : World) : Calls Tryz.prog 16 #[] w fun e w' => e = .returned (.slice (some ⟨w.heap.size, 0, none⟩) 11 11) ∧ Blk w' w.heap.size 9 nameCells ∧ Below w.heap.size w w' := by
  go_enter Tryz.func16, Tryz.ntmps16
  go_wp2
  go_ret
  exact ⟨rfl, Blk.new w 9 nameCells, (Below.refl _ _).alloc (Nat.le_refl _) _⟩
def setC2 (k : Int) (t : ByteArray) (n : Int) (a : Nat) (b : Int) : List Value := [.int .i64 k, .string t, .int .i64 n, .int .u32 (a : Int), .int .i64 b]
def lineSpec2 (G : Nat) (k : Nat) (C : List Value) (X V : ByteArray) (j : Nat) (v : Value) (w : World) : Prop :=
  match j with
  | 0 => ∃ g, v = .slice (some ⟨g, 0, none⟩) 11 11 ∧ Blk w g 9 nameCells
  | 1 => v = .pointer (some ⟨G, 0, none⟩) ∧ Blk w G 28 C
  | 2 => v = .int .i64 (k : Int)
  | 3 => ∃ g, v = .pointer (some ⟨g, k, none⟩) ∧ Blk w g 9 nameCells
  | 4 => v = .string X
  | 5 => v = .string V
  | 6 => v = lineV ⟨X, V⟩
  | 7 => True
  | _ => v = .int .i64 0
theorem lineSpec2_kept {G k : Nat} {C : List Value} {X V : ByteArray} {j : Nat} {v : Value} {w w' : World} (hb : Below w.heap.size w w') (h : lineSpec2 G k C X V j v w) : lineSpec2 G k C X V j v w' := by
  unfold lineSpec2 at *
  split at h
  · obtain ⟨g, h1, h2⟩ := h; exact ⟨g, h1, h2.kept hb⟩
  · exact ⟨h.1, h.2.kept hb⟩
  · exact h
  · obtain ⟨g, h1, h2⟩ := h; exact ⟨g, h1, h2.kept hb⟩
  · exact h
  · exact h
  · exact h
  · exact h
  · exact h
def lineDst2 (i : Nat) : Option Nat := ([some 42, some 43, some 44, some 45, some 46, some 47, some 48, none, some 3] : List (Option Nat)).getD i none
theorem line_dist2 (i j : Nat) (h : i < j) (hj : j < 9) : lineDst2 i = none ∨ lineDst2 i ≠ lineDst2 j := (by decide : ∀ j, j < 9 → ∀ i, i < j → (lineDst2 i = none ∨ lineDst2 i ≠ lineDst2 j)) j hj i h
theorem line_in2 (i d : Nat) (hi : i < 9) (hd : lineDst2 i = some d) : (d = 3 ∨ 42 ≤ d) ∧ d ≤ 48 := by
  have h := (by decide : ∀ i, i < 9 → ((lineDst2 i).getD 3 = 3 ∨ 42 ≤ (lineDst2 i).getD 3) ∧ (lineDst2 i).getD 0 ≤ 48) i hi
  rw [hd] at h
  exact h
theorem line_put2 (F : Nat → Value) (a0 : Act) : putAll lineDst2 F a0 9 = ((((((((a0.put (some 42) (F 0)).put (some 43) (F 1)).put (some 44) (F 2)).put (some 45) (F 3)).put (some 46) (F 4)).put (some 47) (F 5)).put (some 48) (F 6)).put (some 3) (F 8)) := by
  rw [putAll_some 9 8 3 _ rfl rfl rfl, putAll_none 8 7 rfl rfl, putAll_some 7 6 48 _ rfl rfl rfl, putAll_some 6 5 47 _ rfl rfl rfl, putAll_some 5 4 46 _ rfl rfl rfl, putAll_some 4 3 45 _ rfl rfl rfl, putAll_some 3 2 44 _ rfl rfl rfl, putAll_some 2 1 43 _ rfl rfl rfl, putAll_some 1 0 42 _ rfl rfl rfl]
  rfl
/-- The value of a line before an empty key is shown. -/
def Bt.val0 (s : Bt.S) : ByteArray := if Bt.fld s.k = 2 then Ln.ofT (Lib.itoa s.n) else if s.k = 3 ∨ s.k = 5 ∨ s.k = 9 then Bt.isTrue else if s.k = 10 then Ln.ofT (Nt.textOut s.a s.b) else s.t
end Go.Proofs.YthlagpmacnijfaaGreatDoor
