/- A region of the laws' Conf whose order is drawn: the peer's struct. -/
import Derived.Test.YtjdflnnpamjjcaaDoorSF11
import Derived.Below
import Derived.Test.YtjdflnnpamjjcaaDoorSF10
import Derived.Test.YtjdflnnpamjjcaaDoorSF09
namespace Go.Proofs.YtjdflnnpamjjcaaDoor
open Go.RowKit

section
variable {dst : Nat → Option Nat} {a0 : Act}
theorem det_congr {F G : Nat → Value} {listed : Array Bool} : ∀ n, (∀ j, j < n → listed.getD j false = true → F j = G j) → detAct dst F a0 listed n = detAct dst G a0 listed n
  | 0, _ => rfl
  | k + 1, h => by
    have ih := det_congr (F := F) (G := G) (listed := listed) k (fun j hj => h j (by omega))
    unfold detAct
    by_cases hl : listed.getD k false = true
    · rw [if_pos hl, if_pos hl, ih, h k (by omega) hl]
    · rw [if_neg hl, if_neg hl, ih]
/-- What a slot holds that none of the operations that have come up writes. -/
theorem det_still {F : Nat → Value} {listed : Array Bool} {d : Nat} : ∀ n, (∀ j, j < n → dst j = some d → listed.getD j false = false) → (detAct dst F a0 listed n).tmps.getD d undef = a0.tmps.getD d undef
  | 0, _ => rfl
  | k + 1, h => by
    have ih := det_still (F := F) (listed := listed) k (fun j hj => h j (by omega))
    unfold detAct
    by_cases hl : listed.getD k false = true
    · rw [if_pos hl]
      cases hk : dst k with
      | none => exact ih
      | some e =>
        have hne : e ≠ d := fun x => by
          have := h k (by omega) (by rw [hk, x])
          rw [hl] at this
          cases this
        rw [← ih]
        simp [Act.put, Array.getElem?_setIfInBounds_ne hne]
    · rw [if_neg hl]
      exact ih
end
section
variable {P : Program} {ops : Array Oper} {Q : Exit → Act → World → Prop}
theorem wp_region_vals (n m : Nat) (dst : Nat → Option Nat) (R : Bool → Nat → Value → World → Prop) (S : Bool → World → Prop) {id : Nat} {a0 : Act} {w : World} (hm : P.follows .mixedOrders = true) (hn : ops.size = n)
    (hdist : ∀ i j, i < j → j < n → dst i = none ∨ dst i ≠ dst j) (hlow : ∀ (i : Nat) (o : Oper), ops[i]? = some o → ∀ e ∈ o.after, e.on < i) (hin : ∀ i d, i < n → dst i = some d → d < a0.tmps.size)
    (hstab : ∀ b j u W W', Below W.heap.size W W' → R b j u W → R b j u W')
    (hdrop : ∀ j u W, j < m → R true j u W)
    (hlate : ∀ (j : Nat) (o : Oper), m < j → ops[j]? = some o → ∃ e ∈ o.after, Region.binds .any e = true ∧ e.on = m)
    (hS : S false { w with drawn := w.drawn + 1 })
    (hstep : ∀ (listed : Array Bool) (W : World), listed.size = n → (∀ (i : Nat) (o : Oper), ops[i]? = some o → listed.getD i false = true → ∀ e ∈ o.after, Region.binds .any e = true → listed.getD e.on false = true) → S (listed.getD m false) W →
      ∀ (A : Act) (F : Nat → Value), (∀ i d, i < n → listed.getD i false = true → dst i = some d → A.tmps.getD d undef = F i) → (∀ i, i < n → listed.getD i false = true → R (listed.getD m false) i (F i) W) →
      (∀ d, (∀ j, j < n → dst j = some d → listed.getD j false = false) → A.tmps.getD d undef = a0.tmps.getD d undef) →
      ∀ (i : Nat) (o : Oper), ops[i]? = some o → listed.getD i false = false → (∀ e ∈ o.after, Region.binds .any e = true → listed.getD e.on false = true) →
      wpOp P ops Q i (fun a' w' => ∃ v, a' = A.put (dst i) v ∧ ((i ≠ m ∧ S (listed.getD m false) w' ∧ R (listed.getD m false) i v w' ∧ Below W.heap.size W w') ∨ (i = m ∧ S true w' ∧ R true i v w'))) A W)
    (hdone : ∀ (F : Nat → Value) (W : World), S ((Array.replicate n true).getD m false) W → (∀ i, i < n → R ((Array.replicate n true).getD m false) i (F i) W) → Q .normal (putAll dst F a0 n) W) : (Code.region id ops true).wp P Q a0 w := by
  have hzero : ∀ F, detAct dst F a0 (Array.replicate n false) n = a0 := by
    intro F
    have : ∀ k, detAct dst F a0 (Array.replicate n false) k = a0 := by
      intro k
      induction k with
      | zero => rfl
      | succ k ih =>
        unfold detAct
        rw [if_neg, ih]
        by_cases hk : k < n <;> simp [hk]
    exact this n
  refine wp_region_inv (fun listed a w' => listed.size = n ∧ (∀ (i : Nat) (o : Oper), ops[i]? = some o → listed.getD i false = true → ∀ e ∈ o.after, Region.binds .any e = true → listed.getD e.on false = true) ∧ ∃ F, a = detAct dst F a0 listed n ∧ S (listed.getD m false) w' ∧ ∀ i, i < n → listed.getD i false = true → R (listed.getD m false) i (F i) w') hm (fun _ _ _ h => by rw [hn]; exact h.1) ?_ ?_ ?_ hlow
  · rw [hn]
    refine ⟨by simp, fun i o ho hl => ?_, fun _ => undef, (hzero _).symm, ?_, fun i hi hl => ?_⟩
    · exfalso
      by_cases hk : i < n <;> simp [hk] at hl
    · rw [show (Array.replicate n false).getD m false = false by by_cases hk : m < n <;> simp [hk]]
      exact hS
    · exfalso
      simp [hi] at hl
  · rintro listed a w' ⟨hs, hcl, F, rfl, hSw, hR⟩ i o ho h0 hdep
    have h00 := getD_false h0
    have hi : i < n := by rw [← hn]; exact (Array.getElem?_eq_some_iff.1 ho).1
    refine wpOp_mono (fun a' w'' h => ?_) (hstep listed w' hs hcl hSw _ F (fun i d hi hl hd => det_get hl hd (hin i d hi hd) n hi (fun j h1 h2 => hdist i j h1 h2)) hR (fun d hd => det_still n hd) i o ho h00 hdep)
    obtain ⟨v, ha, hv⟩ := h
    refine ⟨by simpa using hs, fun j p hp hlj e he hb => ?_, fun j => if j = i then v else F j, ?_, ?_, fun j hj hlj => ?_⟩
    · by_cases hei : i = e.on
      · rw [← hei]; exact mark_same (by omega)
      · rw [mark_other hei]
        by_cases hij : i = j
        · subst hij
          rw [ho] at hp
          obtain rfl := Option.some.inj hp
          exact hdep e he hb
        · rw [mark_other hij] at hlj
          exact hcl j p hp hlj e he hb
    · rw [det_set (by omega) h00 n hi (fun j h1 h2 => hdist i j h1 h2), if_pos rfl, ha]
      congr 1
      refine det_congr n fun j hj hlj => ?_
      rw [if_neg]
      intro e
      rw [e, h00] at hlj
      cases hlj
    · rcases hv with ⟨hne, hs', _⟩ | ⟨he, hs', _⟩
      · rw [mark_other hne]; exact hs'
      · subst he
        rw [mark_same (by omega)]; exact hs'
    · show R _ j (if j = i then v else F j) w''
      by_cases hji : j = i
      · subst hji
        rw [if_pos rfl]
        rcases hv with ⟨hne, _, hr, _⟩ | ⟨he, _, hr⟩
        · rw [mark_other hne]; exact hr
        · subst he
          rw [mark_same (by omega)]; exact hr
      · rw [if_neg hji]
        rw [mark_other (fun e => hji e.symm)] at hlj
        rcases hv with ⟨hne, _, _, hb⟩ | ⟨he, _⟩
        · rw [mark_other hne]
          exact hstab _ _ _ _ _ hb (hR j hj hlj)
        · subst he
          rw [mark_same (by omega)]
          by_cases hjm : j < i
          · exact hdrop j _ _ hjm
          · exfalso
            have hop : ops[j]? = some ops[j] := Array.getElem?_eq_getElem (by omega)
            obtain ⟨e, he, hb, hon⟩ := hlate j _ (by omega) hop
            have := hcl j _ hop hlj e he hb
            rw [hon, h00] at this
            cases this
  · rintro listed a w' ⟨hs, _, F, rfl, hSw, hR⟩ hc
    have hall := listed_all hs hc
    have e : listed = Array.replicate n true := by
      apply Array.ext
      · simp [hs]
      · intro j h1 h2
        have := hall j (by omega)
        simpa [h1] using this
    subst e
    rw [det_all dst F a0 n n (Nat.le_refl n)]
    exact hdone F w' hSw fun i hi => hR i hi (hall i hi)
end
end Go.Proofs.YtjdflnnpamjjcaaDoor

namespace Go.Proofs.YtjdflnnpamjjcaaDoor
open Go.RowKit

section
variable {P : Program} {ops : Array Oper} {Q : Exit → Act → World → Prop}
theorem wp_region_vals2 (n m : Nat) (dst : Nat → Option Nat) (R : Bool → Nat → Value → World → Prop) (S : Bool → World → Prop) {id : Nat} {a0 : Act} {w : World} (hm : P.follows .mixedOrders = true) (hn : ops.size = n)
    (hdist : ∀ i j, i < j → j < n → dst i = none ∨ dst i ≠ dst j) (hlow : ∀ (i : Nat) (o : Oper), ops[i]? = some o → ∀ e ∈ o.after, e.on < i) (hin : ∀ i d, i < n → dst i = some d → d < a0.tmps.size)
    (hstab : ∀ b j u W W', Below W.heap.size W W' → R b j u W → R b j u W')
    (hlate : ∀ (j : Nat) (o : Oper), m < j → ops[j]? = some o → ∃ e ∈ o.after, Region.binds .any e = true ∧ e.on = m)
    (hS : S false { w with drawn := w.drawn + 1 })
    (hstep : ∀ (listed : Array Bool) (W : World), listed.size = n → (∀ (i : Nat) (o : Oper), ops[i]? = some o → listed.getD i false = true → ∀ e ∈ o.after, Region.binds .any e = true → listed.getD e.on false = true) → S (listed.getD m false) W →
      ∀ (A : Act) (F : Nat → Value), (∀ i d, i < n → listed.getD i false = true → dst i = some d → A.tmps.getD d undef = F i) → (∀ i, i < n → listed.getD i false = true → R (listed.getD m false) i (F i) W) →
      (∀ d, (∀ j, j < n → dst j = some d → listed.getD j false = false) → A.tmps.getD d undef = a0.tmps.getD d undef) →
      ∀ (i : Nat) (o : Oper), ops[i]? = some o → listed.getD i false = false → (∀ e ∈ o.after, Region.binds .any e = true → listed.getD e.on false = true) →
      wpOp P ops Q i (fun a' w' => ∃ v, a' = A.put (dst i) v ∧ ((i ≠ m ∧ S (listed.getD m false) w' ∧ R (listed.getD m false) i v w' ∧ Below W.heap.size W w') ∨ (i = m ∧ S true w' ∧ R true i v w' ∧ ∀ j, j < m → listed.getD j false = true → R true j (F j) w'))) A W)
    (hdone : ∀ (F : Nat → Value) (W : World), S ((Array.replicate n true).getD m false) W → (∀ i, i < n → R ((Array.replicate n true).getD m false) i (F i) W) → Q .normal (putAll dst F a0 n) W) : (Code.region id ops true).wp P Q a0 w := by
  have hzero : ∀ F, detAct dst F a0 (Array.replicate n false) n = a0 := by
    intro F
    have : ∀ k, detAct dst F a0 (Array.replicate n false) k = a0 := by
      intro k
      induction k with
      | zero => rfl
      | succ k ih =>
        unfold detAct
        rw [if_neg, ih]
        by_cases hk : k < n <;> simp [hk]
    exact this n
  refine wp_region_inv (fun listed a w' => listed.size = n ∧ (∀ (i : Nat) (o : Oper), ops[i]? = some o → listed.getD i false = true → ∀ e ∈ o.after, Region.binds .any e = true → listed.getD e.on false = true) ∧ ∃ F, a = detAct dst F a0 listed n ∧ S (listed.getD m false) w' ∧ ∀ i, i < n → listed.getD i false = true → R (listed.getD m false) i (F i) w') hm (fun _ _ _ h => by rw [hn]; exact h.1) ?_ ?_ ?_ hlow
  · rw [hn]
    refine ⟨by simp, fun i o ho hl => ?_, fun _ => undef, (hzero _).symm, ?_, fun i hi hl => ?_⟩
    · exfalso
      by_cases hk : i < n <;> simp [hk] at hl
    · rw [show (Array.replicate n false).getD m false = false by by_cases hk : m < n <;> simp [hk]]
      exact hS
    · exfalso
      simp [hi] at hl
  · rintro listed a w' ⟨hs, hcl, F, rfl, hSw, hR⟩ i o ho h0 hdep
    have h00 := getD_false h0
    have hi : i < n := by rw [← hn]; exact (Array.getElem?_eq_some_iff.1 ho).1
    refine wpOp_mono (fun a' w'' h => ?_) (hstep listed w' hs hcl hSw _ F (fun i d hi hl hd => det_get hl hd (hin i d hi hd) n hi (fun j h1 h2 => hdist i j h1 h2)) hR (fun d hd => det_still n hd) i o ho h00 hdep)
    obtain ⟨v, ha, hv⟩ := h
    refine ⟨by simpa using hs, fun j p hp hlj e he hb => ?_, fun j => if j = i then v else F j, ?_, ?_, fun j hj hlj => ?_⟩
    · by_cases hei : i = e.on
      · rw [← hei]; exact mark_same (by omega)
      · rw [mark_other hei]
        by_cases hij : i = j
        · subst hij
          rw [ho] at hp
          obtain rfl := Option.some.inj hp
          exact hdep e he hb
        · rw [mark_other hij] at hlj
          exact hcl j p hp hlj e he hb
    · rw [det_set (by omega) h00 n hi (fun j h1 h2 => hdist i j h1 h2), if_pos rfl, ha]
      congr 1
      refine det_congr n fun j hj hlj => ?_
      rw [if_neg]
      intro e
      rw [e, h00] at hlj
      cases hlj
    · rcases hv with ⟨hne, hs', _⟩ | ⟨he, hs', _, _⟩
      · rw [mark_other hne]; exact hs'
      · subst he
        rw [mark_same (by omega)]; exact hs'
    · show R _ j (if j = i then v else F j) w''
      by_cases hji : j = i
      · subst hji
        rw [if_pos rfl]
        rcases hv with ⟨hne, _, hr, _⟩ | ⟨he, _, hr, _⟩
        · rw [mark_other hne]; exact hr
        · subst he
          rw [mark_same (by omega)]; exact hr
      · rw [if_neg hji]
        rw [mark_other (fun e => hji e.symm)] at hlj
        rcases hv with ⟨hne, _, _, hb⟩ | ⟨he, _, _, hkeep⟩
        · rw [mark_other hne]
          exact hstab _ _ _ _ _ hb (hR j hj hlj)
        · subst he
          rw [mark_same (by omega)]
          by_cases hjm : j < i
          · exact hkeep j hjm hlj
          · exfalso
            have hop : ops[j]? = some ops[j] := Array.getElem?_eq_getElem (by omega)
            obtain ⟨e, he, hb, hon⟩ := hlate j _ (by omega) hop
            have := hcl j _ hop hlj e he hb
            rw [hon, h00] at this
            cases this
  · rintro listed a w' ⟨hs, _, F, rfl, hSw, hR⟩ hc
    have hall := listed_all hs hc
    have e : listed = Array.replicate n true := by
      apply Array.ext
      · simp [hs]
      · intro j h1 h2
        have := hall j (by omega)
        simpa [h1] using this
    subst e
    rw [det_all dst F a0 n n (Nat.le_refl n)]
    exact hdone F w' hSw fun i hi => hR i hi (hall i hi)
end
end Go.Proofs.YtjdflnnpamjjcaaDoor

namespace Go.Proofs.YtjdflnnpamjjcaaDoor
open Go.RowKit

theorem size_peer : (Tryd.prog.info? 24).map (·.size) = some 5 := by kernel_rfl
/-- A whole struct into its block, as a run. -/
theorem run_storeBlk {W : World} {g : Nat} {t : TypeId} {xs : List Value} (h : Blk W g t xs) (ys : List Value) (hi : (Tryd.prog.info? t).map (·.size) = some xs.length) (hl : ys.length = xs.length) (h1 : ys.all (·.oneCell') = true) :
    ∃ W2, (storeVar t ⟨g, 0, none⟩ (.agg ys.toArray)).run Tryd.prog W = .ok () W2 ∧ Blk W2 g t ys ∧ W.grownBy W2 (some g) := by
  have hst := run_storeCells_at Tryd.prog g 0 t ys 0 xs.toArray W h (by simp [hl]) (by simpa using h1)
  refine ⟨W.setRow g ys.toArray, ?_, setRow_heap W g _ _ t _ h, grown_set_row _ _ _⟩
  cases hq : Tryd.prog.info? t with
  | none => simp [hq] at hi
  | some i =>
    have hs : ys.length = i.size := by simp [hq] at hi; omega
    have hd : List.drop ys.length xs = [] := List.drop_of_length_le (by omega)
    simp [hd] at hst
    simp [storeVar, sizeOf, typeInfo, hq, Value.cells, hs, hst]
def conf9 (g6 N0 : Nat) (i ra rb : Int) (K E : ByteArray) (p5 p100 : Nat) (j : Nat) (v : Value) (W : World) : Prop :=
  match j with
  | 0 => v = .int .i64 i
  | 1 => v = .string K
  | 2 => v = .pointer (some ⟨g6, 2, none⟩)
  | 3 => v = .int .i64 rb
  | 4 => v = .int .i64 (p100 : Int)
  | 5 => ∃ b, v = .slice (some ⟨b, 0, none⟩) 5 5 ∧ Blk W b 9 endsC
  | 6 => v = .pointer (some ⟨g6, 1, none⟩)
  | 7 => v = .int .i64 ra
  | 8 => ∃ b, v = .slice (some ⟨b, 0, none⟩) 5 5
  | 9 => v = .int .i64 5
  | 10 => v = .int .i64 (p5 : Int)
  | 11 => ∃ b, v = .pointer (some ⟨b, p5, none⟩) ∧ Blk W b 9 endsC
  | 12 => v = .string E
  | 13 => v = .agg #[.string K, .string ⟨#[]⟩, .string E, .int .i64 (p100 : Int), .slice none 0 0]
  | 14 => ∃ b, v = .pointer (some ⟨b, 0, none⟩) ∧ N0 ≤ b ∧ Blk W b 24 [.string ⟨#[]⟩, .string ⟨#[]⟩, .string ⟨#[]⟩, .int .i64 0, .slice none 0 0]
  | _ => True
theorem conf9_kept {g6 N0 : Nat} {i ra rb : Int} {K E : ByteArray} {p5 p100 : Nat} {j : Nat} {v : Value} {W W' : World} (hb : Below W.heap.size W W') (h : conf9 g6 N0 i ra rb K E p5 p100 j v W) : conf9 g6 N0 i ra rb K E p5 p100 j v W' := by
  unfold conf9 at *
  split at h
  · exact h
  · exact h
  · exact h
  · exact h
  · exact h
  · obtain ⟨b, h1, h2⟩ := h; exact ⟨b, h1, h2.kept hb⟩
  · exact h
  · exact h
  · exact h
  · exact h
  · exact h
  · obtain ⟨b, h1, h2⟩ := h; exact ⟨b, h1, h2.kept hb⟩
  · exact h
  · exact h
  · obtain ⟨b, h1, h2, h3⟩ := h; exact ⟨b, h1, h2, h3.kept hb⟩
  · exact h
def conf9Fin (N0 : Nat) (K E : ByteArray) (p100 : Nat) (v : Value) (W : World) : Prop := ∃ b, v = .pointer (some ⟨b, 0, none⟩) ∧ N0 ≤ b ∧ Blk W b 24 [.string K, .string ⟨#[]⟩, .string E, .int .i64 (p100 : Int), .slice none 0 0]
theorem conf9Fin_kept {N0 : Nat} {K E : ByteArray} {p100 : Nat} {v : Value} {W W' : World} (hb : Below W.heap.size W W') (h : conf9Fin N0 K E p100 v W) : conf9Fin N0 K E p100 v W' := by
  obtain ⟨b, h1, h2, h3⟩ := h; exact ⟨b, h1, h2, h3.kept hb⟩
def conf9Dst (i : Nat) : Option Nat := ([some 29, some 30, some 31, some 32, some 33, some 34, some 35, some 36, some 37, some 38, some 39, some 40, some 41, some 42, some 7, none] : List (Option Nat)).getD i none
theorem conf9_dist (i j : Nat) (h : i < j) (hj : j < 16) : conf9Dst i = none ∨ conf9Dst i ≠ conf9Dst j := (by decide : ∀ j, j < 16 → ∀ i, i < j → (conf9Dst i = none ∨ conf9Dst i ≠ conf9Dst j)) j hj i h
theorem conf9_in (i d : Nat) (hi : i < 16) (hd : conf9Dst i = some d) : d ≤ 42 ∧ d ≠ 5 ∧ d ≠ 6 := by
  have h := (by decide : ∀ i, i < 16 → ((conf9Dst i).getD 0 ≤ 42 ∧ (conf9Dst i).getD 0 ≠ 5 ∧ (conf9Dst i).getD 0 ≠ 6)) i hi
  rw [hd] at h
  exact h
theorem conf9_put (F : Nat → Value) (a0 : Act) : putAll conf9Dst F a0 16 = (((((((((((((((a0.put (some 29) (F 0)).put (some 30) (F 1)).put (some 31) (F 2)).put (some 32) (F 3)).put (some 33) (F 4)).put (some 34) (F 5)).put (some 35) (F 6)).put (some 36) (F 7)).put (some 37) (F 8)).put (some 38) (F 9)).put (some 39) (F 10)).put (some 40) (F 11)).put (some 41) (F 12)).put (some 42) (F 13)).put (some 7) (F 14)) := by
  rw [putAll_none 16 15 rfl rfl, putAll_some 15 14 7 _ rfl rfl rfl, putAll_some 14 13 42 _ rfl rfl rfl, putAll_some 13 12 41 _ rfl rfl rfl, putAll_some 12 11 40 _ rfl rfl rfl, putAll_some 11 10 39 _ rfl rfl rfl, putAll_some 10 9 38 _ rfl rfl rfl, putAll_some 9 8 37 _ rfl rfl rfl, putAll_some 8 7 36 _ rfl rfl rfl, putAll_some 7 6 35 _ rfl rfl rfl, putAll_some 6 5 34 _ rfl rfl rfl, putAll_some 5 4 33 _ rfl rfl rfl, putAll_some 4 3 32 _ rfl rfl rfl, putAll_some 3 2 31 _ rfl rfl rfl, putAll_some 2 1 30 _ rfl rfl rfl, putAll_some 1 0 29 _ rfl rfl rfl]
  rfl
end Go.Proofs.YtjdflnnpamjjcaaDoor
