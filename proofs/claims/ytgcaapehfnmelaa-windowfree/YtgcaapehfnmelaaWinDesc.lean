/- A window state that describes a list of counters that came: plain facts. -/
import Derived.Test.YtgcaapehfnmelaaWinPlain
namespace Go.Proofs.Ytgcaapehfnmelaa.Wn

/-- The state tells of just these counters. -/
def Desc (so : Bool) (la : Int) (b : Nat) (cs : List Int) : Prop :=
  (cs = [] ∧ so = false ∧ la = 0 ∧ b = 0) ∨
  (so = true ∧ la ∈ cs ∧ (∀ c ∈ cs, 0 ≤ c ∧ c ≤ la) ∧ la ≤ 1000 ∧ b < 18446744073709551616 ∧ ∀ i, i < 64 → b.testBit i = decide (la - (i : Int) ∈ cs))
theorem desc_nil : Desc false 0 0 [] := .inl ⟨rfl, rfl, rfl, rfl⟩
theorem desc_lt {so : Bool} {la : Int} {b : Nat} {cs : List Int} (h : Desc so la b cs) : b < 18446744073709551616 ∧ 0 ≤ la ∧ la ≤ 1000 := by
  rcases h with ⟨_, _, rfl, rfl⟩ | ⟨_, hm, hc, hl, hb, _⟩
  · omega
  · exact ⟨hb, (hc la hm).1, hl⟩
theorem desc_err {so : Bool} {la : Int} {b : Nat} {cs : List Int} (h : Desc so la b cs) : err so la b = 0 := by
  rcases h with ⟨_, rfl, rfl, rfl⟩ | ⟨rfl, hm, hc, hl, hb, ht⟩
  · rfl
  · have h0 : b.testBit 0 = true := by rw [ht 0 (by decide)]; simpa using hm
    have h1 : b % 2 = 1 := by rw [Nat.testBit_zero] at h0; simpa using h0
    have h2 : bad b la 64 = false := by
      cases hb2 : bad b la 64
      · rfl
      · obtain ⟨i, hi, hti, hli⟩ := (bad_iff b la 64).1 hb2
        rw [ht i hi] at hti
        have := (hc _ (of_decide_eq_true hti)).1
        omega
    have h3 := (hc la hm).1
    unfold err
    rw [if_neg (by decide), if_neg (by omega), if_neg (by omega), h2]
    rfl
/-- The greatest of them, or -1. -/
def most (cs : List Int) : Int := cs.foldl max (-1)
theorem foldl_max (cs : List Int) : ∀ m : Int, (∀ c ∈ cs, c ≤ cs.foldl max m) ∧ m ≤ cs.foldl max m ∧ (cs.foldl max m = m ∨ cs.foldl max m ∈ cs) := by
  induction cs with
  | nil => intro m; exact ⟨fun _ h => (by cases h), Int.le_refl _, .inl rfl⟩
  | cons c cs ih =>
    intro m
    have h := ih (max m c)
    simp only [List.foldl_cons]
    refine ⟨fun x hx => ?_, by have := h.2.1; omega, ?_⟩
    · rcases List.mem_cons.1 hx with rfl | hx
      · have := h.2.1; omega
      · exact h.1 x hx
    · rcases h.2.2 with e | e
      · rcases Int.le_total m c with hmc | hmc
        · right; rw [e, show max m c = c by omega]; exact List.mem_cons_self
        · left; rw [e]; omega
      · right; exact List.mem_cons_of_mem _ e
theorem most_of {so : Bool} {la : Int} {b : Nat} {cs : List Int} (h : Desc so la b cs) : most cs = if so = true then la else -1 := by
  rcases h with ⟨rfl, rfl, _, _⟩ | ⟨rfl, hm, hc, _, _, _⟩
  · rfl
  · have hf := foldl_max cs (-1)
    rw [if_pos rfl]
    have h1 := hf.1 la hm
    rcases hf.2.2 with e | e
    · unfold most at *; rw [e] at h1; have := (hc la hm).1; omega
    · have := (hc _ e).2; unfold most; omega
def late (cs : List Int) (n : Int) : Bool := decide (n ∈ cs) || decide (64 ≤ most cs - n)
theorem desc_has {so : Bool} {la : Int} {b : Nat} {cs : List Int} (h : Desc so la b cs) (n : Int) (hn : 0 ≤ n) : has so la b n = late cs n := by
  have hmo := most_of h
  unfold late
  rw [hmo]
  rcases h with ⟨rfl, rfl, rfl, rfl⟩ | ⟨rfl, hm, hc, hl, hb, ht⟩
  · unfold has; simp; omega
  · unfold has
    rw [if_pos rfl]
    by_cases hnl : n ≤ la
    · by_cases ho : n ≤ la - 64
      · rw [decide_eq_true hnl, decide_eq_true ho, decide_eq_true (show 64 ≤ la - n by omega)]; simp
      · have hi : (la - n).toNat < 64 := by omega
        rw [decide_eq_true hnl, decide_eq_false ho, decide_eq_false (show ¬ 64 ≤ la - n by omega), ht _ hi, show la - ((la - n).toNat : Int) = n by omega]
        simp
    · have hno : n ∉ cs := fun hx => hnl (hc n hx).2
      rw [decide_eq_false hnl, decide_eq_false hno, decide_eq_false (show ¬ 64 ≤ la - n by omega)]; rfl
theorem desc_hasErr {so : Bool} {la : Int} {b : Nat} {cs : List Int} (h : Desc so la b cs) (n : Int) (hn : 0 ≤ n) (hn1 : n ≤ 1000) : hasErr so la b n = 0 := by
  unfold hasErr; rw [desc_err h, if_neg (by decide), if_neg (by omega)]
theorem desc_takeErr {so : Bool} {la : Int} {b : Nat} {cs : List Int} (h : Desc so la b cs) (n : Int) (hn : 0 ≤ n) (hn1 : n ≤ 1000) : takeErr so la b n = if late cs n = true then 10 else 0 := by
  unfold takeErr; rw [desc_hasErr h n hn hn1, if_neg (by decide), desc_has h n hn]
theorem desc_take {so : Bool} {la : Int} {b : Nat} {cs : List Int} (h : Desc so la b cs) (n : Int) (hn : 0 ≤ n) (hn1 : n ≤ 1000) (hl : late cs n = false) : Desc true (last so la n) (takeBits so la b n) (cs ++ [n]) := by
  have hmo := most_of h
  unfold late at hl
  rw [hmo] at hl
  have hno : n ∉ cs := fun hx => by rw [decide_eq_true hx] at hl; cases hl
  have hlast : last so la n = if so = true ∧ n < la then la else n := rfl
  have hblt : takeBits so la b n < 18446744073709551616 := bitsOf_lt (came so la b n) 64
  rcases h with ⟨rfl, rfl, rfl, rfl⟩ | ⟨rfl, hm, hc, hla, hb, ht⟩
  · rw [if_neg (by simp)] at hlast
    refine .inr ⟨rfl, by rw [hlast]; simp, fun c hcc => ?_, by omega, hblt, fun i hi => ?_⟩
    · simp at hcc; subst hcc; rw [hlast]; omega
    · unfold takeBits
      rw [bitsOf_testBit, decide_eq_true hi, Bool.true_and]
      unfold came
      rw [hlast]
      simp
  · have hold : ¬ 64 ≤ la - n := fun hx => by rw [if_pos rfl, decide_eq_true hx] at hl; simp at hl
    have hLm : last true la n ∈ cs ++ [n] ∧ la ≤ last true la n ∧ n ≤ last true la n ∧ last true la n ≤ 1000 := by
      by_cases hnl : n < la
      · rw [hlast, if_pos ⟨rfl, hnl⟩]; exact ⟨List.mem_append_left _ hm, Int.le_refl _, by omega, hla⟩
      · rw [hlast, if_neg (by simp; omega)]; exact ⟨by simp, by omega, Int.le_refl _, hn1⟩
    refine .inr ⟨rfl, hLm.1, fun c hcc => ?_, hLm.2.2.2, hblt, fun i hi => ?_⟩
    · rcases List.mem_append.1 hcc with h1 | h1
      · have := hc c h1; have := hLm.2.1; omega
      · simp at h1; subst h1; exact ⟨hn, hLm.2.2.1⟩
    · unfold takeBits
      rw [bitsOf_testBit, decide_eq_true hi, Bool.true_and]
      unfold came
      obtain ⟨d, hd⟩ : ∃ d : Int, d = last true la n - (i : Int) := ⟨_, rfl⟩
      rw [← hd]
      by_cases hdn : d = n
      · rw [decide_eq_true hdn, Bool.true_or]
        symm; apply decide_eq_true; rw [hdn]; simp
      · rw [decide_eq_false hdn, Bool.false_or, Bool.true_and]
        by_cases hle : d ≤ la
        · by_cases h64 : la - d < 64
          · rw [decide_eq_true hle, decide_eq_true h64, ht _ (by omega), show la - ((la - d).toNat : Int) = d by omega]
            simp [hdn]
          · have hdc : d ∉ cs ++ [n] := by
              intro hx
              rcases List.mem_append.1 hx with h1 | h1
              · have := hLm.2.1
                by_cases hnl : n < la
                · have e : last true la n = la := by rw [hlast, if_pos ⟨rfl, hnl⟩]
                  omega
                · have e : last true la n = n := by rw [hlast, if_neg (by simp; omega)]
                  omega
              · simp at h1; exact hdn h1
            rw [decide_eq_true hle, decide_eq_false h64, decide_eq_false hdc]; rfl
        · have hdc : d ∉ cs ++ [n] := by
            intro hx
            rcases List.mem_append.1 hx with h1 | h1
            · exact hle (hc d h1).2
            · simp at h1; exact hdn h1
          rw [decide_eq_false hle, decide_eq_false hdc]; rfl
/-- What has come, of raw numbers that are taken one by one. -/
def takenL (f : Int → Int) : List Int → List Int → List Int
  | [], cs => cs
  | x :: xs, cs => takenL f xs (if late cs (f x) = true then cs else cs ++ [f x])
end Go.Proofs.Ytgcaapehfnmelaa.Wn
