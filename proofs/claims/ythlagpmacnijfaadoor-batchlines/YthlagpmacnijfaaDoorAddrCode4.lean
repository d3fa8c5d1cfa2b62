/- The contract of addr.Text. -/
import Derived.Test.YthlagpmacnijfaaDoorAddrRef2
import Derived.Test.YthlagpmacnijfaaDoorMem2
namespace Go.Proofs.YthlagpmacnijfaaDoor
open Go.RowKit

/-- An address moved to the left by k numbers. -/
def Ad.sx (a : Nat) : Nat → Nat
  | 0 => a
  | k + 1 => Ad.sx a k * 256 % 4294967296
/-- The text of the first k numbers of an address. -/
def Ad.so (a : Nat) : Nat → List UInt8
  | 0 => []
  | k + 1 => (Ad.so a k ++ if k = 0 then [] else [46]) ++ Lib.decDigits (Ad.sx a k / 16777216)
theorem sx_lt (a : Nat) (h : a < 4294967296) : ∀ k, Ad.sx a k < 4294967296 := by
  intro k
  cases k with
  | zero => exact h
  | succ k => exact Nat.mod_lt _ (by decide)
theorem so_len (a : Nat) (h : a < 4294967296) : ∀ k, (Ad.so a k).length ≤ 4 * k := by
  intro k
  induction k with
  | zero => exact Nat.le_refl _
  | succ k ih =>
    have hx := sx_lt a h k
    have h := dec_len 2 (Ad.sx a k / 16777216) (by omega)
    have h2 : (if k = 0 then ([] : List UInt8) else [46]).length ≤ 1 := by split <;> simp
    unfold Ad.so
    rw [List.length_append, List.length_append]
    omega
theorem so_four (a : Nat) : Ad.so a 4 = Ad.text a := by
  have h1 : Ad.sx a 1 = a % 16777216 * 256 := by unfold Ad.sx; show a * 256 % 4294967296 = _; omega
  have h2 : Ad.sx a 2 = a % 65536 * 65536 := by unfold Ad.sx; rw [h1]; omega
  have h3 : Ad.sx a 3 = a % 256 * 16777216 := by unfold Ad.sx; rw [h2]; omega
  have e1 : Ad.sx a 1 / 16777216 = a / 65536 % 256 := by rw [h1]; omega
  have e2 : Ad.sx a 2 / 16777216 = a / 256 % 256 := by rw [h2]; omega
  have e3 : Ad.sx a 3 / 16777216 = a % 256 := by rw [h3]; omega
  have e0 : Ad.sx a 0 / 16777216 = a / 16777216 := rfl
  simp only [Ad.so, e0, e1, e2, e3]
  unfold Ad.text
  simp
theorem own_slice {w : World} {base e n : Nat} {v : Value} {xs : List Value} (h : w.ownsRow base e 1 v n xs) : ∃ a c, v = .slice a n c := by
  rcases h.2 with ⟨rfl, rfl⟩ | ⟨g, cap, cur, rfl, _⟩
  · exact ⟨none, 0, rfl⟩
  · exact ⟨_, cap, rfl⟩
set_option maxHeartbeats 400000 in
/-- strconv.AppendUint of a small number, onto bytes of the call's own. -/
theorem lib_AppendUint (B n u : Nat) (hu : u < 256) (sv : Value) (xs : List UInt8) (w : World) (ho : w.ownsRow B 5 1 sv n (bcells xs)) (hB : B ≤ w.heap.size) (hn : n ≤ 1000) (hT : PowTab w) :
    Calls Tryd.prog 92 #[sv, .int .u64 (u : Int), .int .i64 10] w fun e w' => ∃ a c, e = .returned (.slice a (n + (Lib.decDigits u).length) c) ∧
      w'.ownsRow B 5 1 (.slice a (n + (Lib.decDigits u).length) c) (n + (Lib.decDigits u).length) (bcells (xs ++ Lib.decDigits u)) ∧ Below B w w' := by
  have HC : Calls Tryd.prog 105 #[sv, .int .u64 (u : Int), .int .i64 10] w fun e w' => ∃ a c, e = .returned (.slice a (n + (Lib.decDigits u).length) c) ∧
      w'.ownsRow B 5 1 (.slice a (n + (Lib.decDigits u).length) c) (n + (Lib.decDigits u).length) (bcells (xs ++ Lib.decDigits u)) ∧ Below B w w' := by
    have fin : ∀ (e : Ending) (w' : World), (∃ v', e = .returned v' ∧ w'.ownsRow B 5 1 v' (n + (Lib.decDigits u).length) (bcells xs ++ Lib.byteCells (Lib.decDigits u)) ∧ Below B w w' ∧ Lib.OthersKept 5 none w w') →
        ∃ a c, e = .returned (.slice a (n + (Lib.decDigits u).length) c) ∧ w'.ownsRow B 5 1 (.slice a (n + (Lib.decDigits u).length) c) (n + (Lib.decDigits u).length) (bcells (xs ++ Lib.decDigits u)) ∧ Below B w w' := by
      rintro e w' ⟨v', rfl, h1, h2, _⟩
      obtain ⟨a, c, rfl⟩ := own_slice h1
      exact ⟨a, c, rfl, by rw [bcells_append]; exact h1, h2⟩
    by_cases h : u < 100
    · exact (Tryd.internal_strconv_AppendUint_10_small B n u h sv _ w ho hB (by omega)).mono fin
    · exact (Tryd.internal_strconv_AppendUint_10_big B n u (by omega) (by omega) sv _ w ho hB (by omega) hT).mono fin
  clear ho hT
  go_enter Tryd.func92, Tryd.ntmps92
  go_wp2_with fail
  refine HC.mono ?_
  rintro e w' ⟨a, c, rfl, h1, h2⟩
  have H1 := Lib.hid h1
  clear h1 HC
  go_wp2
  go_ret
  exact ⟨a, c, rfl, H1.out, h2⟩

/-- Where the walk is in the loop: the first k numbers are written. -/
def TextSo (a : Nat) (w : World) (k : Nat) (va v : Value) (wr : World) : Prop :=
  va = .int .u32 (Ad.sx a k : Int) ∧ (∃ av c, v = .slice av (Ad.so a k).length c ∧ wr.ownsRow w.heap.size 5 1 (.slice av (Ad.so a k).length c) (Ad.so a k).length (bcells (Ad.so a k))) ∧ Below w.heap.size w wr
set_option maxHeartbeats 800000 in
set_option maxRecDepth 20000 in
theorem addr_Text0 (a : Nat) (ha : a < 4294967296) (w : World) (hT : PowTab w) :
    Calls Tryd.prog 76 #[.int .u32 (a : Int)] w fun e w' => e = .returned (.string ⟨(Ad.text a).toArray⟩) ∧ Below w.heap.size w w' := by
  have HT := Lib.hid hT
  have Ha := Lib.hid ha
  clear hT
  obtain ⟨i0, hi, hz0, hz1, hz2⟩ := info_u8
  go_enter Tryd.func76, Tryd.ntmps76
  go_wp2_with (at_make; refine wpList_make_own _ rfl _ _ 80 rfl w.heap.size 5 i0 (.int .u8 0) 1 Tryd.underlying80 hi hz0 hz1 _ _ _ 15 rfl rfl ?m1 ?m2 ?m3 ?m4 ?_)
  case m1 => omega
  case m2 => rw [hz2]; omega
  case m3 => unfold maxLen; omega
  case m4 => exact Nat.le_refl _
  intro w1 hown hgrow
  have hbel : Below w.heap.size w w1 := (Below.refl _ _).grown hgrow (Nat.le_refl _) (fun k h => by cases h)
  clear hgrow
  have HO := Lib.hid hown
  have HB := Lib.hid hbel
  clear hown hbel
  go_wp2
  go_loopw [0, 3, 6] (fun va v i wr => ∃ k : Nat, k ≤ 4 ∧ i = .int .i64 k ∧ TextSo a w k va v wr) (fun _ _ i _ => 4 - (intOf i).toNat)
  case atStart => exact ⟨0, Nat.zero_le _, rfl, rfl, ⟨_, _, rfl, HO.out⟩, HB.out⟩
  case round =>
    obtain ⟨k, hk, rfl, rfl, ⟨av, c, rfl, ho⟩, hB⟩ := hrel
    obtain ⟨wo, hwo⟩ : ∃ wo, wo = wr := ⟨_, rfl⟩
    subst hwo
    have HO1 := Lib.hid ho
    have HB1 := Lib.hid hB
    have hsz := hB.size
    clear ho hB
    by_cases hlt : k < 4
    · have hn := so_len a Ha.out k
      have Hs : Hid (Ad.sx a (k + 1) = Ad.sx a k * 256 % 4294967296) := Lib.hid rfl
      have hx := sx_lt a Ha.out k
      have Hu : Hid (Ad.so a (k + 1) = (Ad.so a k ++ if k = 0 then [] else [46]) ++ Lib.decDigits (Ad.sx a k / 16777216)) := Lib.hid rfl
      generalize Ad.sx a k = x at *
      have hu : x / 16777216 < 256 := by omega
      have HC : Hid (∀ (av : Option Addr) (c : Nat) (ys : List UInt8) (W : World), ys.length ≤ 100 → W.ownsRow w.heap.size 5 1 (.slice av ys.length c) ys.length (bcells ys) → Below w.heap.size w W →
          Calls Tryd.prog 92 #[.slice av ys.length c, .int .u64 ((x / 16777216 : Nat) : Int), .int .i64 10] W fun e W' => ∃ a2 c2, e = .returned (.slice a2 (ys ++ Lib.decDigits (x / 16777216)).length c2) ∧
            Hid (W'.ownsRow w.heap.size 5 1 (.slice a2 (ys ++ Lib.decDigits (x / 16777216)).length c2) (ys ++ Lib.decDigits (x / 16777216)).length (bcells (ys ++ Lib.decDigits (x / 16777216)))) ∧ Below w.heap.size w W') := Lib.hid fun av c ys W hl h hb =>
        (lib_AppendUint w.heap.size ys.length (x / 16777216) hu _ ys W h hb.size (by omega) (HT.out.below hb)).mono fun e W' ⟨a2, c2, he, h1, h2⟩ => by
          rw [← List.length_append] at he h1
          exact ⟨a2, c2, he, Lib.hid h1, hb.trans (h2.mono (Nat.le_refl _))⟩
      by_cases h0 : k = 0
      · subst h0
        have hz : Ad.so a 0 = [] := rfl
        rw [if_pos rfl] at Hu
        rw [hz] at HO1 hn Hu ⊢
        go_wp2_with fail
        refine (HC.out av c [] _ (by simp) HO1.out HB1.out).mono ?_
        rintro e w3 ⟨a3, c3, rfl, ho3, hb3⟩
        rw [List.append_nil] at Hu
        rw [← Hu.out] at ho3 ⊢
        go_wp2
        go_roundw
        case rel => exact ⟨0 + 1, by omega, by go_num, by rw [Hs.out]; rfl, ⟨_, _, rfl, ho3.out⟩, hb3⟩
        case measure => simp [intOf]
      · rw [if_neg h0] at Hu
        have hk0 : 0 < k := by omega
        clear h0
        generalize Ad.so a k = ys at *
        go_wp2_with (at_builtin; refine wpL_append8 _ rfl _ _ rfl w.heap.size _ _ _ _ rfl (HO1.out.alloc _) _ 1 _ [.int .u8 46] rfl rfl (fun h => by cases h) (news_new _ #[.int .u8 46] _) (one_one _ _) (by omega) (by simp; omega) ?_)
        intro a2 c2 w2 ho2 hg2
        have hb2 : Below w.heap.size w w2 := below_own (HB1.out.alloc hsz _) (HO1.out.alloc _) hg2 (Nat.le_refl _) (by simp; omega)
        have Ho2 : Hid (w2.ownsRow w.heap.size 5 1 (.slice a2 (ys ++ [46]).length c2) (ys ++ [46]).length (bcells (ys ++ [46]))) := Lib.hid (by
          rw [bcells_append, List.length_append]
          exact ho2)
        have hl2 : ys.length + 1 = (ys ++ [46]).length := by simp
        have hl3 : (ys ++ [46]).length ≤ 100 := by simp; omega
        rw [hl2]
        clear ho2 hg2 hl2
        generalize ys ++ [46] = zs at *
        go_wp2_with fail
        refine (HC.out a2 c2 zs _ hl3 Ho2.out hb2).mono ?_
        rintro e w3 ⟨a3, c3, rfl, ho3, hb3⟩
        rw [← Hu.out] at ho3 ⊢
        go_wp2
        go_roundw
        case rel => exact ⟨k + 1, by omega, by go_num, by rw [Hs.out]; rfl, ⟨_, _, rfl, ho3.out⟩, hb3⟩
        case measure => simp [intOf]; omega
    · obtain rfl : k = 4 := by omega
      rw [so_four] at HO1 ⊢
      have Hcv := Lib.hid (conv_bytes (P := Tryd.prog) (BytesAt.own HO1.out) 80 5 9 c Tryd.underlying80 Tryd.underlying5 Tryd.underlying9)
      have hcv := Hcv.out
      clear HO1
      go_wp2
      go_ret
      exact ⟨rfl, HB1.out⟩
end Go.Proofs.YthlagpmacnijfaaDoor
