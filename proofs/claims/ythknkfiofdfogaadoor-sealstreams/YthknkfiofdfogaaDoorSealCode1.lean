/- The contracts of seal.appendNumber, seal.labelled and seal.combined. -/
import Derived.Test.YthknkfiofdfogaaDoorMemM
import Derived.Test.YthknkfiofdfogaaDoorMem3
import Derived.Test.YthknkfiofdfogaaDoorSealPlain
import Derived.BigRegion
namespace Go.Proofs.YthknkfiofdfogaaDoor
open Go.RowKit

theorem i64_shr (t : TypeId) (x i : Nat) (hi : i ≤ 63) : binOp .shr t (.int .i64 (x : Int)) (.int .i64 (i : Int)) = pure (.int .i64 ((x / 2 ^ i : Nat) : Int)) := by
  rw [binOp_shr, shift_shr .i64 .i64 _ (i : Int) (by omega) (by show (i : Int) ≤ 64; omega)]
  simp
theorem beL_take_snoc (x k : Nat) (hk : k < 8) : (Sl.beL x 8).take k ++ [UInt8.ofNat (x / 256 ^ (7 - k))] = (Sl.beL x 8).take (k + 1) := by
  have hl : k < (Sl.beL x 8).length := by rw [Sl.beL_length]; exact hk
  rw [List.take_succ_eq_append_getElem hl]
  simp [Sl.beL]
theorem news_byte (w : World) (x : UInt8) : ∀ j u, (bcells [x])[j]? = some u → (w.alloc (.cells #[.int .u8 (x.toNat : Int)] 5)).cell? ((⟨w.heap.size, 0, none⟩ : Addr).add j) = some u :=
  news_new w #[.int .u8 (x.toNat : Int)] 5 _ rfl

set_option maxHeartbeats 400000 in
theorem seal_appendNumber (v : Value) (bs : List UInt8) (x : Nat) (B : Nat) (w : World) (hB : B ≤ w.heap.size) (h : OwnM w B v bs) (hb : bs.length ≤ 1000) :
    Calls Tryd.prog 22 #[v, .int .i64 (x : Int)] w fun e w' => ∃ v', e = .returned v' ∧ OwnM w' B v' (bs ++ Sl.beL x 8) ∧ Below B w w' := by
  go_enter Tryd.func22, Tryd.ntmps22
  go_wp2
  go_loopw [0, 6] (fun vb i wr => ∃ k : Nat, k ≤ 8 ∧ i = .int .i64 k ∧ OwnM wr B vb (bs ++ (Sl.beL x 8).take k) ∧ Below B w wr) (fun _ i _ => 8 - (intOf i).toNat)
  case atStart => exact ⟨0, Nat.zero_le _, rfl, by simpa using h, Below.refl _ _⟩
  case round =>
    obtain ⟨k, hk, rfl, ho, hbel⟩ := hrel
    have hz := hbel.size
    clear h
    by_cases hlt : k < 8
    · obtain ⟨q, hq⟩ : ∃ q : Nat, q = 7 - k := ⟨_, rfl⟩
      have hq1 : (7 : Int) - (k : Int) = (q : Int) := by omega
      have hq2 : q ≤ 7 := by omega
      obtain ⟨sh, hsh⟩ : ∃ sh : Nat, sh = 8 * q := ⟨_, rfl⟩
      have hsh1 : (8 : Int) * (q : Int) = (sh : Int) := by omega
      have hsh2 : sh ≤ 63 := by omega
      have hs := i64_shr 3 x sh hsh2
      have hp : x / 2 ^ sh = x / 256 ^ (7 - k) := by rw [hsh, Nat.pow_mul, ← hq]
      have hy : x / 2 ^ sh ≤ x := Nat.div_le_self _ _
      have Hn := Lib.hid (beL_take_snoc x k hlt)
      rw [← hp] at Hn
      have hbyte : IntKind.u8.wrap ((x / 2 ^ sh : Nat) : Int) = ((UInt8.ofNat (x / 2 ^ sh)).toNat : Int) := by
        rw [UInt8.toNat_ofNat']; simp [IntKind.wrap, IntKind.signed]; rfl
      clear hp hq hsh
      obtain ⟨y, hyy⟩ : ∃ y : Nat, y = x / 2 ^ sh := ⟨_, rfl⟩
      rw [← hyy] at hs hy Hn hbyte
      clear hyy
      generalize UInt8.ofNat y = Y at *
      have hlen : (bs ++ (Sl.beL x 8).take k).length ≤ 2000 := by simp [Sl.beL_length]; omega
      have HO := Lib.hid ho
      clear ho
      go_wp2_with (at_builtin; refine wpL_append_M _ rfl _ _ rfl B _ _ rfl (HO.out.alloc _) _ 1 _ [Y] rfl rfl (news_byte _ _) (by omega) (by simp; omega) ?_)
      intro v' w' ho' hb'
      have hB' : Below B w w' := (hbel.alloc (by omega) _).trans hb'
      rw [Hn.out] at ho'
      go_wp2
      go_roundw
      case rel => exact ⟨k + 1, by omega, by go_num, ho', hB'⟩
      case measure => simp [intOf]; omega
    · obtain rfl : k = 8 := by omega
      rw [List.take_of_length_le (by rw [Sl.beL_length]; exact Nat.le_refl _)] at ho
      go_wp2
      go_ret
      exact ⟨_, rfl, ho, hbel⟩

set_option maxHeartbeats 400000 in
theorem seal_labelled (s : ByteArray) (x : Nat) (w : World) (hs : s.size ≤ 100) :
    Calls Tryd.prog 23 #[.string s, .int .i64 (x : Int)] w fun e w' => ∃ v', e = .returned v' ∧ OwnM w' w.heap.size v' (s.data.toList ++ Sl.beL x 8) ∧ Below w.heap.size w w' := by
  obtain ⟨w1, cap, hrun, ho1, hb1⟩ := ownM_conv s w (by unfold maxLen; omega)
  have Ho1 := Lib.hid ho1
  have z1 := hb1.size
  clear ho1
  go_enter Tryd.func23, Tryd.ntmps23
  go_wp2_with fail
  refine (seal_appendNumber _ _ x w.heap.size _ z1 Ho1.out (by simpa using (by omega : s.size ≤ 1000))).mono ?_
  rintro e w2 ⟨v', rfl, ho2, hb2⟩
  go_wp2
  go_ret
  exact ⟨_, rfl, ho2, hb1.trans hb2⟩

def Comb (B n c : Nat) (xs ys : List UInt8) (g k : Nat) (wr : World) : Prop :=
  wr.ownsRow B 5 1 (.slice (some ⟨g, 0, none⟩) n c) n (bcells ((Sl.xorL xs ys).take k ++ List.replicate (n - k) 0))
theorem comb_step {B n c g k : Nat} {xs ys : List UInt8} {w : World} (h : Comb B n c xs ys g k w) (hx : xs.length = n) (hy : ys.length = n) (hk : k < n) :
    Comb B n c xs ys g (k + 1) (w.setCell ⟨g, k, none⟩ (.int .u8 ((xs.getD k 0 ^^^ ys.getD k 0).toNat : Int))) := by
  have h2 := (h.stored k (.int .u8 ((xs.getD k 0 ^^^ ys.getD k 0).toNat : Int))).1
  have hl : (Sl.xorL xs ys).length = n := by rw [Sl.xorL_length _ _ (by omega), hx]
  have hkl : k < (Sl.xorL xs ys).length := by omega
  have e : xs.getD k 0 ^^^ ys.getD k 0 = (Sl.xorL xs ys)[k] := by
    simp [Sl.xorL, List.getD_eq_getElem?_getD, List.getElem?_eq_getElem (show k < xs.length by omega), List.getElem?_eq_getElem (show k < ys.length by omega)]
  rw [bcells_set] at h2
  unfold Comb
  rw [e] at h2 ⊢
  have e2 : (List.take k (Sl.xorL xs ys) ++ List.replicate (n - k) 0).set k (Sl.xorL xs ys)[k] = List.take (k + 1) (Sl.xorL xs ys) ++ List.replicate (n - (k + 1)) 0 := by
    have hlt : (List.take k (Sl.xorL xs ys)).length = k := by simp; omega
    rw [List.set_append_right (h := by omega), hlt, Nat.sub_self, show n - k = (n - (k + 1)) + 1 by omega, List.replicate_succ, List.set_cons_zero, List.take_succ_eq_append_getElem hkl, List.append_assoc]
    rfl
  rw [e2] at h2
  exact h2

set_option maxHeartbeats 400000 in
theorem seal_combined (a b : Option Addr) (n c c' : Nat) (xs ys : List UInt8) (w : World) (h : BytesAt w w.heap.size a n xs) (h' : BytesAt w w.heap.size b n ys) (hn : n ≤ 1000) :
    Calls Tryd.prog 27 #[.slice a n c, .slice b n c'] w fun e w' => ∃ c1, e = .returned (.slice (some ⟨w.heap.size, 0, none⟩) n c1) ∧ w'.ownsRow w.heap.size 5 1 (.slice (some ⟨w.heap.size, 0, none⟩) n c1) n (bcells (Sl.xorL xs ys)) ∧ Below w.heap.size w w' := by
  have Hx := Lib.hid h
  have Hy := Lib.hid h'
  clear h h'
  go_enter Tryd.func27, Tryd.ntmps27
  go_wp2_with (at_make; refine wpL_make8 _ rfl _ _ rfl _ _ _ _ n n rfl rfl ?m1 ?m2 (Nat.le_refl _) (by omega) ?_)
  case m1 => first | rfl | omega
  case m2 => first | rfl | omega
  intro w1 hh hg
  have hbel : Below w.heap.size w w1 := (Below.refl _ _).grown hg (Nat.le_refl _) (fun k h => by cases h)
  have hown := own_block (base := w.heap.size) (n := n) hh (Nat.le_refl _) (by rw [bcells_length, List.length_replicate]) (by unfold maxLen; omega)
  have hC : Comb w.heap.size n n xs ys w.heap.size 0 w1 := by unfold Comb; simpa using hown
  have HC := Lib.hid hC
  clear hh hg hown hC
  go_wp2
  go_loopw [12] (fun i wr => ∃ k : Nat, k ≤ n ∧ i = .int .i64 k ∧ Comb w.heap.size n n xs ys w.heap.size k wr ∧ Below w.heap.size w wr) (fun i _ => n - (intOf i).toNat)
  case atStart => exact ⟨0, Nat.zero_le _, rfl, HC.out, hbel⟩
  case round =>
    clear HC hbel
    obtain ⟨k, hk, rfl, hC, hB⟩ := hrel
    have hz := hB.size
    by_cases hlt : k < n
    · obtain ⟨g1, o1, rfl, hc1⟩ := bytes_lt (Hx.out.below hB) hlt
      obtain ⟨g2, o2, rfl, hc2⟩ := bytes_lt (Hy.out.below hB) hlt
      have hx := xor_u8 (xs.getD k 0) (ys.getD k 0)
      have hf := hC.frozenAt k
      obtain ⟨u, hu⟩ : ∃ u, wr.cell? ⟨w.heap.size, k, none⟩ = some u := by
        have hl := hC.1
        rw [hC.cellAt k (by omega)]
        exact ⟨_, List.getElem?_eq_getElem (by omega)⟩
      have HM := Lib.hid (comb_step hC Hx.out.1 Hy.out.1 hlt)
      clear hC
      generalize xs.getD k 0 ^^^ ys.getD k 0 = Z at *
      generalize xs.getD k 0 = X at *
      generalize ys.getD k 0 = Y at *
      go_wp2
      go_region
      all_goals
        go_wp2
        go_roundw
        case rel => exact ⟨k + 1, by omega, by go_num, HM.out, (hB.setCell (p := ⟨w.heap.size, k, none⟩) (Nat.le_refl _) _).drew⟩
        case measure => simp [intOf]; omega
    · obtain rfl : k = n := by omega
      have hl : (Sl.xorL xs ys).length = k := by rw [Sl.xorL_length _ _ (by rw [Hx.out.1, Hy.out.1]), Hx.out.1]
      have ho : wr.ownsRow w.heap.size 5 1 (.slice (some ⟨w.heap.size, 0, none⟩) k k) k (bcells (Sl.xorL xs ys)) := by
        have := hC; unfold Comb at this; rwa [Nat.sub_self, List.replicate_zero, List.append_nil, List.take_of_length_le (by omega)] at this
      clear hC
      go_wp2
      go_ret
      exact ⟨_, rfl, ho, hB⟩
end Go.Proofs.YthknkfiofdfogaaDoor
