/- The contract of mac.keyedSum: the digest of the key block, masked, and the bytes behind it. -/
import Derived.Test.YthknkfiofdfogaaDoorMem3
import Derived.Test.YthknkfiofdfogaaDoorMacPlain
import Derived.Test.YthknkfiofdfogaaDoorShaSum
namespace Go.Proofs.YthknkfiofdfogaaDoor
open Go.RowKit

/-- The key block, its first k bytes masked. -/
def maskTo (l : List UInt8) (m : UInt8) (k : Nat) : List UInt8 := (l.take k).map (· ^^^ m) ++ l.drop k
theorem maskTo_length (l : List UInt8) (m : UInt8) (k : Nat) : (maskTo l m k).length = l.length := by simp [maskTo]; omega
theorem maskTo_zero (l : List UInt8) (m : UInt8) : maskTo l m 0 = l := by simp [maskTo]
theorem maskTo_end (l : List UInt8) (m : UInt8) (k : Nat) (h : l.length ≤ k) : maskTo l m k = l.map (· ^^^ m) := by
  unfold maskTo; rw [List.take_of_length_le h, List.drop_eq_nil_of_le h, List.append_nil]
theorem maskTo_get (l : List UInt8) (m : UInt8) (k : Nat) (h : k < l.length) : (maskTo l m k)[k]? = some l[k] := by
  have hl : ((l.take k).map (· ^^^ m)).length = k := by simp; omega
  unfold maskTo
  rw [List.getElem?_append_right (by omega), hl, Nat.sub_self, List.getElem?_drop, Nat.add_zero, List.getElem?_eq_getElem h]
theorem maskTo_step (l : List UInt8) (m : UInt8) (k : Nat) (h : k < l.length) : (maskTo l m k).set k (l[k] ^^^ m) = maskTo l m (k + 1) := by
  have hl : ((l.take k).map (· ^^^ m)).length = k := by simp; omega
  unfold maskTo
  rw [List.set_append_right (h := by omega), hl, Nat.sub_self, List.drop_eq_getElem_cons h, List.set_cons_zero, List.take_succ_eq_append_getElem h, List.map_append, List.append_assoc]
  rfl

def Masked (l : List UInt8) (m : UInt8) (w : World) (cap k : Nat) (wr : World) : Prop :=
  wr.ownsRow w.heap.size 5 1 (.slice (some ⟨w.heap.size, 0, none⟩) 64 cap) 64 (bcells (maskTo l m k))
theorem masked_cell {l : List UInt8} {m : UInt8} {w wr : World} {cap k : Nat} (h : Masked l m w cap k wr) (hl : l.length = 64) (hk : k < 64) : wr.cell? ⟨w.heap.size, k, none⟩ = some (.int .u8 ((l.getD k 0).toNat : Int)) := by
  refine own_cell h ?_
  have hk' : k < l.length := by omega
  simp only [bcells, List.getElem?_map, maskTo_get l m k hk', Option.map_some, List.getD_eq_getElem?_getD, List.getElem?_eq_getElem hk', Option.getD_some]
theorem masked_step {l : List UInt8} {m : UInt8} {w wr : World} {cap k : Nat} (h : Masked l m w cap k wr) (hl : l.length = 64) (hk : k < 64) :
    Masked l m w cap (k + 1) (wr.setCell ⟨w.heap.size, k, none⟩ (.int .u8 ((l.getD k 0 ^^^ m).toNat : Int))) := by
  have hk' : k < l.length := by omega
  have := (h.stored k (.int .u8 ((l.getD k 0 ^^^ m).toNat : Int))).1
  rw [bcells_set] at this
  have e : l.getD k 0 = l[k] := by rw [List.getD_eq_getElem?_getD, List.getElem?_eq_getElem hk']; rfl
  rw [e, maskTo_step l m k hk'] at this
  rw [e]
  exact this
theorem splice_block (key : List UInt8) (n : Nat) (h : key.length ≤ 64) : (splice (bcells (List.replicate (64 + n) 0)) 0 (bcells key)).take 64 = bcells (Mc.block key) ∧ (splice (bcells (List.replicate (64 + n) 0)) 0 (bcells key)).length = 64 + n := by
  have e : splice (bcells (List.replicate (64 + n) 0)) 0 (bcells key) = bcells (key ++ List.replicate (64 + n - key.length) 0) := by
    simp [splice, bcells]
  rw [e]
  constructor
  · unfold Mc.block bcells
    rw [← List.map_take, List.take_append, List.take_of_length_le (by omega), List.take_replicate, show min (64 - key.length) (64 + n - key.length) = 64 - key.length by omega]
  · rw [bcells_length]; simp; omega

theorem BytesAt.src {w : World} {B n : Nat} {a : Option Addr} {bs : List UInt8} (h : BytesAt w B a n bs) (h0 : 0 < (bcells bs).length) : ∃ ad, a = some ad ∧ ∀ j v, (bcells bs)[j]? = some v → w.cell? (ad.add j) = some v := by
  rw [bcells_length] at h0
  obtain ⟨b, off, e, _⟩ := h.2 (by have := h.1; omega)
  exact ⟨_, e, h.news _ e⟩
theorem size_u8 : (Tryd.prog.info? 5).map (·.size) = some 1 := by kernel_rfl

set_option maxRecDepth 100000 in
set_option maxHeartbeats 1000000 in
theorem mac_keyedSum (ka : Option Addr) (kn kc : Nat) (ks : List UInt8) (m : UInt8) (a : Option Addr) (n c : Nat) (bs : List UInt8) (w : World) (hk : BytesAt w w.heap.size ka kn ks) (hkn : kn ≤ 64)
    (h : BytesAt w w.heap.size a n bs) (hnil : a = none → n = 0 ∧ c = 0) (hn : n ≤ 936) (hT : Tabs w) :
    Calls Tryd.prog 34 #[.slice ka kn kc, .int .u8 (m.toNat : Int), .slice a n c] w (SlicePost 0 (Sh.sum (Mc.keyed ks m ++ bs)) w) := by
  have hbl := Mc.block_length ks (by rw [hk.1]; exact hkn)
  have Hnil := Lib.hid hnil
  have HT := Lib.hid hT
  have Hk := Lib.hid hk
  have Hb := Lib.hid h
  have y1 : IntKind.i64.wrap (64 + (n : Int)) = 64 + (n : Int) := IntWalk.i64_in _ (by omega)
  clear hnil hT hk h
  go_enter Tryd.func34, Tryd.ntmps34
  go_wp2_with (at_make; refine wpL_make8 _ rfl _ _ rfl _ _ _ _ 64 (64 + n) rfl rfl ?m1 ?m2 ?m3 ?m4 ?_)
  case m1 => rfl
  case m2 => omega
  case m3 => omega
  case m4 => omega
  intro w1 hg1 hgrow
  have hb1 : Below w.heap.size w w1 := (Below.refl _ _).grown hgrow (Nat.le_refl _) (fun k h => by cases h)
  have Hg1 := Lib.hid hg1
  have Hk1 := Lib.hid (Hk.out.below hb1)
  clear hg1 hgrow y1
  go_wp2_with (with_reducible refine wpList_copy_splice (o := ⟨some 16, _, _, _, _, _⟩) rfl (.tmp 14) (.tmp 15) 22 22 rfl 5 Tryd.underlying22 size_u8 _ _ _ _ _ _ rfl rfl w.heap.size 0 (bcells (List.replicate (64 + n) 0)) 5 Hg1.out (bcells ks) ?n1 ?n2 ?n3 (bcells_one _) w.heap.size w hb1 (Nat.le_refl _) ?_)
  case n1 => rw [bcells_length, Hk.out.1]; show kn = min kn 64; omega
  case n2 => exact fun h0 => Hk1.out.src h0
  case n3 => rw [bcells_length, bcells_length, List.length_replicate, Hk.out.1]; omega
  intro w2 HG2 hB2
  have hM0 : Masked (Mc.block ks) m w (64 + n) 0 w2 := by
    have hs := splice_block ks n (by rw [Hk.out.1]; exact hkn)
    have ho := own_part (base := w.heap.size) (n := 64) HG2.out (Nat.le_refl _) hs.2 (by omega) (by unfold maxLen; omega)
    rw [hs.1] at ho
    unfold Masked
    rw [maskTo_zero]
    exact ho
  have Hbl := Lib.hid hbl
  clear hb1 Hg1 Hk1 HG2 hbl
  go_wp2
  go_loopw [19] (fun i wr => ∃ k : Nat, k ≤ 64 ∧ i = .int .i64 k ∧ Masked (Mc.block ks) m w (64 + n) k wr ∧ Below w.heap.size w wr) (fun i _ => 64 - (intOf i).toNat)
  case atStart => exact ⟨0, Nat.zero_le _, rfl, hM0, hB2⟩
  case round =>
    clear hM0 hB2
    obtain ⟨k, hk, rfl, hM, hB⟩ := hrel
    by_cases hlt : k < 64
    · have hc := masked_cell hM Hbl.out hlt
      have hf := hM.frozenAt k
      have hx := xor_u8 ((Mc.block ks).getD k 0) m
      have HM := Lib.hid (masked_step hM Hbl.out hlt)
      clear hM
      generalize (Mc.block ks).getD k 0 ^^^ m = Z at *
      generalize (Mc.block ks).getD k 0 = X at *
      go_wp2
      go_roundw
      case rel => exact ⟨k + 1, by omega, by go_num, HM.out, hB.setCell (Nat.le_refl _) _⟩
      case measure => simp [intOf]; omega
    · obtain rfl : k = 64 := by omega
      have HM := Lib.hid hM
      have Hk1 := Lib.hid (maskTo_end (Mc.block ks) m 64 (by rw [Hbl.out]; exact Nat.le_refl _))
      have hz := hB.size
      have Hb1 := Lib.hid (Hb.out.below hB)
      clear hM
      rw [show ((64 : Nat) : Int) = (64 : Int) from rfl]
      go_wp2_with (at_builtin; refine wpL_append8 _ rfl _ _ rfl w.heap.size _ 64 _ _ rfl HM.out _ n _ (bcells bs) rfl ?c1 ?c2 ?c3 (bcells_one _) ?c4 ?c6 ?_)
      case c1 => rw [bcells_length]; exact Hb.out.1
      case c2 => exact Hnil.out
      case c3 => exact Hb1.out.news
      case c4 => omega
      case c6 => exact hz
      intro a3 c3 w3 ho3 hg3
      have hB3 : Below w.heap.size w w3 := below_own hB HM.out hg3 (Nat.le_refl _) hz
      rw [Hk1.out, ← bcells_append] at ho3
      have hl3 : (Mc.keyed ks m ++ bs).length = 64 + n := by rw [List.length_append, Mc.keyed_length _ _ (by rw [Hk.out.1]; exact hkn), Hb.out.1]
      have o3 : BytesAt w3 w3.heap.size a3 (64 + n) (Mc.keyed ks m ++ bs) := BytesAt.own (by rw [hl3]; exact ho3)
      have He := Lib.hid (sumOut_ok (Mc.keyed ks m ++ bs) (by omega))
      clear hg3 ho3 hl3 hB hz
      go_wp2_with fail
      refine (sha_Sum a3 (64 + n) c3 _ _ o3 (by unfold maxLen; omega) (HT.out.below hB3)).mono ?_
      rintro e w4 ⟨a4, n4, c4, rfl, ho4, hb4⟩
      rw [He.out.1]
      rw [He.out.2.2] at ho4
      have hz3 := hB3.size
      have ho4' := ownsRow_base ho4 hz3
      have hB4 := hB3.trans (hb4.mono hz3)
      clear o3 ho4 hb4
      go_wp2
      go_ret2
      exact ⟨_, _, _, rfl, ho4', hB4⟩
end Go.Proofs.YthknkfiofdfogaaDoor
