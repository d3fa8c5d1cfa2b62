/- Sealing by the keys that the properties use: plain facts. -/
import Derived.Test.YthknkfiofdfogaaDoorSealPlain
import Derived.Test.YthknkfiofdfogaaDoorKeepTurned
import Derived.Test.YthknkfiofdfogaaDoorSealRef3
namespace Go.Proofs.YthknkfiofdfogaaDoor
open Go.RowKit

def ksOf (p : Nat) : List UInt8 := Hx.pairs (keyOf p).data.toList
theorem key_stream (p : Nat) (hp : p < 8) (ctr n : Nat) (hc : ctr ≤ 1099511627776) (hn : n ≤ 232) : Sl.streamErr (keyOf p).data.toList (ctr : Int) (n : Int) = 0 ∧ Sl.streamOut (keyOf p).data.toList (ctr : Int) (n : Int) = Sl.stream (ksOf p) ctr n := by
  have h : Sl.streamErr (keyOf p).data.toList (ctr : Int) (n : Int) = 0 := by
    unfold Sl.streamErr; rw [(keyOf_good p hp).2, if_neg (by decide), if_neg (by omega)]
  exact ⟨h, (stream_ok _ _ _ h).2.2.2⟩
theorem key_seal (p : Nat) (hp : p < 8) (ctr : Nat) (b : List UInt8) (hc : ctr ≤ 1099511627776) (hb : b.length ≤ 200) : Sl.sealErr (keyOf p).data.toList (ctr : Int) b = 0 ∧ Sl.sealOut (keyOf p).data.toList (ctr : Int) b = Sl.sealRaw (ksOf p) ctr b := by
  have h : Sl.sealErr (keyOf p).data.toList (ctr : Int) b = 0 := by
    unfold Sl.sealErr; rw [if_neg (by omega), (key_stream p hp ctr b.length hc (by omega)).1]
  exact ⟨h, by unfold Sl.sealOut; rw [if_pos h, Int.toNat_natCast]; rfl⟩
theorem body_append (a t : List UInt8) (h : t.length = 16) : Sl.body (a ++ t) = a ∧ Sl.tail (a ++ t) = t := by
  unfold Sl.body Sl.tail
  rw [List.length_append, h, Nat.add_sub_cancel]
  exact ⟨List.take_left, List.drop_left⟩
theorem key_open (p : Nat) (hp : p < 8) (ctr : Nat) (ct t : List UInt8) (hc : ctr ≤ 1099511627776) (hl : ct.length ≤ 220) (ht : t.length = 16) :
    (t = Sl.tag16 (ksOf p) ctr ct → Sl.openErr (keyOf p).data.toList (ctr : Int) (ct ++ t) = 0 ∧ Sl.openOut (keyOf p).data.toList (ctr : Int) (ct ++ t) = Sl.xorL (Sl.stream (ksOf p) ctr ct.length) ct) ∧
    (Sl.tag16 (ksOf p) ctr ct ≠ t → Sl.openErr (keyOf p).data.toList (ctr : Int) (ct ++ t) = 9 ∧ Sl.openOut (keyOf p).data.toList (ctr : Int) (ct ++ t) = []) := by
  have hb := body_append ct t ht
  have hlen : (ct ++ t).length = ct.length + 16 := by rw [List.length_append, ht]
  have hse := (key_stream p hp ctr ct.length hc (by omega)).1
  unfold Sl.openOut Sl.openErr
  rw [hlen, hb.1, hb.2, Nat.add_sub_cancel, if_neg (by omega), if_neg (by rw [hse]; decide), if_neg (by omega), Int.toNat_natCast]
  constructor
  · intro h
    rw [if_pos (show Sl.tag16 (Hx.pairs (keyOf p).data.toList) ctr ct = t from h.symm)]
    exact ⟨rfl, if_pos rfl⟩
  · intro h
    rw [if_neg (show ¬ Sl.tag16 (Hx.pairs (keyOf p).data.toList) ctr ct = t from h)]
    exact ⟨rfl, if_neg (by decide)⟩
theorem key_back (p : Nat) (hp : p < 8) (ctr : Nat) (b : List UInt8) (hc : ctr ≤ 1099511627776) (hb : b.length ≤ 200) :
    Sl.openErr (keyOf p).data.toList (ctr : Int) (Sl.sealRaw (ksOf p) ctr b) = 0 ∧ Sl.openOut (keyOf p).data.toList (ctr : Int) (Sl.sealRaw (ksOf p) ctr b) = b := by
  have hx : (Sl.xorL (Sl.stream (ksOf p) ctr b.length) b).length = b.length := by rw [Sl.xorL_length _ _ (Sl.stream_length _ _ _), Sl.stream_length]
  have h := (key_open p hp ctr (Sl.xorL (Sl.stream (ksOf p) ctr b.length) b) _ hc (by omega) (Sl.tag16_length _ _ _)).1 rfl
  unfold Sl.sealRaw
  refine ⟨h.1, h.2.trans ?_⟩
  rw [hx, Sl.xorL_back _ _ (Sl.stream_length _ _ _)]
theorem key_short (p : Nat) (hp : p < 8) (ctr : Nat) (b : List UInt8) (hc : ctr ≤ 1099511627776) (hb : b.length < 16) : Sl.openErr (keyOf p).data.toList (ctr : Int) b = 8 := by
  unfold Sl.openErr
  rw [if_neg (by omega), show b.length - 16 = 0 by omega, if_neg (by rw [(key_stream p hp ctr 0 hc (by omega)).1]; decide), if_pos hb]
theorem raw_parts (ks : List UInt8) (ctr : Nat) (b : List UInt8) : (Sl.sealRaw ks ctr b).take b.length = Sl.xorL (Sl.stream ks ctr b.length) b ∧ (Sl.sealRaw ks ctr b).drop b.length = Sl.tag16 ks ctr (Sl.xorL (Sl.stream ks ctr b.length) b) := by
  have hx : (Sl.xorL (Sl.stream ks ctr b.length) b).length = b.length := by rw [Sl.xorL_length _ _ (Sl.stream_length _ _ _), Sl.stream_length]
  unfold Sl.sealRaw
  constructor
  · rw [List.take_append_of_le_length (by omega), List.take_of_length_le (by omega)]
  · rw [List.drop_append_of_le_length (by omega), List.drop_eq_nil_of_le (by omega), List.nil_append]
end Go.Proofs.YthknkfiofdfogaaDoor
