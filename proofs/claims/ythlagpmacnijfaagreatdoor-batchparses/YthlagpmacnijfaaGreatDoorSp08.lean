/- The contract of addr.Parse. -/
import Derived.Test.YthlagpmacnijfaaGreatDoorSp05
import Derived.Test.YthlagpmacnijfaaGreatDoorSp07
import Derived.Test.YthlagpmacnijfaaGreatDoorRows
import Derived.Test.YthlagpmacnijfaaGreatDoorMem
import Derived.Test.YthlagpmacnijfaaGreatDoorAddrPlain
import Derived.Lib.Strings
import Derived.Test.YthlagpmacnijfaaGreatDoorSp03
import Derived.Test.YthlagpmacnijfaaGreatDoorShelfNums
import Derived.Laws.Strings3
import Derived.Deep.OwnRows
import Derived.Deep.LoopGhost
import Derived.Lib.Split
import Derived.Shelf.RegionOpenPlain
import Derived.Deep.WholeRow
import Derived.Test.YthlagpmacnijfaaGreatDoorAddrFold
namespace Go.Proofs.YthlagpmacnijfaaGreatDoor
open Go.RowKit

set_option maxRecDepth 20000 in
set_option maxHeartbeats 8000000 in
theorem ref_BatchOf (s : ByteArray) (w : World) (hT : AllTabs w) : Calls Tryz.prog 9 #[.string s] w (ParsePost s w) := by
  have H1 := Lib.hid (ref_LinesOf s w hT.2.2)
  have HT := Lib.hid hT
  clear hT
  unfold SplitPost at H1
  by_cases he : (Ln.sBad s).2 = 0
  rotate_left
  · have hb := Bt.pBad_split he
    have hn : (((Ln.sBad s).2 : Int) != 0) = true := by simpa using he
    obtain ⟨bi, hbi⟩ : ∃ bi, bi = (Ln.sBad s).1 := ⟨_, rfl⟩
    obtain ⟨br, hbr⟩ : ∃ br, br = (Ln.sBad s).2 := ⟨_, rfl⟩
    have Hr := Lib.hid (fun w' hB => parsePost_err (s := s) (w := w) (w' := w') (i := bi) (r := br) (by rw [hb, hbi, hbr]) (by rw [hbr]; exact he) hB)
    rw [← hbi, ← hbr] at H1
    rw [← hbr] at hn
    clear he hb hbi hbr
    generalize Ln.sOut s = L at *
    go_enter Tryz.func9, Tryz.ntmps9
    go_wp2_with fail
    refine H1.out.mono ?_
    rintro e w1 ⟨⟨a, c, rfl, hat⟩, hb1⟩
    clear hat
    go_wp2
    go_ret3
    exact Hr.out _ hb1
  · obtain ⟨hLe, hL60⟩ := Bt.lines_ok he
    have Hb := Lib.hid (Bt.pBad_wrong he)
    have Hp : Hid (Bt.pOut s = if (Bt.wrong 0 (Ln.sOut s)).2 = 0 then (Ln.sOut s).map (fun l => (Bt.ofLine l).1) else []) := Lib.hid (by unfold Bt.pOut; rw [Hb.out])
    have HLe := Lib.hid hLe
    rw [he] at H1
    clear he hLe
    generalize (Ln.sBad s).1 = bi at *
    generalize Ln.sOut s = L at *
    go_enter Tryz.func9, Tryz.ntmps9
    go_wp2_with fail
    refine H1.out.mono ?_
    rintro e w1 ⟨⟨a, c, rfl, hat⟩, hb1⟩
    have HL1 := Lib.hid hat
    have HB1 := Lib.hid hb1
    clear hat hb1 H1
    go_wp2
    go_loopw [8, 9] (fun v i wr => ∃ k : Nat, k ≤ L.length ∧ i = .int .i64 (k : Int) ∧ Hid (∀ x ∈ L.take k, (Bt.ofLine x).2 = 0) ∧ Hid (OwnS wr w1.heap.size v ((L.take k).map (fun l => (Bt.ofLine l).1))) ∧ Hid (Below w1.heap.size w1 wr)) (fun _ i _ => L.length - (intOf i).toNat)
    case atStart => exact ⟨0, Nat.zero_le _, rfl, Lib.hid (fun x hx => by simp at hx), Lib.hid (OwnS.nil _ _), Lib.hid (Below.refl _ _)⟩
    case round =>
      obtain ⟨k, hk, rfl, Ha, HO, HBr⟩ := hrel
      obtain ⟨wo, hwo⟩ : ∃ wo, wo = wr := ⟨_, rfl⟩
      subst hwo
      have hsz := HBr.out.size
      by_cases hlt : k < L.length
      · obtain ⟨bb, off, rfl, hbl, hc⟩ := (HL1.out.below HBr.out).2 (by omega)
        obtain ⟨c0, c1⟩ := hc k hlt
        have Hle := Lib.hid (HLe.out _ (List.getElem_mem hlt))
        have HBo := Lib.hid (HB1.out.trans (HBr.out.mono HB1.out.size))
        have Ht : Hid (L.take (k + 1) = L.take k ++ [L[k]]) := Lib.hid (List.take_succ_eq_append_getElem hlt)
        have Htl : Hid ((L.take k).length = k) := Lib.hid (by rw [List.length_take]; omega)
        have Hf := Lib.hid (fun hn => Bt.wrong_at L 0 k hlt Ha.out hn)
        clear hc
        generalize L[k] = x at *
        have HS := Lib.hid (ref_SettingOf x wo (by have := (Ln.err_zero Hle.out).1; omega) (HT.out.below HBo.out))
        have Hm : Hid ((L.take (k + 1)).map (fun l => (Bt.ofLine l).1) = (L.take k).map (fun l => (Bt.ofLine l).1) ++ [(Bt.ofLine x).1]) := Lib.hid (by rw [Ht.out, List.map_append, List.map_singleton])
        obtain ⟨K, V⟩ := x
        unfold lineV at HS
        by_cases he : (Bt.ofLine ⟨K, V⟩).2 = 0
        · have Hn := Lib.hid (show ∀ y ∈ L.take (k + 1), (Bt.ofLine y).2 = 0 by
            intro y hy
            rw [Ht.out] at hy
            rcases List.mem_append.1 hy with hy | hy
            · exact Ha.out y hy
            · rw [List.mem_singleton.1 hy]; exact he)
          rw [he] at HS
          clear he Hf Ha
          generalize (Bt.ofLine ⟨K, V⟩).1 = S at *
          obtain ⟨sk, st, sn, sa, sb⟩ := S
          unfold setV at HS
          have hDl : ((L.take k).map (fun l => (Bt.ofLine l).1)).length + 1 ≤ 2518437208883 := by rw [List.length_map, Htl.out]; omega
          generalize (L.take k).map (fun l => (Bt.ofLine l).1) = D at *
          go_wp2_with fail
          refine HS.out.mono ?_
          rintro e w3 ⟨rfl, hb3⟩
          have HO2 := Lib.hid (((HO.out.below hb3).alloc (.cells #[.int .i64 sk, .string st, .int .i64 sn, .int .u32 (sa : Int), .int .i64 sb] 28)).alloc (.cells #[.int .i64 sk, .string st, .int .i64 sn, .int .u32 (sa : Int), .int .i64 sb] 28))
          have hnw := news_set (w3.alloc (.cells #[.int .i64 sk, .string st, .int .i64 sn, .int .u32 (sa : Int), .int .i64 sb] 28)) ⟨sk, st, sn, sa, sb⟩ 28
          rw [show (w3.alloc (.cells #[.int .i64 sk, .string st, .int .i64 sn, .int .u32 (sa : Int), .int .i64 sb] 28)).heap.size = w3.heap.size + 1 by simp] at hnw
          have Hnw := Lib.hid hnw
          have HB3 := Lib.hid (HBr.out.trans (hb3.mono hsz))
          have hlt4 : w1.heap.size ≤ ((w3.alloc (.cells #[.int .i64 sk, .string st, .int .i64 sn, .int .u32 (sa : Int), .int .i64 sb] 28)).alloc (.cells #[.int .i64 sk, .string st, .int .i64 sn, .int .u32 (sa : Int), .int .i64 sb] 28)).heap.size := by have := HB3.out.size; simp; omega
          clear hb3 hnw HS HO c0 c1
          go_wp2_with (at_builtin; refine wpL_append_set _ rfl _ _ rfl w1.heap.size _ D rfl HO2.out _ 1 _ [⟨sk, st, sn, sa, sb⟩] rfl rfl Hnw.out hDl hlt4 ?_)
          intro v' w4 hO4 hb4
          have HB4 := Lib.hid (((HB3.out.alloc HB3.out.size _).alloc (by have := HB3.out.size; simp; omega) _).trans hb4)
          rw [← Hm.out] at hO4
          have HO4 := Lib.hid hO4
          clear hO4 hb4
          go_wp2
          go_roundw
          case rel => exact ⟨k + 1, by omega, by go_num, Hn, HO4, HB4⟩
          case measure => simp [intOf]; omega
        · have hb : Bt.pBad s = (k + 1, (Bt.ofLine ⟨K, V⟩).2) := by rw [Hb.out, Hf.out he, Nat.zero_add]
          have hn : (((Bt.ofLine ⟨K, V⟩).2 : Int) != 0) = true := by simpa using he
          have Hr := Lib.hid (fun w' hB' => parsePost_err (w := w) (w' := w') hb he hB')
          clear he Hf hb
          generalize (Bt.ofLine ⟨K, V⟩).2 = r at *
          generalize (Bt.ofLine ⟨K, V⟩).1 = S at *
          obtain ⟨sk, st, sn, sa, sb⟩ := S
          unfold setV at HS
          go_wp2_with fail
          refine HS.out.mono ?_
          rintro e w3 ⟨rfl, hb3⟩
          have HB3 := Lib.hid (HBo.out.trans (hb3.mono HBo.out.size))
          have HB4 := Lib.hid (HB3.out.alloc HB3.out.size (.cells #[.int .i64 sk, .string st, .int .i64 sn, .int .u32 (sa : Int), .int .i64 sb] 28))
          clear hb3 HS c0 c1
          go_wp2
          go_ret3
          have h := Hr.out _ HB4.out
          rwa [Int.natCast_add] at h
      · obtain rfl : k = L.length := by omega
        have htk : L.take L.length = L := List.take_of_length_le (Nat.le_refl _)
        rw [htk] at Ha HO
        have Hw := Lib.hid (Bt.wrong_good L 0 Ha.out)
        have ho : Hid (Bt.pOut s = L.map (fun l => (Bt.ofLine l).1)) := Lib.hid (by rw [Hp.out, Hw.out, if_pos rfl])
        obtain ⟨a', c', rfl, hat⟩ := HO.out.at
        have HL := Lib.hid hat
        have HBf := Lib.hid (HB1.out.trans (HBr.out.mono HB1.out.size))
        clear htk hat
        go_wp2
        go_ret3
        refine ⟨⟨a', c', ?_, ?_⟩, HBf.out⟩
        · rw [Hb.out, Hw.out, ho.out]; rfl
        · rw [ho.out]; exact HL.out
end Go.Proofs.YthlagpmacnijfaaGreatDoor

namespace Go.Proofs.YthlagpmacnijfaaGreatDoor
open Go.RowKit

theorem num_bad {l : List UInt8} {most : Int} (h : Ad.isNum l = false ∨ most < (Ad.val l : Int)) : Ad.numErr l most = 3 ∧ Ad.numOut l most = 0 := by
  have e : Ad.numErr l most = 3 := by
    unfold Ad.numErr
    rw [if_neg]
    rintro ⟨h1, h2⟩
    rcases h with h | h
    · rw [h] at h1; cases h1
    · omega
  refine ⟨e, ?_⟩
  unfold Ad.numOut
  rw [e]
  rfl
theorem num_good {l : List UInt8} {most : Int} (h : Ad.isNum l = true) (h2 : (Ad.val l : Int) ≤ most) : Ad.numErr l most = 0 ∧ Ad.numOut l most = Ad.val l := by
  have e : Ad.numErr l most = 0 := by unfold Ad.numErr; rw [if_pos ⟨h, h2⟩]
  refine ⟨e, ?_⟩
  unfold Ad.numOut
  rw [if_pos e]
theorem not_num_long {l : List UInt8} (h : 5 < l.length) : Ad.isNum l = false := by
  cases hn : Ad.isNum l
  · rfl
  · have := (Ad.num_parts l hn).2.1; omega
theorem not_num_zero {l : List UInt8} (h : 1 < l.length) (h0 : l.head? = some 48) : Ad.isNum l = false := by
  cases hn : Ad.isNum l
  · rfl
  · rcases (Ad.num_parts l hn).2.2.2 with h | h
    · omega
    · exact absurd h0 h
theorem not_num_digit {l : List UInt8} {k : Nat} (h : k < l.length) (hd : Ad.isD l[k] = false) : Ad.isNum l = false := by
  cases hn : Ad.isNum l
  · rfl
  · have := List.all_eq_true.1 (Ad.num_parts l hn).2.2.1 _ (List.getElem_mem h)
    rw [hd] at this; cases this
theorem is_num {l : List UInt8} (h0 : 0 < l.length) (h5 : l.length ≤ 5) (hd : l.all Ad.isD = true) (hz : l.length = 1 ∨ l.head? ≠ some 48) : Ad.isNum l = true := by
  unfold Ad.isNum
  rw [hd, decide_eq_true h5, decide_eq_true (show l ≠ [] by intro e; rw [e] at h0; simp at h0)]
  rcases hz with hz | hz
  · rw [decide_eq_true hz]; rfl
  · rw [decide_eq_true hz]; simp
/-- The digits read so far. -/
def NumSo (l : List UInt8) (w : World) (k : Nat) (v : Value) (wr : World) : Prop :=
  v = .int .i64 (Ad.val (l.take k) : Int) ∧ (l.take k).all Ad.isD = true ∧ Below w.heap.size w wr
theorem val_take {l : List UInt8} {k : Nat} (h : k < l.length) : Ad.val (l.take (k + 1)) = Ad.val (l.take k) * 10 + (l[k].toNat - 48) := by
  rw [List.take_succ_eq_append_getElem h, Ad.val_snoc]
theorem val_take_lt {l : List UInt8} {k : Nat} (h5 : l.length ≤ 5) (hd : (l.take k).all Ad.isD = true) : Ad.val (l.take k) < 100000 := by
  have := Ad.val_lt _ hd
  have h2 : 10 ^ (l.take k).length ≤ 10 ^ 5 := Nat.pow_le_pow_right (by decide) (by rw [List.length_take]; omega)
  omega

set_option maxHeartbeats 800000 in
theorem addr_Number0 (s : ByteArray) (most : Int) (w : World) (hs : s.size ≤ 281474976710656) :
    Calls Tryz.prog 25 #[.string s, .int .i64 most] w fun e w' => e = .returned (.tuple #[.int .i64 (Ad.numOut s.data.toList most : Int), .int .i64 (Ad.numErr s.data.toList most : Int)]) ∧ Below w.heap.size w w' := by
  have hsl : s.data.toList.length = s.size := by simp
  by_cases h0 : s.size = 0
  · obtain rfl : s = ⟨#[]⟩ := by
      apply WideShapes.bytes_inj
      rw [List.eq_nil_of_length_eq_zero (by omega : s.data.toList.length = 0)]
    have Hr := Lib.hid (num_bad (l := []) (most := most) (.inl rfl))
    clear hsl h0 hs
    go_enter Tryz.func25, Tryz.ntmps25
    go_wp2
    go_ret2
    exact ⟨by rw [Hr.out.1, Hr.out.2]; rfl, Below.refl _ _⟩
  have hse : s.toList.isEmpty = false := by
    rw [Lib.toList_data]
    cases h : s.data.toList with
    | nil => rw [h] at hsl; simp at hsl; omega
    | cons _ _ => rfl
  by_cases h5 : 5 < s.size
  · have Hr := Lib.hid (num_bad (most := most) (.inl (not_num_long (l := s.data.toList) (by omega))))
    have d1 : decide ((5 : Int) < (s.size : Int)) = true := decide_eq_true (by omega)
    clear hsl h0
    go_enter Tryz.func25, Tryz.ntmps25
    go_wp2
    go_ret2
    exact ⟨by rw [Hr.out.1, Hr.out.2]; rfl, Below.refl _ _⟩
  have d1 : decide ((5 : Int) < (s.size : Int)) = false := decide_eq_false (by omega)
  have hp : 0 < s.size := by omega
  have hh : s.data.toList.head? = some s[0] := by
    rw [List.head?_eq_getElem?, List.getElem?_eq_getElem (by omega)]
    rfl
  have x0 := (s[0]).toNat_lt
  by_cases hz : (s[0]).toNat = 48 ∧ 1 < s.size
  · have Hr := Lib.hid (num_bad (most := most) (.inl (not_num_zero (l := s.data.toList) (by omega) (by rw [hh]; exact congrArg some (UInt8.toNat_inj.1 hz.1)))))
    have d2 : decide ((1 : Int) < (s.size : Int)) = true := decide_eq_true (by omega)
    obtain ⟨hz1, hz2⟩ := hz
    clear hsl h0 hh
    go_enter Tryz.func25, Tryz.ntmps25
    go_wp2
    go_ret2
    exact ⟨by rw [Hr.out.1, Hr.out.2]; rfl, Below.refl _ _⟩
  have Hz := Lib.hid (show s.data.toList.length = 1 ∨ s.data.toList.head? ≠ some 48 by
    by_cases h1 : s.size = 1
    · left; omega
    · right
      rw [hh]
      intro e
      injection e with e
      exact hz ⟨by rw [e]; rfl, by omega⟩)
  have Hl := Lib.hid hsl
  clear hh hsl
  by_cases hz1 : (s[0]).toNat = 48
  all_goals
    have d2 : (s[0]).toNat = 48 → decide ((1 : Int) < (s.size : Int)) = false := fun h => decide_eq_false (by omega)
    try have d3 := d2 hz1
    clear d2
    go_enter Tryz.func25, Tryz.ntmps25
    go_wp2
    go_loopw [6, 25] (fun v i wr => ∃ k : Nat, k ≤ s.size ∧ i = .int .i64 k ∧ NumSo s.data.toList w k v wr) (fun _ i _ => s.size - (intOf i).toNat)
    case atStart => exact ⟨0, Nat.zero_le _, rfl, rfl, rfl, Below.refl _ _⟩
    case round =>
      obtain ⟨k, hk, rfl, rfl, hd, hB⟩ := hrel
      have HB := Lib.hid hB
      have Hd := Lib.hid hd
      have hvl := val_take_lt (k := k) (show s.data.toList.length ≤ 5 by rw [Hl.out]; omega) hd
      clear hB hd
      by_cases hlt : k < s.size
      · have x1 := (s[k]'hlt).toNat_lt
        have hkl : k < s.data.toList.length := by rw [Hl.out]; exact hlt
        have hg : s.data.toList[k]'hkl = s[k]'hlt := rfl
        by_cases hD : Ad.isD (s[k]'hlt) = true
        · have hc : 48 ≤ (s[k]'hlt).toNat ∧ (s[k]'hlt).toNat ≤ 57 := by unfold Ad.isD at hD; exact of_decide_eq_true hD
          obtain ⟨hc1, hc2⟩ := hc
          have Hv := Lib.hid (val_take hkl)
          rw [hg] at Hv
          have Hd' := Lib.hid (show (s.data.toList.take (k + 1)).all Ad.isD = true by
            rw [List.take_succ_eq_append_getElem hkl, List.all_append, Hd.out, hg]
            simp only [List.all_cons, List.all_nil, Bool.and_true, Bool.true_and]
            exact hD)
          clear hD hkl hg
          generalize Ad.val (s.data.toList.take k) = A at *
          go_wp2
          go_roundw
          case rel => exact ⟨k + 1, by omega, by go_num, by rw [Hv.out]; congr 1; omega, Hd'.out, HB.out⟩
          case measure => simp [intOf]; omega
        · have Hr := Lib.hid (num_bad (most := most) (.inl (not_num_digit (l := s.data.toList) hkl (by rw [hg]; cases h : Ad.isD (s[k]'hlt); rfl; exact absurd h hD))))
          have hc : (s[k]'hlt).toNat < 48 ∨ 57 < (s[k]'hlt).toNat := by
            by_cases a : (s[k]'hlt).toNat < 48
            · exact .inl a
            · right
              by_cases b : 57 < (s[k]'hlt).toNat
              · exact b
              · exact absurd (by unfold Ad.isD; exact decide_eq_true ⟨by omega, by omega⟩) hD
          clear hD hkl hg
          generalize Ad.val (s.data.toList.take k) = A at *
          by_cases hc1 : (s[k]'hlt).toNat < 48
          · go_wp2
            go_ret2
            exact ⟨by rw [Hr.out.1, Hr.out.2]; rfl, HB.out⟩
          · have hc2 : 57 < (s[k]'hlt).toNat := by omega
            go_wp2
            go_ret2
            exact ⟨by rw [Hr.out.1, Hr.out.2]; rfl, HB.out⟩
      · obtain rfl : k = s.size := by omega
        have hta : s.data.toList.take s.size = s.data.toList := List.take_of_length_le (by rw [Hl.out]; exact Nat.le_refl _)
        rw [hta] at hvl Hd
        have hn := is_num (l := s.data.toList) (by rw [Hl.out]; omega) (by rw [Hl.out]; omega) Hd.out Hz.out
        rw [hta]
        by_cases hm : (Ad.val s.data.toList : Int) ≤ most
        · have Hr := Lib.hid (num_good hn hm)
          have d4 : decide (most < (Ad.val s.data.toList : Int)) = false := decide_eq_false (by omega)
          clear hta hn Hd
          generalize Ad.val s.data.toList = A at *
          go_wp2
          go_ret2
          exact ⟨by rw [Hr.out.1, Hr.out.2]; rfl, HB.out⟩
        · have Hr := Lib.hid (num_bad (l := s.data.toList) (most := most) (.inr (by omega)))
          have d4 : decide (most < (Ad.val s.data.toList : Int)) = true := decide_eq_true (by omega)
          clear hta hn Hd
          generalize Ad.val s.data.toList = A at *
          go_wp2
          go_ret2
          exact ⟨by rw [Hr.out.1, Hr.out.2]; rfl, HB.out⟩
end Go.Proofs.YthlagpmacnijfaaGreatDoor

namespace Go.Proofs.YthlagpmacnijfaaGreatDoor
open Go.RowKit

theorem index_B (x : ByteArray) (c : UInt8) (W : World) :
    Calls Tryz.prog 31 #[.string x, .string ⟨#[c]⟩] W fun e w' => e = .returned (.int .i64 (Lib.indexB x ⟨#[c]⟩)) ∧ w' = W := by
  have e : Lib.indexB x ⟨#[c]⟩ = Lib.indexByte x.data.toList c := Lib.index_one _ _
  rw [e]
  exact Tryz.strings_Index_one x c W

theorem splitB_size (sep : ByteArray) (save : Nat) : ∀ (k : Nat) (s : ByteArray), ∀ p ∈ Lib.splitB sep save k s, p.size ≤ s.size := by
  intro k
  induction k with
  | zero => intro s p hp; rw [Lib.splitB_zero, List.mem_singleton] at hp; rw [hp]; exact Nat.le_refl _
  | succ k ih =>
    intro s p hp
    unfold Lib.splitB at hp
    split at hp
    · rw [List.mem_singleton] at hp; rw [hp]; exact Nat.le_refl _
    · rcases List.mem_cons.1 hp with rfl | hp
      · rw [ByteArray.size_extract]; omega
      · have := ih _ _ hp
        rw [ByteArray.size_extract] at this
        omega
set_option maxHeartbeats 4000000 in
set_option maxRecDepth 1000000 in
theorem lib_genSplit5 (s : ByteArray) (c : UInt8) (N : Nat) (w : World) (hs : s.size ≤ 281474976710656) (hN : N = min 5 (s.size + 1)) :
    Calls Tryz.prog 61 #[.string s, .string ⟨#[c]⟩, .int .i64 0, .int .i64 5] w fun e w' =>
      e = .returned (.slice (some ⟨w.heap.size, 0, none⟩) (Lib.splitB ⟨#[c]⟩ 0 (N - 1) s).length N) ∧ w' = w.alloc (.cells (Lib.cellsOf (Lib.splitB ⟨#[c]⟩ 0 (N - 1) s) N) 9) := by
  have hse : (⟨#[c]⟩ : ByteArray).toList.isEmpty = false := by rw [Lib.toList_data]; rfl
  have hN1 : 1 ≤ N := by omega
  have hN5 : N ≤ 5 := by omega
  have eN : min (5 : Int) ((s.size : Int) + 1) = (N : Int) := by omega
  have HI := Lib.hid (fun x W => index_B x c W)
  have hmk := run_make_row' (P := Tryz.prog) 46 9 (.string ByteArray.empty) 16 Tryz.underlying46 (by kernel_rfl) rfl .i64 .i64 N (by omega) (by omega)
  have hsz : (⟨#[c]⟩ : ByteArray).size = 1 := rfl
  generalize (⟨#[c]⟩ : ByteArray) = sep at *
  clear hN
  go_enter Tryz.func61, Tryz.ntmps61
  go_wp2
  clear hmk
  go_loopg [0, 10] (N - 1) (fun g s0 s10 wr => ∃ (done : List ByteArray) (rest : ByteArray), s0 = .string rest ∧ s10 = .int .i64 done.length ∧ done.length ≤ N - 1 ∧ g = N - 1 - done.length ∧ rest.size ≤ s.size ∧
    wr = w.alloc (.cells (Lib.cellsOf done N) 9) ∧ done ++ Lib.splitB sep 0 (N - 1 - done.length) rest = Lib.splitB sep 0 (N - 1) s)
  case atStart => exact ⟨[], s, rfl, rfl, Nat.zero_le _, rfl, Nat.le_refl _, by rw [Lib.cellsOf_nil], rfl⟩
  case round =>
    obtain ⟨done, rest, rfl, rfl, hd, rfl, hrs, rfl, hsp⟩ := hrel
    have hnext : (Lib.cellsOf done N)[done.length]? = some (.string ByteArray.empty) := Lib.cellsOf_next (by omega)
    have HS := Lib.hid hsp
    clear hsp
    have fin : Lib.splitB sep 0 (N - 1 - done.length) rest = [rest] → (Lib.splitB sep 0 (N - 1) s).length = done.length + 1 ∧ (Lib.cellsOf done N).setIfInBounds done.length (.string rest) = Lib.cellsOf (Lib.splitB sep 0 (N - 1) s) N := fun h => by
      have e := HS.out
      rw [h] at e
      rw [← e]
      exact ⟨by simp, Lib.cellsOf_set (by omega) rest⟩
    have Hf := Lib.hid fin
    clear fin
    by_cases hlt : done.length < N - 1
    · have hltz : ((done.length : Nat) : Int) < (N : Int) - 1 := by omega
      rcases Lib.indexB_cases rest sep with hix | ⟨i, hix, hroom⟩
      · have Hix := Lib.hid hix
        clear hix
        go_wp2_with fail
        refine (HI.out rest _).mono ?_
        rintro e w' ⟨rfl, hw⟩
        subst hw
        rw [Hix.out]
        go_wp2
        go_ret
        obtain ⟨f1, f2⟩ := Hf.out (Lib.splitB_miss sep 0 _ rest Hix.out)
        rw [f1, ← f2]
        exact ⟨by first | rfl | (congr 2 <;> omega), rfl⟩
      · have c0 : ¬ ((i : Int) < 0) := by omega
        have c2 : (i : Int) ≤ rest.size := by omega
        have c4 : ((i : Int) + 1) ≤ rest.size := by omega
        have Hix := Lib.hid hix
        clear hix
        go_wp2_with fail
        refine (HI.out rest _).mono ?_
        rintro e w' ⟨rfl, hw⟩
        subst hw
        rw [Hix.out]
        go_wp2
        go_roundg (N - 1 - (done.length + 1))
        case measure => omega
        case rel =>
          refine ⟨done ++ [rest.extract 0 (i + 0)], rest.extract (i + sep.size) rest.size, by rw [hsz], by simp, by simp; omega, by simp, by rw [ByteArray.size_extract]; omega, by rw [← Lib.cellsOf_set (by omega)]; rfl, ?_⟩
          rw [← HS.out, show N - 1 - done.length = (N - 1 - (done.length + 1)) + 1 by omega, Lib.splitB_hit sep 0 _ rest i Hix.out]
          simp
    · have hltz : ¬ (((done.length : Nat) : Int) < (N : Int) - 1) := by omega
      go_wp2
      go_ret
      obtain ⟨f1, f2⟩ := Hf.out (by rw [show N - 1 - done.length = 0 by omega]; rfl)
      rw [f1, ← f2]
      exact ⟨by first | rfl | (congr 2 <;> omega), rfl⟩

set_option maxHeartbeats 400000 in
/-- strings.SplitN(s, c, 5): the pieces in a new slice. -/
theorem lib_SplitN5 (s : ByteArray) (c : UInt8) (w : World) (hs : s.size ≤ 281474976710656) :
    Calls Tryz.prog 71 #[.string s, .string ⟨#[c]⟩, .int .i64 5] w fun e w' => ∃ (ps : List ByteArray) (N : Nat), e = .returned (.slice (some ⟨w.heap.size, 0, none⟩) ps.length N) ∧ Hid (ps.map (·.data.toList) = Lib.splitK [c] 0 (N - 1) s.data.toList) ∧ N = min 5 (s.size + 1) ∧
      (∀ p ∈ ps, p.size ≤ s.size) ∧ (∀ k (h : k < ps.length), w'.cell? ⟨w.heap.size, k, none⟩ = some (.string ps[k])) ∧ w'.heap.size = w.heap.size + 1 ∧ Below w.heap.size w w' := by
  have HG := lib_genSplit5 s c _ w hs rfl
  go_enter Tryz.func71, Tryz.ntmps71
  go_wp2_with fail
  refine HG.mono ?_
  rintro e w' ⟨rfl, hw⟩
  clear HG
  have hd := Lib.splitB_data (⟨#[c]⟩ : ByteArray) 0 (min 5 (s.size + 1) - 1) s
  have hle := Lib.splitB_length_le (⟨#[c]⟩ : ByteArray) 0 (min 5 (s.size + 1) - 1) s
  have hsl : s.data.toList.length = s.size := by simp
  have Hw := Lib.hid hw
  have Hd := Lib.hid hd
  have hpl : ∀ p ∈ Lib.splitB (⟨#[c]⟩ : ByteArray) 0 (min 5 (s.size + 1) - 1) s, p.size ≤ s.size := splitB_size _ _ _ _
  clear hw hd
  obtain ⟨ps, hps⟩ : ∃ ps, ps = Lib.splitB (⟨#[c]⟩ : ByteArray) 0 (min 5 (s.size + 1) - 1) s := ⟨_, rfl⟩
  rw [← hps] at Hw Hd hle hpl ⊢
  clear hps
  obtain ⟨N, hN⟩ : ∃ N, N = min 5 (s.size + 1) := ⟨_, rfl⟩
  rw [← hN] at Hw Hd hle ⊢
  have HN := Lib.hid hN
  have hN1 : 1 ≤ N := by omega
  clear hN
  go_wp2
  go_ret
  refine ⟨ps, N, rfl, Hd, HN.out, hpl, ?_, by rw [Hw.out]; simp, by rw [Hw.out]; exact (Below.refl _ _).alloc (Nat.le_refl _) _⟩
  intro k h
  rw [Hw.out, cell_of_row _ _ k _ _ _ (heap_alloc_last w _)]
  unfold Lib.cellsOf
  rw [List.getElem?_toArray, List.getElem?_append_left (by simpa using h), List.getElem?_map, List.getElem?_eq_getElem h]
  rfl
end Go.Proofs.YthlagpmacnijfaaGreatDoor

namespace Go.Proofs.YthlagpmacnijfaaGreatDoor
open Go.RowKit

/-- The address so far, of four pieces. -/
def ParseSo (ps : List ByteArray) (w1 : World) (k : Nat) (v : Value) (wr : World) : Prop :=
  v = .int .u32 (Ad.fold ((ps.map (·.data.toList)).take k) 0 : Int) ∧ (∀ p ∈ (ps.map (·.data.toList)).take k, Ad.numErr p 255 = 0) ∧ Below w1.heap.size w1 wr
theorem ofInt_u32 (a : Nat) (ha : a < 4294967296) : (BitVec.ofInt 32 (a : Int)).toNat = a := by
  rw [BitVec.toNat_ofInt]; omega
theorem shl_or (A u : Nat) (hA : A < 16777216) (hu : u < 256) : bits .or .u32 ((A : Int) * 256) (u : Int) = ((A * 256 + u : Nat) : Int) := by
  have e : ((A : Int) * 256) = ((A * 256 : Nat) : Int) := by omega
  rw [e]
  show IntKind.u32.wrap ((BitVec.ofInt 32 ((A * 256 : Nat) : Int) ||| BitVec.ofInt 32 (u : Int)).toNat : Int) = _
  have ho : A * 256 ||| u = A * 256 + u := by
    have := Nat.two_pow_add_eq_or_of_lt (i := 8) (b := u) (by omega) A
    rw [show 2 ^ 8 * A = A * 256 by omega] at this
    exact this.symm
  rw [BitVec.toNat_or, ofInt_u32 _ (by omega), ofInt_u32 _ (by omega), ho, IntKind.wrap_u32]
  omega
set_option maxHeartbeats 800000 in
theorem addr_Parse0 (s : ByteArray) (w : World) (hs : s.size ≤ 281474976710656) :
    Calls Tryz.prog 44 #[.string s] w fun e w' => e = .returned (.tuple #[.int .u32 (Ad.addrOut s.data.toList : Int), .int .i64 (Ad.addrErr s.data.toList : Int)]) ∧ Below w.heap.size w w' := by
  have HS := lib_SplitN5 s 46 w hs
  go_enter Tryz.func44, Tryz.ntmps44
  go_wp2_with fail
  refine HS.mono ?_
  rintro e w1 ⟨ps, N, rfl, Hp, hN, hpl, hcell, hz1, hb1⟩
  have hq := Ad.split_four 46 s.data.toList N (by rw [hN]; simp)
  rw [← Hp.out, List.length_map] at hq
  have Hc := Lib.hid hcell
  have Hl := Lib.hid hpl
  have HB1 := Lib.hid hb1
  clear hcell hpl hb1 HS hN
  rcases hq with ⟨h4, hq⟩ | ⟨h4, hq⟩
  · have H4 := Lib.hid h4
    have Hq := Lib.hid hq
    have d4 : ((ps.length : Int) != 4) = false := by rw [h4]; decide
    clear h4 hq
    go_wp2
    go_loopw [5, 17] (fun v i wr => ∃ k : Nat, k ≤ ps.length ∧ i = .int .i64 k ∧ ParseSo ps w1 k v wr) (fun _ i _ => ps.length - (intOf i).toNat)
    case atStart => exact ⟨0, Nat.zero_le _, rfl, rfl, fun p h => (by cases h), Below.refl _ _⟩
    case round =>
      obtain ⟨k, hk, rfl, rfl, hg, hB⟩ := hrel
      obtain ⟨wo, hwo⟩ : ∃ wo, wo = wr := ⟨_, rfl⟩
      subst hwo
      by_cases hlt : k < ps.length
      · have Hlt := Lib.hid hlt
        have hk4 : k < 4 := by have := H4.out; omega
        have hcell : wo.cell? ⟨w.heap.size, k, none⟩ = some (.string ps[k]) := by
          rw [hB.cell (show (⟨w.heap.size, k, none⟩ : Addr).block < w1.heap.size by show w.heap.size < _; omega)]
          exact Hc.out k hlt
        have hps := Hl.out _ (List.getElem_mem hlt)
        have HK := Lib.hid (addr_Number0 ps[k] 255 wo (by omega))
        have hmk : k < (ps.map (·.data.toList)).length := by rw [List.length_map]; exact hlt
        have hmg : (ps.map (·.data.toList))[k] = ps[k].data.toList := List.getElem_map _
        by_cases hn : Ad.numErr ps[k].data.toList 255 = 0
        · have Hg' : Hid (∀ p ∈ (ps.map (·.data.toList)).take (k + 1), Ad.numErr p 255 = 0) := Lib.hid (by
            intro p hp
            rw [List.take_succ_eq_append_getElem hmk, List.mem_append] at hp
            rcases hp with hp | hp
            · exact hg p hp
            · rw [List.mem_singleton.1 hp, hmg]; exact hn)
          have hF := fold_lt _ k (by omega) hg
          have hF4 : 256 ^ k ≤ 256 ^ 3 := Nat.pow_le_pow_right (by decide) (by rw [H4.out] at hlt; omega)
          have Hf := Lib.hid (fold_snoc _ k hmk)
          rw [hmg] at Hf
          have hv := (Ad.num_dec _ hn).1
          rw [← numOut_val _ hn] at hv Hf
          rw [hn] at HK
          have hA : Ad.fold ((ps.map (·.data.toList)).take k) 0 < 16777216 := by omega
          clear hF hF4 hn hg hmg hmk
          generalize Ad.numOut ps[k].data.toList 255 = u at *
          generalize Ad.fold ((ps.map (·.data.toList)).take k) 0 = A at *
          generalize ps[k] = p at *
          have Hor := Lib.hid (shl_or A u hA hv)
          go_wp2_with fail
          refine HK.out.mono ?_
          rintro e w2 ⟨rfl, hb2⟩
          go_wp2
          go_roundw
          case rel => exact ⟨k + 1, Hlt.out, by go_num, by rw [Hf.out, Hor.out], Hg'.out, hB.trans (hb2.mono hB.size)⟩
          case measure => have := Hlt.out; simp [intOf]; omega
        · have Hbad := Lib.hid (addr_bad s.data.toList (by
            unfold Ad.good
            rw [← Hq.out, Bool.and_eq_false_iff]
            right
            rw [List.all_eq_false]
            exact ⟨_, List.getElem_mem hmk, by rw [hmg]; simpa using hn⟩))
          rw [(numOut_bad _ _ hn).1, (numOut_bad _ _ hn).2] at HK
          clear hn hg hmg hmk
          generalize Ad.fold ((ps.map (·.data.toList)).take k) 0 = A at *
          generalize ps[k] = p at *
          go_wp2_with fail
          refine HK.out.mono ?_
          rintro e w2 ⟨rfl, hb2⟩
          go_wp2
          go_ret2
          rw [Hbad.out.1, Hbad.out.2]
          exact ⟨rfl, HB1.out.trans ((hB.trans (hb2.mono hB.size)).mono HB1.out.size)⟩
      · obtain rfl : k = ps.length := by omega
        have hta : (ps.map (·.data.toList)).take ps.length = ps.map (·.data.toList) := List.take_of_length_le (by simp)
        have Hgood := Lib.hid (show Ad.good s.data.toList = true by
          unfold Ad.good
          rw [← Hq.out, List.length_map, decide_eq_true H4.out, Bool.true_and, List.all_eq_true]
          intro p hp
          rw [hta] at hg
          exact decide_eq_true (hg p hp))
        have Hf := Lib.hid (show Ad.fold ((ps.map (·.data.toList)).take ps.length) 0 = Ad.addrOut s.data.toList by
          unfold Ad.addrOut
          rw [if_pos Hgood.out, hta, Hq.out])
        rw [Hf.out]
        have He := Lib.hid (show Ad.addrErr s.data.toList = 0 by unfold Ad.addrErr; rw [if_pos Hgood.out])
        clear hg hta hk hlt
        go_wp2
        go_ret2
        rw [He.out]
        exact ⟨rfl, HB1.out.trans (hB.mono HB1.out.size)⟩
  · have d4 : ((ps.length : Int) != 4) = true := by simp; omega
    have Hbad := Lib.hid (addr_bad s.data.toList (by unfold Ad.good; rw [decide_eq_false hq]; rfl))
    clear h4 hq
    go_wp2
    go_ret2
    rw [Hbad.out.1, Hbad.out.2]
    exact ⟨rfl, HB1.out⟩
end Go.Proofs.YthlagpmacnijfaaGreatDoor
