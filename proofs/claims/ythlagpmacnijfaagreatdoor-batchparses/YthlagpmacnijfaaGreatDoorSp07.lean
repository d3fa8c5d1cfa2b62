/- What the calls of chapter 12 hand back. -/
import Derived.Test.YthlagpmacnijfaaGreatDoorSp05
import Derived.Test.YthlagpmacnijfaaGreatDoorConv
import Derived.Test.YthlagpmacnijfaaGreatDoorSp06
import Derived.BigRegion
import Derived.IntWalk
import Derived.Test.YthlagpmacnijfaaGreatDoorSp04
import Derived.Test.YthlagpmacnijfaaGreatDoorBatchMem
namespace Go.Proofs.YthlagpmacnijfaaGreatDoor
open Go.RowKit

theorem key_cases (c : UInt8) : (Ln.inKey c = true ∧ ((c.toNat : Int) != 95) = false) ∨ (Ln.inKey c = true ∧ ((c.toNat : Int) != 95) = true ∧ decide ((c.toNat : Int) < 97) = false ∧ decide ((122 : Int) < (c.toNat : Int)) = false) ∨
    (Ln.inKey c = false ∧ ((c.toNat : Int) != 95) = true ∧ decide ((c.toNat : Int) < 97) = true) ∨ (Ln.inKey c = false ∧ ((c.toNat : Int) != 95) = true ∧ decide ((c.toNat : Int) < 97) = false ∧ decide ((122 : Int) < (c.toNat : Int)) = true) := by
  by_cases h : c.toNat = 95
  · exact .inl ⟨by unfold Ln.inKey; rw [decide_eq_true h, Bool.or_true], by simp; omega⟩
  have h0 : ((c.toNat : Int) != 95) = true := by simp; omega
  by_cases h1 : 97 ≤ c.toNat
  · by_cases h2 : c.toNat ≤ 122
    · exact .inr (.inl ⟨by unfold Ln.inKey; rw [decide_eq_true ⟨h1, h2⟩]; rfl, h0, decide_eq_false (by omega), decide_eq_false (by omega)⟩)
    · exact .inr (.inr (.inr ⟨by unfold Ln.inKey; rw [decide_eq_false (by omega), decide_eq_false h]; rfl, h0, decide_eq_false (by omega), decide_eq_true (by omega)⟩))
  · exact .inr (.inr (.inl ⟨by unfold Ln.inKey; rw [decide_eq_false (by omega), decide_eq_false h]; rfl, h0, decide_eq_true (by omega)⟩))
theorem val_cases (c : UInt8) : (Ln.inVal c = true ∧ decide ((c.toNat : Int) < 33) = false ∧ decide ((126 : Int) < (c.toNat : Int)) = false) ∨ (Ln.inVal c = false ∧ decide ((c.toNat : Int) < 33) = true) ∨
    (Ln.inVal c = false ∧ decide ((c.toNat : Int) < 33) = false ∧ decide ((126 : Int) < (c.toNat : Int)) = true) := by
  unfold Ln.inVal
  by_cases h1 : 33 ≤ c.toNat
  · by_cases h2 : c.toNat ≤ 126
    · exact .inl ⟨decide_eq_true ⟨h1, h2⟩, decide_eq_false (by omega), decide_eq_false (by omega)⟩
    · exact .inr (.inr ⟨decide_eq_false (by omega), decide_eq_false (by omega), decide_eq_true (by omega)⟩)
  · exact .inr (.inl ⟨decide_eq_false (by omega), decide_eq_true (by omega)⟩)
theorem all_step {P : UInt8 → Bool} (s : ByteArray) (k : Nat) (hk : k < s.size) (ha : (s.data.toList.take k).all P = true) (hp : P s[k] = true) : (s.data.toList.take (k + 1)).all P = true := by
  have e : s.data.toList.take (k + 1) = s.data.toList.take k ++ [s[k]] := List.take_succ_eq_append_getElem (by simpa using hk)
  rw [e, List.all_append, ha]; simp [hp]
theorem all_no {P : UInt8 → Bool} (s : ByteArray) (k : Nat) (hk : k < s.size) (hp : P s[k] = false) : s.data.toList.all P = false := by
  rw [List.all_eq_false]
  exact ⟨s[k], List.getElem_mem (l := s.data.toList) (by simpa using hk), by simp [hp]⟩
theorem all_end {P : UInt8 → Bool} (s : ByteArray) (k : Nat) (hk : ¬ k < s.size) (ha : (s.data.toList.take k).all P = true) : s.data.toList.all P = true := by
  rwa [List.take_of_length_le (by simp; omega)] at ha

set_option maxRecDepth 20000 in
set_option maxHeartbeats 1600000 in
theorem ref_LineFault (x : Ln.L) (w : World) : Calls Tryz.prog 40 #[lineV x] w fun e w' => e = .returned (.int .i64 (Ln.err x : Int)) ∧ Below w.heap.size w w' := by
  obtain ⟨s, v⟩ := x
  have HC := Lib.hid (sized_cases ⟨s, v⟩)
  obtain ⟨w1, hw1⟩ : ∃ w1, w1 = w.alloc (.cells #[.string s, .string v] 23) := ⟨_, rfl⟩
  have hB : Below w.heap.size w w1 := by rw [hw1]; exact (Below.refl _ _).alloc (Nat.le_refl _) _
  have HB := Lib.hid hB
  have hb : Blk w1 w.heap.size 23 [.string s, .string v] := by rw [hw1]; exact Blk.new _ _ _
  have Hb := Lib.hid hb
  have c0 := hb.cell 0 rfl
  have c1 := hb.cell 1 rfl
  clear hB hb
  unfold lineV
  rcases HC.out with ⟨hz, h⟩ | ⟨hz, d0, d1, d2, z1, z2⟩
  · have Hr := Lib.hid (Ln.err_size hz)
    clear HC hz
    rcases h with d0 | ⟨d0, d1⟩ | ⟨d0, d1, d2⟩
    all_goals
      go_enter Tryz.func40, Tryz.ntmps40
      go_wp2
      rw [← hw1]
      go_ret
      rw [Hr.out]
      exact ⟨rfl, HB.out⟩
  · clear HC
    obtain ⟨w2, cap, hrun, hsz2, hbel2, hcs2⟩ := conv_string s w1
    have Hcs := Lib.hid hcs2
    have HB2 := Lib.hid (HB.out.trans (hbel2.mono HB.out.size))
    have Hb2 := Lib.hid (Hb.out.kept hbel2)
    have Hz := Lib.hid hz
    have hsm : s.size ≤ 30 := z1
    clear hsz2 hbel2 hcs2 z1 z2 hz
    obtain ⟨g1, hg1⟩ : ∃ g1, g1 = w1.heap.size := ⟨_, rfl⟩
    rw [← hg1] at hrun Hcs
    rw [hw1] at hrun
    clear hw1 hg1 c0 c1
    go_enter Tryz.func40, Tryz.ntmps40
    go_wp2
    clear hrun
    go_loopw [4, 26] (fun c i wr => ∃ k : Nat, k ≤ s.size ∧ i = .int .i64 k ∧ Hid ((s.data.toList.take k).all Ln.inKey = true) ∧ Hid (wr = w2)) (fun _ i _ => s.size - (intOf i).toNat)
    case atStart => exact ⟨0, Nat.zero_le _, rfl, Lib.hid (by simp), Lib.hid rfl⟩
    case round =>
      obtain ⟨k, hk, rfl, Ha, Hw⟩ := hrel
      by_cases hlt : k < s.size
      · have hcell : wr.cell? ⟨g1, k, none⟩ = some (.int .u8 (s[k].toNat : Int)) := by rw [Hw.out]; exact Hcs.out k hlt
        have Hst := Lib.hid (fun hp => all_step (P := Ln.inKey) s k hlt Ha.out hp)
        have Hno := Lib.hid (fun hp => Ln.err_form (x := ⟨s, v⟩) Hz.out (show Ln.formed ⟨s, v⟩ = false by unfold Ln.formed; rw [all_no s k hlt hp]; rfl))
        have KC := Lib.hid (key_cases s[k])
        generalize s[k] = c at *
        rcases KC.out with ⟨hp, e0⟩ | ⟨hp, e0, e1, e2⟩ | ⟨hp, e0, e1⟩ | ⟨hp, e0, e1, e2⟩
        · have Hn := Lib.hid (Hst.out hp)
          clear KC hp Hst Hno
          go_wp2
          go_roundw
          case rel => exact ⟨k + 1, by omega, by go_num, Hn, Hw⟩
          case measure => simp [intOf]; omega
        · have Hn := Lib.hid (Hst.out hp)
          clear KC hp Hst Hno
          go_wp2
          go_roundw
          case rel => exact ⟨k + 1, by omega, by go_num, Hn, Hw⟩
          case measure => simp [intOf]; omega
        · have Hn := Lib.hid (Hno.out hp)
          clear KC hp Hst Hno
          go_wp2
          go_ret
          rw [Hn.out]
          exact ⟨rfl, by rw [Hw.out]; exact HB2.out⟩
        · have Hn := Lib.hid (Hno.out hp)
          clear KC hp Hst Hno
          go_wp2
          go_ret
          rw [Hn.out]
          exact ⟨rfl, by rw [Hw.out]; exact HB2.out⟩
      · have Hk := Lib.hid (all_end s k hlt Ha.out)
        obtain ⟨w3, cap3, hrun3, hsz3, hbel3, hcs3⟩ := conv_string v wr
        have c0 : wr.cell? ⟨w.heap.size, 1, none⟩ = some (.string v) := by rw [Hw.out]; exact Hb2.out.cell 1 rfl
        have Hcs3 := Lib.hid hcs3
        have HB3 := Lib.hid (show Below w.heap.size w w3 by rw [Hw.out] at hbel3; exact HB2.out.trans (hbel3.mono HB2.out.size))
        have hvm : v.size ≤ 70 := by have : ¬ (70 : Int) < (v.size : Int) := of_decide_eq_false d2; omega
        clear hsz3 hbel3 hcs3 Ha Hcs
        obtain ⟨g3, hg3⟩ : ∃ g3, g3 = wr.heap.size := ⟨_, rfl⟩
        rw [← hg3] at hrun3 Hcs3
        clear hg3
        go_wp2
        clear hrun3 c0
        go_loopw [6, 45] (fun c i wr => ∃ k : Nat, k ≤ v.size ∧ i = .int .i64 k ∧ Hid ((v.data.toList.take k).all Ln.inVal = true) ∧ Hid (wr = w3)) (fun _ i _ => v.size - (intOf i).toNat)
        case atStart => exact ⟨0, Nat.zero_le _, rfl, Lib.hid (by simp), Lib.hid rfl⟩
        case round =>
          obtain ⟨j, hj, rfl, Ha, Hw3⟩ := hrel
          obtain ⟨wo, hwo⟩ : ∃ wo, wo = wr := ⟨_, rfl⟩
          subst hwo
          by_cases hlt3 : j < v.size
          · have hcell : wo.cell? ⟨g3, j, none⟩ = some (.int .u8 (v[j].toNat : Int)) := by rw [Hw3.out]; exact Hcs3.out j hlt3
            have Hst := Lib.hid (fun hp => all_step (P := Ln.inVal) v j hlt3 Ha.out hp)
            have Hno := Lib.hid (fun hp => Ln.err_form (x := ⟨s, v⟩) Hz.out (show Ln.formed ⟨s, v⟩ = false by unfold Ln.formed; rw [all_no v j hlt3 hp, Bool.and_false]))
            have KC := Lib.hid (val_cases v[j])
            generalize v[j] = c at *
            rcases KC.out with ⟨hp, e0, e1⟩ | ⟨hp, e0⟩ | ⟨hp, e0, e1⟩
            · have Hn := Lib.hid (Hst.out hp)
              clear KC hp Hst Hno
              go_wp2
              go_roundw
              case rel => exact ⟨j + 1, by omega, by go_num, Hn, Hw3⟩
              case measure => simp [intOf]; omega
            · have Hn := Lib.hid (Hno.out hp)
              clear KC hp Hst Hno
              go_wp2
              go_ret
              rw [Hn.out]
              exact ⟨rfl, by rw [Hw3.out]; exact HB3.out⟩
            · have Hn := Lib.hid (Hno.out hp)
              clear KC hp Hst Hno
              go_wp2
              go_ret
              rw [Hn.out]
              exact ⟨rfl, by rw [Hw3.out]; exact HB3.out⟩
          · have Hn := Lib.hid (Ln.err_ok (x := ⟨s, v⟩) Hz.out (show Ln.formed ⟨s, v⟩ = true by unfold Ln.formed; rw [Hk.out, all_end v j hlt3 Ha.out]; rfl))
            go_wp2
            go_ret
            rw [Hn.out]
            exact ⟨rfl, by rw [Hw3.out]; exact HB3.out⟩
end Go.Proofs.YthlagpmacnijfaaGreatDoor

namespace Go.Proofs.YthlagpmacnijfaaGreatDoor
open Go.RowKit

theorem isEmpty_size (s : ByteArray) : s.toList.isEmpty = decide (s.size = 0) := by
  rw [ByteArray.toList_eq]
  have : s.data.toList.length = s.size := by simp
  cases h : s.data.toList with
  | nil =>
    have hz : s.size = 0 := by rw [h] at this; exact this.symm
    rw [hz]; rfl
  | cons a r =>
    have hz : s.size ≠ 0 := by rw [h, List.length_cons] at this; omega
    rw [decide_eq_false hz]; rfl
theorem lib_CountAt (s : ByteArray) (c : UInt8) (w : World) :
    Calls Tryz.prog 39 #[.string s, .string ⟨#[c]⟩] w fun e w' => e = .returned (.int .i64 (s.data.toList.count c : Int)) ∧ w' = w := Tryz.strings_Count_one s c w
theorem pieces_count (s : ByteArray) : s.data.toList.count 10 = (Ln.pieces s).length - 1 ∧ 1 ≤ (Ln.pieces s).length := by rw [Ln.pieces_length]; omega
theorem count_le (s : ByteArray) : s.data.toList.count 10 ≤ s.size := by
  have := List.count_le_length (a := (10 : UInt8)) (l := s.data.toList)
  simpa using this

set_option maxRecDepth 20000 in
set_option maxHeartbeats 1600000 in
theorem ref_LinesOf (s : ByteArray) (w : World) (hM : MaxTab w) : Calls Tryz.prog 21 #[.string s] w (SplitPost s w) := by
  by_cases h3 : 3000 < s.size
  · have hb : Ln.sBad s = (0, 1) := by unfold Ln.sBad; rw [if_pos h3]
    have Hr := Lib.hid (splitPost_err (w := w) hb (sOut_err hb (by decide)) (Below.refl _ _))
    clear hb
    go_enter Tryz.func21, Tryz.ntmps21
    go_wp2
    go_ret3
    exact Hr.out
  have hse := isEmpty_size s
  have HK := lib_CountAt s 10 w
  have hcl := count_le s
  obtain ⟨hc1, hc2⟩ := pieces_count s
  by_cases h60 : 60 < (Ln.pieces s).length
  · have h0 : s.size ≠ 0 := by omega
    have hb : Ln.sBad s = (0, 1) := by unfold Ln.sBad; rw [if_neg h3, if_neg h0, if_pos h60]
    have Hr := Lib.hid (splitPost_err (w := w) hb (sOut_err hb (by decide)) (Below.refl _ _))
    have d60 : decide ((59 : Int) < ((s.data.toList.count 10 : Nat) : Int)) = true := decide_eq_true (by omega)
    clear hb hse h0 hc1 hc2 h60
    generalize s.data.toList.count 10 = q at *
    go_enter Tryz.func21, Tryz.ntmps21
    go_wp2_with fail
    refine HK.mono ?_
    rintro e w1 ⟨rfl, rfl⟩
    go_wp2
    go_ret3
    exact Hr.out
  have d60 : decide ((59 : Int) < ((s.data.toList.count 10 : Nat) : Int)) = false := decide_eq_false (by omega)
  have hq : s.data.toList.count 10 ≤ 59 := by omega
  have Hc := Lib.hid hc1
  clear hc1
  generalize s.data.toList.count 10 = q at *
  by_cases h0 : s.size = 0
  · have hb : Ln.sBad s = (0, 0) := by unfold Ln.sBad; rw [if_neg h3, if_pos h0]
    have Hr := Lib.hid (splitPost_err (w := w) hb (by unfold Ln.sOut; rw [if_neg (fun e => e.2 h0)]) (Below.refl _ _))
    rw [decide_eq_true h0] at hse
    clear hb h0
    go_enter Tryz.func21, Tryz.ntmps21
    go_wp2_with fail
    refine HK.mono ?_
    rintro e w1 ⟨rfl, rfl⟩
    go_wp2
    go_ret3
    exact Hr.out
  rw [decide_eq_false h0] at hse
  have HS := lib_Split s 10 w (by omega) hM
  have hs3 : s.size ≤ 3000 := by omega
  have H0 := Lib.hid h0
  have H60 := Lib.hid h60
  clear hM h0 hc2 h60 hq hcl
  go_enter Tryz.func21, Tryz.ntmps21
  go_wp2_with fail
  refine HK.mono ?_
  rintro e w0 ⟨rfl, rfl⟩
  go_wp2_with fail
  refine HS.mono ?_
  rintro e w1 ⟨ps, rfl, Hp, hl, hpl, hcell, hz1, hb1⟩
  have Hps := Lib.hid (Ln.pieces_of Hp.out)
  have Hc := Lib.hid hcell
  have Hpl := Lib.hid hpl
  have HB1 := Lib.hid hb1
  have Hz1 := Lib.hid hz1
  clear hcell hpl hb1 HS HK Hp hl hz1
  have h60 : ¬ 60 < ps.length := by rw [Hps.out]; exact H60.out
  have Hb : Hid (Ln.sBad s = Ln.wrong 0 ps) := Lib.hid (by unfold Ln.sBad; rw [if_neg h3, if_neg H0.out, ← Hps.out, if_neg h60])
  go_wp2
  go_loopw [5, 24] (fun v i wr => ∃ k : Nat, k ≤ ps.length ∧ i = .int .i64 k ∧ Hid (∀ p ∈ ps.take k, Ln.pErr p = 0) ∧ Hid (OwnL wr w1.heap.size v ((ps.take k).map Ln.line)) ∧ Hid (Below w1.heap.size w1 wr)) (fun _ i _ => ps.length - (intOf i).toNat)
  case atStart => exact ⟨0, Nat.zero_le _, rfl, Lib.hid (fun x hx => by simp at hx), Lib.hid (OwnL.nil _ _), Lib.hid (Below.refl _ _)⟩
  case round =>
    obtain ⟨k, hk, rfl, Ha, HO, HBr⟩ := hrel
    obtain ⟨wo, hwo⟩ : ∃ wo, wo = wr := ⟨_, rfl⟩
    subst hwo
    by_cases hlt : k < ps.length
    · have hcell : wo.cell? ⟨w0.heap.size, k, none⟩ = some (.string ps[k]) := by
        rw [HBr.out.cell (show (⟨w0.heap.size, k, none⟩ : Addr).block < w1.heap.size by show w0.heap.size < _; have := Hz1.out; omega)]
        exact Hc.out k hlt
      have hps := Hpl.out _ (List.getElem_mem hlt)
      have HI := Lib.hid (lib_Index ps[k] 61 wo)
      have Ht : Hid (ps.take (k + 1) = ps.take k ++ [ps[k]]) := Lib.hid (List.take_succ_eq_append_getElem hlt)
      have Htl : Hid ((ps.take k).length = k) := Lib.hid (by rw [List.length_take]; omega)
      have Hf := Lib.hid (fun hn => Ln.wrong_at ps 0 k hlt Ha.out hn)
      generalize ps[k] = p at *
      have hsz := HBr.out.size
      by_cases hat : Ln.at_ p < 0
      · have he : Ln.pErr p = 3 := by unfold Ln.pErr; rw [if_pos hat]
        have hb : Ln.sBad s = (k + 1, 3) := by rw [Hb.out, Hf.out (by rw [he]; decide), he, Nat.zero_add]
        have ho := sOut_err hb (by decide)
        have Hr := Lib.hid (splitPost_err (w := w0) hb ho (HB1.out.trans (HBr.out.mono HB1.out.size)))
        change Hid (Calls _ _ _ _ (fun e w' => e = .returned (.int .i64 (Ln.at_ p)) ∧ w' = wo)) at HI
        clear hb ho he Hf
        generalize Ln.at_ p = j at *
        go_wp2_with fail
        refine HI.out.mono ?_
        rintro e w2 ⟨rfl, rfl⟩
        go_wp2
        go_ret3
        have h := Hr.out
        rwa [Int.natCast_add] at h
      · obtain ⟨j, hj⟩ : ∃ j : Nat, Ln.at_ p = (j : Int) := ⟨(Ln.at_ p).toNat, by omega⟩
        have hjl : j < p.size := by
          obtain ⟨h1, _⟩ := Lib.indexByte_some (l := p.data.toList) (c := 61) (o := j) hj
          by_cases hl : j < p.data.toList.length
          · simpa using hl
          · rw [List.getElem?_eq_none (by omega)] at h1; cases h1
        change Hid (Calls _ _ _ _ (fun e w' => e = .returned (.int .i64 (Ln.at_ p)) ∧ w' = wo)) at HI
        have hpe : Ln.pErr p = Ln.err (Ln.line p) := by unfold Ln.pErr; rw [if_neg hat]
        have hX : p.extract 0 j = (Ln.line p).k := by unfold Ln.line; rw [hj, Int.toNat_natCast]
        have hY : p.extract (j + 1) p.size = (Ln.line p).v := by unfold Ln.line; rw [hj, Int.toNat_natCast]
        have Hm : Hid ((ps.take (k + 1)).map Ln.line = (ps.take k).map Ln.line ++ [Ln.line p]) := Lib.hid (by rw [Ht.out, List.map_append, List.map_singleton])
        rw [hj] at HI
        rw [hpe] at Hf
        have Hpe := Lib.hid hpe
        have hs1 : IntKind.i64.wrap ((j : Int) + 1) = (j : Int) + 1 := IntWalk.i64_in _ (by omega)
        clear hat hj hpe
        generalize Ln.line p = L at *
        have HC := Lib.hid (fun W => ref_LineFault L W)
        obtain ⟨X, Y⟩ := L
        unfold lineV at HC
        simp only at hX hY
        go_wp2_with fail
        refine HI.out.mono ?_
        rintro e w2 ⟨rfl, rfl⟩
        clear HI hcell
        go_wp2_with fail
        go_region
        go_wp2_with fail
        have hA : Below w2.heap.size w2 (w2.alloc (.cells #[.string X, .string Y] 23)).drew := ((Below.refl _ _).alloc (Nat.le_refl _) _).drew
        have hnew : Blk (w2.alloc (.cells #[.string X, .string Y] 23)).drew w2.heap.size 23 [.string X, .string Y] := (Blk.new w2 23 [.string X, .string Y]).kept ((Below.refl _ _).drew)
        by_cases he : Ln.err ⟨X, Y⟩ = 0
        · have Hn := Lib.hid (show ∀ y ∈ ps.take (k + 1), Ln.pErr y = 0 by
            intro y hy
            rw [Ht.out] at hy
            rcases List.mem_append.1 hy with hy | hy
            · exact Ha.out y hy
            · rw [List.mem_singleton.1 hy, Hpe.out]; exact he)
          rw [he] at HC
          clear he Hf Hpe hX hY
          refine (HC.out _).mono ?_
          rintro e w3 ⟨rfl, hb3⟩
          have hN3 := hnew.kept hb3
          have n0 := hN3.cell 0 rfl
          have n1 := hN3.cell 1 rfl
          have hAB := hA.trans (hb3.mono hA.size)
          have HO3 := Lib.hid ((HO.out.below hAB).alloc (.cells #[.string X, .string Y] 23))
          have HB3 := Lib.hid (HBr.out.trans (hAB.mono hsz))
          have Hnw := Lib.hid (news_line w3 ⟨X, Y⟩ 23)
          have hnl : ((ps.take k).map Ln.line).length + 1 ≤ 3518437208883 := by rw [List.length_map, Htl.out]; omega
          have hlt3 : w1.heap.size ≤ w3.heap.size := HB3.out.size
          have hlt4 : w1.heap.size ≤ (w3.alloc (.cells #[.string X, .string Y] 23)).heap.size := by simp; omega
          clear hN3 hAB hA hnew hb3 HC HO
          generalize (ps.take k).map Ln.line = D at *
          go_wp2_with (at_builtin; refine wpL_append_line _ rfl _ _ rfl w1.heap.size _ D rfl HO3.out _ 1 _ [⟨X, Y⟩] rfl rfl Hnw.out hnl hlt4 ?_)
          intro v' w4 hO4 hb4
          have HB4 := Lib.hid ((HB3.out.alloc HB3.out.size _).trans hb4)
          rw [← Hm.out] at hO4
          have HO4 := Lib.hid hO4
          clear hO4 hb4
          go_wp2
          go_roundw
          case rel => exact ⟨k + 1, by omega, by go_num, Hn, HO4, HB4⟩
          case measure => simp [intOf]; omega
        · have hb : Ln.sBad s = (k + 1, Ln.err ⟨X, Y⟩) := by rw [Hb.out, Hf.out he, Nat.zero_add]
          have hn : ((Ln.err ⟨X, Y⟩ : Int) != 0) = true := by simpa using he
          have ho := sOut_err hb he
          clear he Hf Hpe hX hY
          generalize Ln.err ⟨X, Y⟩ = r at *
          have Hr := Lib.hid (fun w' hB' => splitPost_err (w := w0) (w' := w') hb ho hB')
          clear hb ho
          refine (HC.out _).mono ?_
          rintro e w3 ⟨rfl, hb3⟩
          have HB3 := Lib.hid (HB1.out.trans ((HBr.out.trans ((hA.trans (hb3.mono hA.size)).mono hsz)).mono HB1.out.size))
          clear hA hnew hb3 HC
          go_wp2
          go_ret3
          have h := Hr.out _ HB3.out
          rwa [Int.natCast_add] at h
    · obtain rfl : k = ps.length := by omega
      have htk : ps.take ps.length = ps := List.take_of_length_le (Nat.le_refl _)
      rw [htk] at Ha HO
      have Hw := Lib.hid (Ln.wrong_good ps 0 Ha.out)
      have ho : Hid (Ln.sOut s = ps.map Ln.line) := Lib.hid (by unfold Ln.sOut; rw [Hb.out, Hw.out, if_pos ⟨rfl, H0.out⟩, ← Hps.out])
      obtain ⟨a, c, rfl, hat⟩ := HO.out.at
      have HL := Lib.hid hat
      have HBf := Lib.hid (HB1.out.trans (HBr.out.mono HB1.out.size))
      clear htk hat
      go_wp2
      go_ret3
      refine ⟨⟨a, c, ?_, ?_⟩, HBf.out⟩
      · rw [Hb.out, Hw.out, ho.out]; rfl
      · rw [ho.out]; exact HL.out
end Go.Proofs.YthlagpmacnijfaaGreatDoor

namespace Go.Proofs.YthlagpmacnijfaaGreatDoor.Bt

/-- The lines of a text that is split have no fault, and are few. -/
theorem lines_ok {s : ByteArray} (h : (Ln.sBad s).2 = 0) : (∀ x ∈ Ln.sOut s, Ln.err x = 0) ∧ (Ln.sOut s).length ≤ 60 := by
  obtain ⟨_, h2, _⟩ := Ln.join_split h
  unfold Ln.jErr at h2
  split at h2
  · cases h2
  rename_i h60
  split at h2
  · rename_i hf; exact absurd h2 hf
  rename_i hf
  exact ⟨Ln.fault_back _ (by simpa using hf), by omega⟩
theorem pOut_err {s : ByteArray} (h : (pBad s).2 ≠ 0) : pOut s = [] := by unfold pOut; rw [if_neg h]
theorem pBad_split {s : ByteArray} (h : (Ln.sBad s).2 ≠ 0) : pBad s = Ln.sBad s := by unfold pBad; rw [if_pos h]
theorem pBad_wrong {s : ByteArray} (h : (Ln.sBad s).2 = 0) : pBad s = wrong 0 (Ln.sOut s) := by unfold pBad; rw [if_neg (fun e => e h)]
end Go.Proofs.YthlagpmacnijfaaGreatDoor.Bt

namespace Go.Proofs.YthlagpmacnijfaaGreatDoor
open Go.RowKit

/-- What Parse hands back. -/
def ParsePost (s : ByteArray) (w : World) (e : Ending) (w' : World) : Prop :=
  (∃ a c, e = .returned (.tuple #[.slice a (Bt.pOut s).length c, .int .i64 ((Bt.pBad s).1 : Int), .int .i64 ((Bt.pBad s).2 : Int)]) ∧ SetsAt w' w'.heap.size a (Bt.pOut s).length (Bt.pOut s)) ∧ Below w.heap.size w w'
theorem parsePost_err {s : ByteArray} {w w' : World} {i r : Nat} (hb : Bt.pBad s = (i, r)) (hr : r ≠ 0) (hB : Below w.heap.size w w') : ParsePost s w (.returned (.tuple #[.slice none 0 0, .int .i64 (i : Int), .int .i64 (r : Int)])) w' := by
  have ho := Bt.pOut_err (s := s) (by rw [hb]; exact hr)
  refine ⟨⟨none, 0, ?_, ?_⟩, hB⟩
  · rw [hb, ho]; rfl
  · rw [ho]; exact SetsAt.nil _ _ _
/-- What a list of settings may hold. -/
def SetsOk (l : List Bt.S) : Prop := ∀ s ∈ l, s.t.size ≤ 1048576 ∧ s.a < 4294967296 ∧ -9223372036854775808 ≤ s.n ∧ s.n ≤ 9223372036854775807
end Go.Proofs.YthlagpmacnijfaaGreatDoor
