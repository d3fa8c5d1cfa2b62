/- The contract of the reference's LinesOf. -/
import Derived.Test.YtldfamdjdkaloabDoorLineCode4
import Derived.Test.YtldfamdjdkaloabDoorLineRef1
import Derived.BigRegion
import Derived.IntWalk
namespace Go.Proofs.YtldfamdjdkaloabDoor
open Go.RowKit

theorem isEmpty_size (s : ByteArray) : s.toList.isEmpty = decide (s.size = 0) := by
  rw [ByteArray.toList_eq]
  have : s.data.toList.length = s.size := by simp
  cases h : s.data.toList with
  | nil =>
    have hz : s.size = 0 := by rw [h] at this; exact this.symm
    rw [hz]; rfl
  | cons a r =>
    have hz : s.size ≠ 0 := by rw [h, List.length_cons] at this; omega
    rw [decide_eq_false hz]; rfl
theorem lib_CountAt (s : ByteArray) (c : UInt8) (w : World) :
    Calls Tryd.prog 14 #[.string s, .string ⟨#[c]⟩] w fun e w' => e = .returned (.int .i64 (s.data.toList.count c : Int)) ∧ w' = w := Tryd.strings_Count_one s c w
theorem pieces_count (s : ByteArray) : s.data.toList.count 10 = (Ln.pieces s).length - 1 ∧ 1 ≤ (Ln.pieces s).length := by rw [Ln.pieces_length]; omega
theorem count_le (s : ByteArray) : s.data.toList.count 10 ≤ s.size := by
  have := List.count_le_length (a := (10 : UInt8)) (l := s.data.toList)
  simpa using this

set_option maxRecDepth 20000 in
set_option maxHeartbeats 1600000 in
theorem ref_LinesOf (s : ByteArray) (w : World) (hM : MaxTab w) : Calls Tryd.prog 9 #[.string s] w (SplitPost s w) := by
  by_cases h3 : 3000 < s.size
  · have hb : Ln.sBad s = (0, 1) := by unfold Ln.sBad; rw [if_pos h3]
    have Hr := Lib.hid (splitPost_err (w := w) hb (sOut_err hb (by decide)) (Below.refl _ _))
    clear hb
    go_enter Tryd.func9, Tryd.ntmps9
    go_wp2
    go_ret3
    exact Hr.out
  have hse := isEmpty_size s
  have HK := lib_CountAt s 10 w
  have hcl := count_le s
  obtain ⟨hc1, hc2⟩ := pieces_count s
  by_cases h60 : 60 < (Ln.pieces s).length
  · have h0 : s.size ≠ 0 := by omega
    have hb : Ln.sBad s = (0, 1) := by unfold Ln.sBad; rw [if_neg h3, if_neg h0, if_pos h60]
    have Hr := Lib.hid (splitPost_err (w := w) hb (sOut_err hb (by decide)) (Below.refl _ _))
    have d60 : decide ((59 : Int) < ((s.data.toList.count 10 : Nat) : Int)) = true := decide_eq_true (by omega)
    clear hb hse h0 hc1 hc2 h60
    generalize s.data.toList.count 10 = q at *
    go_enter Tryd.func9, Tryd.ntmps9
    go_wp2_with fail
    refine HK.mono ?_
    rintro e w1 ⟨rfl, rfl⟩
    go_wp2
    go_ret3
    exact Hr.out
  have d60 : decide ((59 : Int) < ((s.data.toList.count 10 : Nat) : Int)) = false := decide_eq_false (by omega)
  have hq : s.data.toList.count 10 ≤ 59 := by omega
  have Hc := Lib.hid hc1
  clear hc1
  generalize s.data.toList.count 10 = q at *
  by_cases h0 : s.size = 0
  · have hb : Ln.sBad s = (0, 0) := by unfold Ln.sBad; rw [if_neg h3, if_pos h0]
    have Hr := Lib.hid (splitPost_err (w := w) hb (by unfold Ln.sOut; rw [if_neg (fun e => e.2 h0)]) (Below.refl _ _))
    rw [decide_eq_true h0] at hse
    clear hb h0
    go_enter Tryd.func9, Tryd.ntmps9
    go_wp2_with fail
    refine HK.mono ?_
    rintro e w1 ⟨rfl, rfl⟩
    go_wp2
    go_ret3
    exact Hr.out
  rw [decide_eq_false h0] at hse
  have HS := lib_Split s 10 w (by omega) hM
  have hs3 : s.size ≤ 3000 := by omega
  have H0 := Lib.hid h0
  have H60 := Lib.hid h60
  clear hM h0 hc2 h60 hq hcl
  go_enter Tryd.func9, Tryd.ntmps9
  go_wp2_with fail
  refine HK.mono ?_
  rintro e w0 ⟨rfl, rfl⟩
  go_wp2_with fail
  refine HS.mono ?_
  rintro e w1 ⟨ps, rfl, Hp, hl, hpl, hcell, hz1, hb1⟩
  have Hps := Lib.hid (Ln.pieces_of Hp.out)
  have Hc := Lib.hid hcell
  have Hpl := Lib.hid hpl
  have HB1 := Lib.hid hb1
  have Hz1 := Lib.hid hz1
  clear hcell hpl hb1 HS HK Hp hl hz1
  have h60 : ¬ 60 < ps.length := by rw [Hps.out]; exact H60.out
  have Hb : Hid (Ln.sBad s = Ln.wrong 0 ps) := Lib.hid (by unfold Ln.sBad; rw [if_neg h3, if_neg H0.out, ← Hps.out, if_neg h60])
  go_wp2
  go_loopw [5, 24] (fun v i wr => ∃ k : Nat, k ≤ ps.length ∧ i = .int .i64 k ∧ Hid (∀ p ∈ ps.take k, Ln.pErr p = 0) ∧ Hid (OwnL wr w1.heap.size v ((ps.take k).map Ln.line)) ∧ Hid (Below w1.heap.size w1 wr)) (fun _ i _ => ps.length - (intOf i).toNat)
  case atStart => exact ⟨0, Nat.zero_le _, rfl, Lib.hid (fun x hx => by simp at hx), Lib.hid (OwnL.nil _ _), Lib.hid (Below.refl _ _)⟩
  case round =>
    obtain ⟨k, hk, rfl, Ha, HO, HBr⟩ := hrel
    obtain ⟨wo, hwo⟩ : ∃ wo, wo = wr := ⟨_, rfl⟩
    subst hwo
    by_cases hlt : k < ps.length
    · have hcell : wo.cell? ⟨w0.heap.size, k, none⟩ = some (.string ps[k]) := by
        rw [HBr.out.cell (show (⟨w0.heap.size, k, none⟩ : Addr).block < w1.heap.size by show w0.heap.size < _; have := Hz1.out; omega)]
        exact Hc.out k hlt
      have hps := Hpl.out _ (List.getElem_mem hlt)
      have HI := Lib.hid (lib_Index ps[k] 61 wo)
      have Ht : Hid (ps.take (k + 1) = ps.take k ++ [ps[k]]) := Lib.hid (List.take_succ_eq_append_getElem hlt)
      have Htl : Hid ((ps.take k).length = k) := Lib.hid (by rw [List.length_take]; omega)
      have Hf := Lib.hid (fun hn => Ln.wrong_at ps 0 k hlt Ha.out hn)
      generalize ps[k] = p at *
      have hsz := HBr.out.size
      by_cases hat : Ln.at_ p < 0
      · have he : Ln.pErr p = 3 := by unfold Ln.pErr; rw [if_pos hat]
        have hb : Ln.sBad s = (k + 1, 3) := by rw [Hb.out, Hf.out (by rw [he]; decide), he, Nat.zero_add]
        have ho := sOut_err hb (by decide)
        have Hr := Lib.hid (splitPost_err (w := w0) hb ho (HB1.out.trans (HBr.out.mono HB1.out.size)))
        change Hid (Calls _ _ _ _ (fun e w' => e = .returned (.int .i64 (Ln.at_ p)) ∧ w' = wo)) at HI
        clear hb ho he Hf
        generalize Ln.at_ p = j at *
        go_wp2_with fail
        refine HI.out.mono ?_
        rintro e w2 ⟨rfl, rfl⟩
        go_wp2
        go_ret3
        have h := Hr.out
        rwa [Int.natCast_add] at h
      · obtain ⟨j, hj⟩ : ∃ j : Nat, Ln.at_ p = (j : Int) := ⟨(Ln.at_ p).toNat, by omega⟩
        have hjl : j < p.size := by
          obtain ⟨h1, _⟩ := Lib.indexByte_some (l := p.data.toList) (c := 61) (o := j) hj
          by_cases hl : j < p.data.toList.length
          · simpa using hl
          · rw [List.getElem?_eq_none (by omega)] at h1; cases h1
        change Hid (Calls _ _ _ _ (fun e w' => e = .returned (.int .i64 (Ln.at_ p)) ∧ w' = wo)) at HI
        have hpe : Ln.pErr p = Ln.err (Ln.line p) := by unfold Ln.pErr; rw [if_neg hat]
        have hX : p.extract 0 j = (Ln.line p).k := by unfold Ln.line; rw [hj, Int.toNat_natCast]
        have hY : p.extract (j + 1) p.size = (Ln.line p).v := by unfold Ln.line; rw [hj, Int.toNat_natCast]
        have Hm : Hid ((ps.take (k + 1)).map Ln.line = (ps.take k).map Ln.line ++ [Ln.line p]) := Lib.hid (by rw [Ht.out, List.map_append, List.map_singleton])
        rw [hj] at HI
        rw [hpe] at Hf
        have Hpe := Lib.hid hpe
        have hs1 : IntKind.i64.wrap ((j : Int) + 1) = (j : Int) + 1 := IntWalk.i64_in _ (by omega)
        clear hat hj hpe
        generalize Ln.line p = L at *
        have HC := Lib.hid (fun W => ref_LineFault L W)
        obtain ⟨X, Y⟩ := L
        unfold lineV at HC
        simp only at hX hY
        go_wp2_with fail
        refine HI.out.mono ?_
        rintro e w2 ⟨rfl, rfl⟩
        clear HI hcell
        go_wp2_with fail
        go_region
        go_wp2_with fail
        have hA : Below w2.heap.size w2 (w2.alloc (.cells #[.string X, .string Y] 23)).drew := ((Below.refl _ _).alloc (Nat.le_refl _) _).drew
        have hnew : Blk (w2.alloc (.cells #[.string X, .string Y] 23)).drew w2.heap.size 23 [.string X, .string Y] := (Blk.new w2 23 [.string X, .string Y]).kept ((Below.refl _ _).drew)
        by_cases he : Ln.err ⟨X, Y⟩ = 0
        · have Hn := Lib.hid (show ∀ y ∈ ps.take (k + 1), Ln.pErr y = 0 by
            intro y hy
            rw [Ht.out] at hy
            rcases List.mem_append.1 hy with hy | hy
            · exact Ha.out y hy
            · rw [List.mem_singleton.1 hy, Hpe.out]; exact he)
          rw [he] at HC
          clear he Hf Hpe hX hY
          refine (HC.out _).mono ?_
          rintro e w3 ⟨rfl, hb3⟩
          have hN3 := hnew.kept hb3
          have n0 := hN3.cell 0 rfl
          have n1 := hN3.cell 1 rfl
          have hAB := hA.trans (hb3.mono hA.size)
          have HO3 := Lib.hid ((HO.out.below hAB).alloc (.cells #[.string X, .string Y] 23))
          have HB3 := Lib.hid (HBr.out.trans (hAB.mono hsz))
          have Hnw := Lib.hid (news_line w3 ⟨X, Y⟩ 23)
          have hnl : ((ps.take k).map Ln.line).length + 1 ≤ 3518437208883 := by rw [List.length_map, Htl.out]; omega
          have hlt3 : w1.heap.size ≤ w3.heap.size := HB3.out.size
          have hlt4 : w1.heap.size ≤ (w3.alloc (.cells #[.string X, .string Y] 23)).heap.size := by simp; omega
          clear hN3 hAB hA hnew hb3 HC HO
          generalize (ps.take k).map Ln.line = D at *
          go_wp2_with (at_builtin; refine wpL_append_line _ rfl _ _ rfl w1.heap.size _ D rfl HO3.out _ 1 _ [⟨X, Y⟩] rfl rfl Hnw.out hnl hlt4 ?_)
          intro v' w4 hO4 hb4
          have HB4 := Lib.hid ((HB3.out.alloc HB3.out.size _).trans hb4)
          rw [← Hm.out] at hO4
          have HO4 := Lib.hid hO4
          clear hO4 hb4
          go_wp2
          go_roundw
          case rel => exact ⟨k + 1, by omega, by go_num, Hn, HO4, HB4⟩
          case measure => simp [intOf]; omega
        · have hb : Ln.sBad s = (k + 1, Ln.err ⟨X, Y⟩) := by rw [Hb.out, Hf.out he, Nat.zero_add]
          have hn : ((Ln.err ⟨X, Y⟩ : Int) != 0) = true := by simpa using he
          have ho := sOut_err hb he
          clear he Hf Hpe hX hY
          generalize Ln.err ⟨X, Y⟩ = r at *
          have Hr := Lib.hid (fun w' hB' => splitPost_err (w := w0) (w' := w') hb ho hB')
          clear hb ho
          refine (HC.out _).mono ?_
          rintro e w3 ⟨rfl, hb3⟩
          have HB3 := Lib.hid (HB1.out.trans ((HBr.out.trans ((hA.trans (hb3.mono hA.size)).mono hsz)).mono HB1.out.size))
          clear hA hnew hb3 HC
          go_wp2
          go_ret3
          have h := Hr.out _ HB3.out
          rwa [Int.natCast_add] at h
    · obtain rfl : k = ps.length := by omega
      have htk : ps.take ps.length = ps := List.take_of_length_le (Nat.le_refl _)
      rw [htk] at Ha HO
      have Hw := Lib.hid (Ln.wrong_good ps 0 Ha.out)
      have ho : Hid (Ln.sOut s = ps.map Ln.line) := Lib.hid (by unfold Ln.sOut; rw [Hb.out, Hw.out, if_pos ⟨rfl, H0.out⟩, ← Hps.out])
      obtain ⟨a, c, rfl, hat⟩ := HO.out.at
      have HL := Lib.hid hat
      have HBf := Lib.hid (HB1.out.trans (HBr.out.mono HB1.out.size))
      clear htk hat
      go_wp2
      go_ret3
      refine ⟨⟨a, c, ?_, ?_⟩, HBf.out⟩
      · rw [Hb.out, Hw.out, ho.out]; rfl
      · rw [ho.out]; exact HL.out
end Go.Proofs.YtldfamdjdkaloabDoor
