/- The contract of the reference's AddrOf. -/
import Derived.Test.YtjdflnnpamjjcaaDoorAddrDec
import Derived.Deep.WholeRow
namespace Go.Proofs.YtjdflnnpamjjcaaDoor
open Go.RowKit

/-- The address so far. -/
def Folded (ps : List ByteArray) (w1 : World) (k : Nat) (v : Value) (wr : World) : Prop :=
  v = .int .u32 (Ad.fold ((ps.map (·.data.toList)).take k) 0 : Int) ∧ (0 < k → ps.length = 4) ∧ (∀ p ∈ (ps.map (·.data.toList)).take k, Ad.numErr p 255 = 0) ∧ Below w1.heap.size w1 wr

set_option maxHeartbeats 800000 in
theorem ref_AddrOf (s : ByteArray) (w : World) (hs : s.size ≤ 1048576) (hT : PowTab w) (hE : ErrTab w) (hM : MaxTab w) :
    Calls Tryd.prog 36 #[.string s] w fun e w' => e = .returned (.tuple #[.int .u32 (Ad.addrOut s.data.toList : Int), .int .i64 (Ad.addrErr s.data.toList : Int)]) ∧ Below w.heap.size w w' := by
  have HT := Lib.hid hT
  have HE := Lib.hid hE
  have HS := lib_Split s 46 w (by omega) hM
  clear hT hE hM
  go_enter Tryd.func36, Tryd.ntmps36
  go_wp2_with fail
  refine HS.mono ?_
  rintro e w1 ⟨ps, rfl, Hp, hl, hpl, hcell, hz1, hb1⟩
  have Hc := Lib.hid hcell
  have Hl := Lib.hid hpl
  have HT1 := Lib.hid (HT.out.below hb1)
  have HE1 := Lib.hid (HE.out.below hb1)
  have HB1 := Lib.hid hb1
  clear hcell hpl hb1 HS
  go_wp2
  go_loopw [4, 14] (fun v i wr => ∃ k : Nat, k ≤ ps.length ∧ i = .int .i64 k ∧ Folded ps w1 k v wr) (fun _ i _ => ps.length - (intOf i).toNat)
  case atStart => exact ⟨0, Nat.zero_le _, rfl, rfl, fun h => absurd h (by decide), fun p h => (by cases h), Below.refl _ _⟩
  case round =>
    obtain ⟨k, hk, rfl, rfl, h4, hg, hB⟩ := hrel
    obtain ⟨wo, hwo⟩ : ∃ wo, wo = wr := ⟨_, rfl⟩
    subst hwo
    have hgl : Hid (s.data.toList.length = s.size) := Lib.hid (by simp)
    by_cases hlt : k < ps.length
    · have hcell : wo.cell? ⟨w.heap.size, k, none⟩ = some (.string ps[k]) := by
        rw [hB.cell (show (⟨w.heap.size, k, none⟩ : Addr).block < w1.heap.size by show w.heap.size < _; omega)]
        exact Hc.out k hlt
      have hps := Hl.out _ (List.getElem_mem hlt)
      have HN := Lib.hid (fun (W : World) (hW : Below w1.heap.size w1 W) => ref_NumberOf ps[k] 255 W (by omega) (HT1.out.below hW) (HE1.out.below hW))
      have hmk : k < (ps.map (·.data.toList)).length := by rw [List.length_map]; exact hlt
      have hmg : (ps.map (·.data.toList))[k] = ps[k].data.toList := List.getElem_map _
      by_cases hn : Ad.numErr ps[k].data.toList 255 = 0
      · by_cases hN : ps.length = 4
        · have Hg' : Hid (∀ p ∈ (ps.map (·.data.toList)).take (k + 1), Ad.numErr p 255 = 0) := Lib.hid (by
            intro p hp
            rw [List.take_succ_eq_append_getElem hmk, List.mem_append] at hp
            rcases hp with hp | hp
            · exact hg p hp
            · rw [List.mem_singleton.1 hp, hmg]; exact hn)
          have hF := fold_lt _ (k + 1) (by omega) Hg'.out
          have hF4 : 256 ^ (k + 1) ≤ 256 ^ 4 := Nat.pow_le_pow_right (by decide) (by omega)
          rw [fold_snoc _ k hmk, hmg] at hF
          have Hf := Lib.hid (fold_snoc _ k hmk)
          rw [hmg] at Hf
          have hv := (Ad.num_dec _ hn).1
          have Hn := Lib.hid hn
          have Ho := Lib.hid (numOut_val _ hn)
          rw [← numOut_val _ hn] at hF hv Hf
          have HK := HN.out wo hB
          rw [hn] at HK
          have HK' := Lib.hid HK
          have hsum : Ad.fold ((ps.map (·.data.toList)).take k) 0 * 256 + Ad.numOut ps[k].data.toList 255 < 4294967296 := by omega
          have HN4 := Lib.hid hN
          have d4 : ((ps.length : Int) != 4) = false := by rw [hN]; decide
          clear hF hF4 HK hn hN HN hg h4 Ho hmg hmk
          generalize Ad.numOut ps[k].data.toList 255 = u at *
          generalize Ad.fold ((ps.map (·.data.toList)).take k) 0 = A at *
          generalize ps[k] = p at *
          go_wp2_with fail
          refine HK'.out.mono ?_
          rintro e w2 ⟨rfl, hb2⟩
          go_wp2
          go_roundw
          case rel => exact ⟨k + 1, by omega, by go_num, by rw [Hf.out]; rfl, fun _ => HN4.out, Hg'.out, hB.trans (hb2.mono hB.size)⟩
          case measure => simp [intOf]; omega
        · have d4 : ((ps.length : Int) != 4) = true := by simp; omega
          have Hbad := Lib.hid (addr_bad s.data.toList (by unfold Ad.good; rw [← Hp.out, List.length_map, decide_eq_false hN]; rfl))
          have HK' := Lib.hid (HN.out wo hB)
          rw [hn] at HK'
          clear HN hn hN hg h4 hmg hmk
          generalize Ad.numOut ps[k].data.toList 255 = u at *
          generalize Ad.fold ((ps.map (·.data.toList)).take k) 0 = A at *
          generalize ps[k] = p at *
          go_wp2_with fail
          refine HK'.out.mono ?_
          rintro e w2 ⟨rfl, hb2⟩
          go_wp2
          go_ret2
          rw [Hbad.out.1, Hbad.out.2]
          exact ⟨rfl, HB1.out.trans ((hB.trans (hb2.mono hB.size)).mono HB1.out.size)⟩
      · have Hbad := Lib.hid (addr_bad s.data.toList (by
          unfold Ad.good
          rw [← Hp.out, Bool.and_eq_false_iff]
          right
          rw [List.all_eq_false]
          exact ⟨_, List.getElem_mem hmk, by rw [hmg]; simpa using hn⟩))
        have HK' := Lib.hid (HN.out wo hB)
        rw [(numOut_bad _ _ hn).1, (numOut_bad _ _ hn).2] at HK'
        clear HN hn hg h4 hmg hmk
        generalize Ad.fold ((ps.map (·.data.toList)).take k) 0 = A at *
        generalize ps[k] = p at *
        go_wp2_with fail
        refine HK'.out.mono ?_
        rintro e w2 ⟨rfl, hb2⟩
        go_wp2
        go_ret2
        rw [Hbad.out.1, Hbad.out.2]
        exact ⟨rfl, HB1.out.trans ((hB.trans (hb2.mono hB.size)).mono HB1.out.size)⟩
    · obtain rfl : k = ps.length := by omega
      have hpos : 0 < ps.length := by
        have := Ad.parts_ne 46 s.data.toList
        rw [← Hp.out] at this
        cases ps with
        | nil => exact absurd rfl this
        | cons a b => simp
      have hta : (ps.map (·.data.toList)).take ps.length = ps.map (·.data.toList) := List.take_of_length_le (by simp)
      have Hgood := Lib.hid (show Ad.good s.data.toList = true by
        unfold Ad.good
        rw [← Hp.out, List.length_map, decide_eq_true (h4 hpos), Bool.true_and, List.all_eq_true]
        intro p hp
        rw [hta] at hg
        exact decide_eq_true (hg p hp))
      have Hf := Lib.hid (show Ad.fold ((ps.map (·.data.toList)).take ps.length) 0 = Ad.addrOut s.data.toList by
        unfold Ad.addrOut
        rw [if_pos Hgood.out, hta, Hp.out])
      rw [Hf.out]
      have He := Lib.hid (show Ad.addrErr s.data.toList = 0 by unfold Ad.addrErr; rw [if_pos Hgood.out])
      clear hg h4 hta hk hlt
      go_wp2
      go_ret2
      rw [He.out]
      exact ⟨rfl, HB1.out.trans (hB.mono HB1.out.size)⟩
end Go.Proofs.YtjdflnnpamjjcaaDoor
