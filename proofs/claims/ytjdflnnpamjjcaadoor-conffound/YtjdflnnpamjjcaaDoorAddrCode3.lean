/- The contract of addr.Parse. -/
import Derived.Test.YtjdflnnpamjjcaaDoorAddrCode1
import Derived.Test.YtjdflnnpamjjcaaDoorAddrCode2
import Derived.Test.YtjdflnnpamjjcaaDoorAddrFold
namespace Go.Proofs.YtjdflnnpamjjcaaDoor
open Go.RowKit

/-- The address so far, of four pieces. -/
def ParseSo (ps : List ByteArray) (w1 : World) (k : Nat) (v : Value) (wr : World) : Prop :=
  v = .int .u32 (Ad.fold ((ps.map (·.data.toList)).take k) 0 : Int) ∧ (∀ p ∈ (ps.map (·.data.toList)).take k, Ad.numErr p 255 = 0) ∧ Below w1.heap.size w1 wr
theorem ofInt_u32 (a : Nat) (ha : a < 4294967296) : (BitVec.ofInt 32 (a : Int)).toNat = a := by
  rw [BitVec.toNat_ofInt]; omega
theorem shl_or (A u : Nat) (hA : A < 16777216) (hu : u < 256) : bits .or .u32 ((A : Int) * 256) (u : Int) = ((A * 256 + u : Nat) : Int) := by
  have e : ((A : Int) * 256) = ((A * 256 : Nat) : Int) := by omega
  rw [e]
  show IntKind.u32.wrap ((BitVec.ofInt 32 ((A * 256 : Nat) : Int) ||| BitVec.ofInt 32 (u : Int)).toNat : Int) = _
  have ho : A * 256 ||| u = A * 256 + u := by
    have := Nat.two_pow_add_eq_or_of_lt (i := 8) (b := u) (by omega) A
    rw [show 2 ^ 8 * A = A * 256 by omega] at this
    exact this.symm
  rw [BitVec.toNat_or, ofInt_u32 _ (by omega), ofInt_u32 _ (by omega), ho, IntKind.wrap_u32]
  omega
set_option maxHeartbeats 800000 in
theorem addr_Parse0 (s : ByteArray) (w : World) (hs : s.size ≤ 281474976710656) :
    Calls Tryd.prog 46 #[.string s] w fun e w' => e = .returned (.tuple #[.int .u32 (Ad.addrOut s.data.toList : Int), .int .i64 (Ad.addrErr s.data.toList : Int)]) ∧ Below w.heap.size w w' := by
  have HS := lib_SplitN5 s 46 w hs
  go_enter Tryd.func46, Tryd.ntmps46
  go_wp2_with fail
  refine HS.mono ?_
  rintro e w1 ⟨ps, N, rfl, Hp, hN, hpl, hcell, hz1, hb1⟩
  have hq := Ad.split_four 46 s.data.toList N (by rw [hN]; simp)
  rw [← Hp.out, List.length_map] at hq
  have Hc := Lib.hid hcell
  have Hl := Lib.hid hpl
  have HB1 := Lib.hid hb1
  clear hcell hpl hb1 HS hN
  rcases hq with ⟨h4, hq⟩ | ⟨h4, hq⟩
  · have H4 := Lib.hid h4
    have Hq := Lib.hid hq
    have d4 : ((ps.length : Int) != 4) = false := by rw [h4]; decide
    clear h4 hq
    go_wp2
    go_loopw [5, 17] (fun v i wr => ∃ k : Nat, k ≤ ps.length ∧ i = .int .i64 k ∧ ParseSo ps w1 k v wr) (fun _ i _ => ps.length - (intOf i).toNat)
    case atStart => exact ⟨0, Nat.zero_le _, rfl, rfl, fun p h => (by cases h), Below.refl _ _⟩
    case round =>
      obtain ⟨k, hk, rfl, rfl, hg, hB⟩ := hrel
      obtain ⟨wo, hwo⟩ : ∃ wo, wo = wr := ⟨_, rfl⟩
      subst hwo
      by_cases hlt : k < ps.length
      · have Hlt := Lib.hid hlt
        have hk4 : k < 4 := by have := H4.out; omega
        have hcell : wo.cell? ⟨w.heap.size, k, none⟩ = some (.string ps[k]) := by
          rw [hB.cell (show (⟨w.heap.size, k, none⟩ : Addr).block < w1.heap.size by show w.heap.size < _; omega)]
          exact Hc.out k hlt
        have hps := Hl.out _ (List.getElem_mem hlt)
        have HK := Lib.hid (addr_Number0 ps[k] 255 wo (by omega))
        have hmk : k < (ps.map (·.data.toList)).length := by rw [List.length_map]; exact hlt
        have hmg : (ps.map (·.data.toList))[k] = ps[k].data.toList := List.getElem_map _
        by_cases hn : Ad.numErr ps[k].data.toList 255 = 0
        · have Hg' : Hid (∀ p ∈ (ps.map (·.data.toList)).take (k + 1), Ad.numErr p 255 = 0) := Lib.hid (by
            intro p hp
            rw [List.take_succ_eq_append_getElem hmk, List.mem_append] at hp
            rcases hp with hp | hp
            · exact hg p hp
            · rw [List.mem_singleton.1 hp, hmg]; exact hn)
          have hF := fold_lt _ k (by omega) hg
          have hF4 : 256 ^ k ≤ 256 ^ 3 := Nat.pow_le_pow_right (by decide) (by rw [H4.out] at hlt; omega)
          have Hf := Lib.hid (fold_snoc _ k hmk)
          rw [hmg] at Hf
          have hv := (Ad.num_dec _ hn).1
          rw [← numOut_val _ hn] at hv Hf
          rw [hn] at HK
          have hA : Ad.fold ((ps.map (·.data.toList)).take k) 0 < 16777216 := by omega
          clear hF hF4 hn hg hmg hmk
          generalize Ad.numOut ps[k].data.toList 255 = u at *
          generalize Ad.fold ((ps.map (·.data.toList)).take k) 0 = A at *
          generalize ps[k] = p at *
          have Hor := Lib.hid (shl_or A u hA hv)
          go_wp2_with fail
          refine HK.out.mono ?_
          rintro e w2 ⟨rfl, hb2⟩
          go_wp2
          go_roundw
          case rel => exact ⟨k + 1, Hlt.out, by go_num, by rw [Hf.out, Hor.out], Hg'.out, hB.trans (hb2.mono hB.size)⟩
          case measure => have := Hlt.out; simp [intOf]; omega
        · have Hbad := Lib.hid (addr_bad s.data.toList (by
            unfold Ad.good
            rw [← Hq.out, Bool.and_eq_false_iff]
            right
            rw [List.all_eq_false]
            exact ⟨_, List.getElem_mem hmk, by rw [hmg]; simpa using hn⟩))
          rw [(numOut_bad _ _ hn).1, (numOut_bad _ _ hn).2] at HK
          clear hn hg hmg hmk
          generalize Ad.fold ((ps.map (·.data.toList)).take k) 0 = A at *
          generalize ps[k] = p at *
          go_wp2_with fail
          refine HK.out.mono ?_
          rintro e w2 ⟨rfl, hb2⟩
          go_wp2
          go_ret2
          rw [Hbad.out.1, Hbad.out.2]
          exact ⟨rfl, HB1.out.trans ((hB.trans (hb2.mono hB.size)).mono HB1.out.size)⟩
      · obtain rfl : k = ps.length := by omega
        have hta : (ps.map (·.data.toList)).take ps.length = ps.map (·.data.toList) := List.take_of_length_le (by simp)
        have Hgood := Lib.hid (show Ad.good s.data.toList = true by
          unfold Ad.good
          rw [← Hq.out, List.length_map, decide_eq_true H4.out, Bool.true_and, List.all_eq_true]
          intro p hp
          rw [hta] at hg
          exact decide_eq_true (hg p hp))
        have Hf := Lib.hid (show Ad.fold ((ps.map (·.data.toList)).take ps.length) 0 = Ad.addrOut s.data.toList by
          unfold Ad.addrOut
          rw [if_pos Hgood.out, hta, Hq.out])
        rw [Hf.out]
        have He := Lib.hid (show Ad.addrErr s.data.toList = 0 by unfold Ad.addrErr; rw [if_pos Hgood.out])
        clear hg hta hk hlt
        go_wp2
        go_ret2
        rw [He.out]
        exact ⟨rfl, HB1.out.trans (hB.mono HB1.out.size)⟩
  · have d4 : ((ps.length : Int) != 4) = true := by simp; omega
    have Hbad := Lib.hid (addr_bad s.data.toList (by unfold Ad.good; rw [decide_eq_false hq]; rfl))
    clear h4 hq
    go_wp2
    go_ret2
    rw [Hbad.out.1, Hbad.out.2]
    exact ⟨rfl, HB1.out⟩
end Go.Proofs.YtjdflnnpamjjcaaDoor
