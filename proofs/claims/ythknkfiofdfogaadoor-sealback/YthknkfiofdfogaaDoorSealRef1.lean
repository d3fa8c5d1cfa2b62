/- The contract of the reference's SealStream. -/
import Derived.Test.YthknkfiofdfogaaDoorRefBig
import Derived.Test.YthknkfiofdfogaaDoorMacRef
import Derived.Test.YthknkfiofdfogaaDoorConv
import Derived.Deep.RegionWith
namespace Go.Proofs.YthknkfiofdfogaaDoor
open Go.RowKit

theorem alloc_bytes (w : World) (n m : Nat) : BytesAt (w.alloc (bigObj n m)) (w.alloc (bigObj n m)).heap.size (some ⟨w.heap.size, 0, none⟩) m (Sl.beL n m) := by
  refine ⟨Sl.beL_length n m, fun _ => ⟨w.heap.size, 0, rfl, by simp, fun i hi => ?_⟩⟩
  unfold bigObj
  rw [Nat.zero_add, cell_of_row _ _ i _ _ _ (heap_alloc_last w _)]
  rw [List.getElem?_toArray, bcells_get _ i hi]

theorem big_text (w : World) (n m : Nat) : (convert 22 9 (.slice (some ⟨w.heap.size, 0, none⟩) m m)).run Tryd.prog (w.alloc (bigObj n m)).drew = .ok (.string (strOf (Sl.beL n m))) (w.alloc (bigObj n m)).drew :=
  conv_bytes (P := Tryd.prog) (w := (w.alloc (bigObj n m)).drew) (B := (w.alloc (bigObj n m)).heap.size) (alloc_bytes w n m) 22 5 9 m Tryd.underlying22 Tryd.underlying5 Tryd.underlying9
theorem big_text2 (w : World) (n m n' m' : Nat) : (convert 22 9 (.slice (some ⟨w.heap.size, 0, none⟩) m m)).run Tryd.prog ((w.alloc (bigObj n m)).alloc (bigObj n' m')).drew = .ok (.string (strOf (Sl.beL n m))) ((w.alloc (bigObj n m)).alloc (bigObj n' m')).drew :=
  conv_bytes (P := Tryd.prog) (w := ((w.alloc (bigObj n m)).alloc (bigObj n' m')).drew) (B := (w.alloc (bigObj n m)).heap.size) ((alloc_bytes w n m).below (Below.drew ((Below.refl _ (w.alloc (bigObj n m))).alloc (Nat.le_refl _) (bigObj n' m')))) 22 5 9 m Tryd.underlying22 Tryd.underlying5 Tryd.underlying9
theorem big_text3 (w : World) (n m n' m' : Nat) : (convert 22 9 (.slice (some ⟨w.heap.size + 1, 0, none⟩) m' m')).run Tryd.prog ((w.alloc (bigObj n m)).alloc (bigObj n' m')).drew = .ok (.string (strOf (Sl.beL n' m'))) ((w.alloc (bigObj n m)).alloc (bigObj n' m')).drew := by
  have h := big_text (w.alloc (bigObj n m)) n' m'
  rw [show (w.alloc (bigObj n m)).heap.size = w.heap.size + 1 by simp] at h
  exact h
theorem flow_text (c q : Nat) : ((⟨#[102, 108, 111, 119]⟩ : ByteArray) ++ strOf (Sl.beL c 8) ++ strOf (Sl.beL q 8)).data.toList = Sl.flow c q := by
  rw [ByteArray.data_append, ByteArray.data_append, Array.toList_append, Array.toList_append, strOf_list, strOf_list, List.append_assoc]; rfl
def Flows (ks : List UInt8) (ctr B k : Nat) (vo vb : Value) (wr : World) : Prop :=
  ∃ ao co ab nb cb, vo = .slice ao k co ∧ wr.ownsRow B 5 1 (.slice ao k co) k (bcells (Sl.stream ks ctr k)) ∧ vb = .slice ab nb cb ∧
    (k % 32 ≠ 0 → nb = 32 ∧ wr.ownsRow B 5 1 (.slice ab nb cb) 32 (bcells (Mc.tag ks (Sl.flow ctr (k / 32)))) ∧ ∀ g, (Value.slice ao k co).ownBlock = some g → (Value.slice ab nb cb).ownBlock ≠ some g)

theorem tag_flow (s : List UInt8) (c q : Nat) (h : Hx.checkErr s = 0) : Mc.tagOut s (Sl.flow c q) = Mc.tag (Hx.pairs s) (Sl.flow c q) := (Mc.tag_ok s _ h (by rw [Sl.flow_length]; decide)).2
theorem flow_cell {ks : List UInt8} {ctr k q r B n c g : Nat} {w : World} (hk : k = 32 * q + r) (hr : r < 32) (ho : w.ownsRow B 5 1 (.slice (some ⟨g, 0, none⟩) n c) n (bcells (Mc.tag ks (Sl.flow ctr q)))) :
    w.cell? ⟨g, r, none⟩ = some (.int .u8 ((Sl.at_ ks ctr k).toNat : Int)) := by
  have hl := Mc.tag_length ks (Sl.flow ctr q)
  refine own_cell ho ?_
  rw [bcells_get _ r (by omega)]
  have e : Sl.at_ ks ctr k = (Mc.tag ks (Sl.flow ctr q))[r] := by
    unfold Sl.at_
    rw [show k / 32 = q by omega, show k % 32 = r by omega, List.getD_eq_getElem?_getD, List.getElem?_eq_getElem (by omega)]; rfl
  rw [e]
theorem flows_step {ks : List UInt8} {ctr k q r B n c g : Nat} {w w' : World} {ao a' : Option Addr} {co c' : Nat} (hk : k = 32 * q + r) (hr : r < 32) (hn : n = 32) (ho : w.ownsRow B 5 1 (.slice (some ⟨g, 0, none⟩) n c) n (bcells (Mc.tag ks (Sl.flow ctr q))))
    (hoo : w'.ownsRow B 5 1 (.slice a' (k + 1) c') (k + 1) (bcells (Sl.stream ks ctr k) ++ [.int .u8 ((Sl.at_ ks ctr k).toNat : Int)]))
    (hap : ∀ g', (Value.slice ao k co).ownBlock = some g' → (Value.slice (some ⟨g, 0, none⟩) n c).ownBlock ≠ some g') (hg : w.grownBy w' (Value.slice ao k co).ownBlock)
    (hat : (Value.slice a' (k + 1) c').ownBlock = (Value.slice ao k co).ownBlock ∨ (Value.slice a' (k + 1) c').ownBlock = some w.heap.size) :
    Flows ks ctr B (k + 1) (.slice a' (k + 1) c') (.slice (some ⟨g, 0, none⟩) n c) w' := by
  obtain ⟨h1, h2⟩ := apart_grown ho hap hg hat
  refine ⟨_, _, _, _, _, rfl, ?_, rfl, fun h => ⟨hn, ?_, h2⟩⟩
  · rw [← Sl.stream_snoc, bcells_append]; exact hoo
  · rw [show (k + 1) / 32 = q by omega]
    rw [hn] at h1 ⊢
    exact h1

set_option maxRecDepth 100000 in
set_option maxHeartbeats 2000000 in
theorem ref_SealStream (s : ByteArray) (counter n : Int) (w : World) (hs : s.size ≤ maxLen) (c0 : -9223372036854775808 ≤ counter) (c1 : counter ≤ 9223372036854775807) (n0 : -9223372036854775808 ≤ n) (n1 : n ≤ 9223372036854775807) :
    Calls Tryd.prog 10 #[.string s, .int .i64 counter, .int .i64 n] w (SlicePost (Sl.streamErr s.data.toList counter n) (Sl.streamOut s.data.toList counter n) w) := by
  rcases Sl.stream_three s.data.toList counter n with ⟨he, hc, k0, k1, m0, m1⟩ | ⟨he, ho, ⟨hc, e1⟩ | ⟨hc, e1, hx⟩⟩
  · obtain ⟨ctr, rfl⟩ : ∃ c : Nat, counter = (c : Int) := ⟨counter.toNat, by omega⟩
    obtain ⟨m, rfl⟩ : ∃ m : Nat, n = (m : Int) := ⟨n.toNat, by omega⟩
    have He := Lib.hid he
    have Hc := Lib.hid hc
    have Ho := Lib.hid (show Sl.streamOut s.data.toList (ctr : Int) (m : Int) = Sl.stream (Hx.pairs s.data.toList) ctr m by unfold Sl.streamOut; rw [if_pos he]; simp)
    have d1 : decide ((ctr : Int) < 0) = false := by simp
    have d2 : decide ((1099511627776 : Int) < (ctr : Int)) = false := by simp; omega
    have d3 : decide ((m : Int) < 0) = false := by simp
    have d4 : decide ((232 : Int) < (m : Int)) = false := by simp; omega
    clear he hc c0 c1 n0 n1
    go_enter Tryd.func10, Tryd.ntmps10
    go_wp2_with fail
    refine (ref_HexFault _ _ hs).mono ?_
    rintro e w1 ⟨rfl, hb1⟩
    rw [Hc.out]
    have z1 := hb1.size
    rw [show ((0 : Nat) : Int) = (0 : Int) from rfl]
    go_wp2
    obtain ⟨ks, hks⟩ : ∃ ks, ks = Hx.pairs s.data.toList := ⟨_, rfl⟩
    have Hks := Lib.hid hks
    clear hks d1 d2 d3 d4
    go_loopw [9, 10, 11] (fun vo vb i wr => ∃ k : Nat, k ≤ m ∧ i = .int .i64 k ∧ Flows ks ctr w1.heap.size k vo vb wr ∧ Below w1.heap.size w1 wr) (fun _ _ i _ => m - (intOf i).toNat)
    case atStart => exact ⟨0, Nat.zero_le _, rfl, ⟨none, 0, none, 0, 0, rfl, World.ownsRow_nil _ _ _ _, rfl, fun h => absurd rfl h⟩, Below.refl _ _⟩
    case round =>
      obtain ⟨k, hk, rfl, ⟨ao, co, ab, nb, cb, rfl, hoo, rfl, hbb⟩, hB⟩ := hrel
      have hz := hB.size
      by_cases hlt : k < m
      · by_cases h32 : k % 32 = 0
        · clear hbb
          have hm : (k : Int) % 32 = 0 := by omega
          obtain ⟨q, hq⟩ : ∃ q : Nat, k = 32 * q := ⟨k / 32, by omega⟩
          have Hq := Lib.hid hq
          have hd : (k : Int).tdiv 32 = (q : Int) := by rw [hq]; simp
          have hd2 : IntKind.i64.wrap (q : Int) = (q : Int) := IntWalk.i64_in _ (by omega)
          have G1 := Lib.hid (fun W => ref_big ctr 8 W (by omega) (by decide) (by decide))
          have G2 := Lib.hid (fun W => ref_big q 8 W (by omega) (by decide) (by decide))
          have hB2 : Below w1.heap.size w1 ((wr.alloc (bigObj ctr 8)).alloc (bigObj q 8)).drew := ((hB.alloc hz _).alloc (hB.alloc hz _).size _).drew
          have f1 := big_text wr ctr 8
          have f2 := big_text2 wr ctr 8 q 8
          have f3 := big_text3 wr ctr 8 q 8
          have Hfl := Lib.hid (flow_text ctr q)
          have hs1 : (strOf (Sl.beL ctr 8)).size = 8 := by rw [strOf_size, Sl.beL_length]
          have hs2 : (strOf (Sl.beL q 8)).size = 8 := by rw [strOf_size, Sl.beL_length]
          generalize strOf (Sl.beL ctr 8) = S1 at *
          generalize strOf (Sl.beL q 8) = S2 at *
          have hs3 : ((⟨#[102, 108, 111, 119]⟩ : ByteArray) ++ S1).size = 12 := by rw [ByteArray.size_append, hs1]; rfl
          have hs4 : ((⟨#[102, 108, 111, 119]⟩ : ByteArray) ++ S1 ++ S2).size = 20 := by rw [ByteArray.size_append, hs3, hs2]
          obtain ⟨w3, cap, hrun, hsz3, hbel3, hcs⟩ := conv_string (⟨#[102, 108, 111, 119]⟩ ++ S1 ++ S2) ((wr.alloc (bigObj ctr 8)).alloc (bigObj q 8)).drew
          have hb3 := conv_bytesAt hsz3 hcs
          rw [Hfl.out, hs4] at hb3
          rw [hs4] at hrun
          have hB3 : Below w1.heap.size w1 w3 := hB2.trans (hbel3.mono hB2.size)
          have Hb3 := Lib.hid hb3
          have hoo3 := own_below (w := ((wr.alloc (bigObj ctr 8)).alloc (bigObj q 8)).drew) (((hoo.alloc (bigObj ctr 8)).alloc (bigObj q 8)).drew) hbel3
          have hz3 : wr.heap.size ≤ w3.heap.size := by rw [hsz3]; simp; omega
          have Hap : Hid (∀ g, (Value.slice ao k co).ownBlock = some g → g < w3.heap.size) := Lib.hid (fun g h => Nat.lt_of_lt_of_le (hoo.lt g h).2 hz3)
          have HO := Lib.hid hoo3
          have HB3 := Lib.hid hB3
          clear hsz3 hcs hq
          generalize ((wr.alloc (bigObj ctr 8)).alloc (bigObj q 8)).drew.heap.size = B3 at hrun Hb3
          clear hb3 hbel3 hoo hoo3 hB hB2 hB3
          go_wp2_with fail
          go_region_with (first
              | (go_at_call_of 26 (Value.int IntKind.i64 (ctr : Int)); refine (G1.out _).mono ?_; rintro e w' ⟨rfl, rfl⟩)
              | (go_at_call_of 26 (Value.int IntKind.i64 (q : Int)); refine (G2.out _).mono ?_; rintro e w' ⟨rfl, rfl⟩)
              | (go_at_call 25; refine (ref_MacTag s _ _ cap _ _ hs Hb3.out (fun h => by cases h) (by decide)).mono ?_; rintro e w5 ⟨a5, n5, c5, rfl, ho5, hb5⟩))
          all_goals
            rw [tag_flow _ _ _ Hc.out, ← Hks.out] at ho5
            have hn5 := (BytesAt.own ho5).1
            rw [Mc.tag_length] at hn5
            rw [Mc.tag_length] at ho5
            subst hn5
            obtain ⟨g, rfl, hg3, hgH⟩ := own_form ho5 (by decide)
            have hB5 := HB3.out.trans (hb5.mono HB3.out.size)
            have hz5 := hB5.size
            have hoo5 := own_below HO.out hb5
            have ho5' := ownsRow_base ho5 HB3.out.size
            have hcell := flow_cell (r := 0) (k := k) (by have := Hq.out; omega) (by decide) ho5'
            have Hap5 : Hid (∀ g', (Value.slice ao k co).ownBlock = some g' → (Value.slice (some ⟨g, 0, none⟩) 32 c5).ownBlock ≠ some g') := Lib.hid (fun g' h h' => by have := Hap.out g' h; simp [Value.ownBlock] at h'; omega)
            clear f1 f2 f3 hrun hs3 hs4 hb5 ho5 HO Hb3
            obtain ⟨X, hX⟩ : ∃ X, X = Sl.at_ ks ctr k := ⟨_, rfl⟩
            rw [← hX] at hcell
            have HX := Lib.hid hX
            clear hX
            go_wp2_with (at_builtin; refine wpL_append8_at _ rfl _ _ rfl w1.heap.size _ k _ _ rfl (hoo5.alloc _) _ 1 _ [.int .u8 (X.toNat : Int)] rfl rfl (by intro h; cases h) (news_new _ _ _) (one_one _ _) (by omega) (by simp; omega) ?_)
            intro a6 c6 w6 ho6 hg6 hat6
            rw [HX.out] at ho6
            have hB6 : Below w1.heap.size w1 w6 := below_own (hB5.alloc hz5 _) (hoo5.alloc _) hg6 (Nat.le_refl _) (by simp; omega)
            have HF := Lib.hid (flows_step (q := q) (r := 0) (w := w5.alloc (.cells #[.int .u8 (X.toNat : Int)] 5)) (by have := Hq.out; omega) (by decide) rfl (ho5'.alloc _) ho6 Hap5.out hg6 (hat6.out.imp id fun h => h.trans (by simp)))
            clear ho6 hg6 hat6 hoo5 ho5' hcell hB5
            go_wp2
            go_roundw
            case rel => exact ⟨k + 1, by omega, by go_num, HF.out, hB6⟩
            case measure => simp [intOf]; omega
        · obtain ⟨hnb, hob, hap⟩ := hbb h32
          subst hnb
          obtain ⟨g, rfl, hgB, hgH⟩ := own_form hob (by decide)
          obtain ⟨q, r, hqr, hr, hr0⟩ : ∃ q r : Nat, k = 32 * q + r ∧ r < 32 ∧ r ≠ 0 := ⟨k / 32, k % 32, by omega, by omega, h32⟩
          rw [show k / 32 = q by omega] at hob
          have hm : (k : Int) % 32 = (r : Int) := by omega
          have hm0 : ((r : Int) == 0) = false := by simp; omega
          have Hq := Lib.hid hqr
          have Hap5 := Lib.hid hap
          have hcell := flow_cell hqr hr hob
          obtain ⟨w5, hw5⟩ : ∃ w5, w5 = wr := ⟨_, rfl⟩
          subst hw5
          have hB5 := hB
          have hz5 := hz
          have hoo5 := hoo
          have ho5' := hob
          clear hbb hap hqr hB hz hoo hob h32
          obtain ⟨X, hX⟩ : ∃ X, X = Sl.at_ ks ctr k := ⟨_, rfl⟩
          rw [← hX] at hcell
          have HX := Lib.hid hX
          clear hX
          go_wp2_with (at_builtin; refine wpL_append8_at _ rfl _ _ rfl w1.heap.size _ k _ _ rfl (hoo5.alloc _) _ 1 _ [.int .u8 (X.toNat : Int)] rfl rfl (by intro h; cases h) (news_new _ _ _) (one_one _ _) (by omega) (by simp; omega) ?_)
          intro a6 c6 w6 ho6 hg6 hat6
          rw [HX.out] at ho6
          have hB6 : Below w1.heap.size w1 w6 := below_own (hB5.alloc hz5 _) (hoo5.alloc _) hg6 (Nat.le_refl _) (by simp; omega)
          have HF := Lib.hid (flows_step (q := q) (r := r) (w := w5.alloc (.cells #[.int .u8 (X.toNat : Int)] 5)) Hq.out hr rfl (ho5'.alloc _) ho6 Hap5.out hg6 (hat6.out.imp id fun h => h.trans (by simp)))
          clear ho6 hg6 hat6 hoo5 ho5' hcell hB5
          go_wp2
          go_roundw
          case rel => exact ⟨k + 1, by omega, by go_num, HF.out, hB6⟩
          case measure => simp [intOf]; omega
      · obtain rfl : k = m := by omega
        have hB5 := hb1.trans (hB.mono z1)
        have ho5 := ownsRow_base hoo z1
        rw [Hks.out] at ho5
        clear hoo hbb hB
        go_wp2
        go_ret2
        rw [He.out, Ho.out]
        exact slicePost_own (err := 0) ho5 hB5
  · have He := Lib.hid e1
    have Ho := Lib.hid ho
    rcases Mc.check_three s.data.toList with h | h | h
    · exact absurd h hc
    all_goals
      have Hc := Lib.hid h
      clear h hc he ho e1
      go_enter Tryd.func10, Tryd.ntmps10
      go_wp2_with fail
      refine (ref_HexFault _ _ hs).mono ?_
      rintro e w1 ⟨rfl, hb1⟩
      rw [Hc.out]
      go_wp2
      go_ret2
      rw [He.out, Ho.out, Hc.out]
      first | exact slicePost_none (err := 1) hb1 | exact slicePost_none (err := 3) hb1
  · have He := Lib.hid e1
    have Ho := Lib.hid ho
    have Hc := Lib.hid hc
    have hd : (((decide (counter < 0) || decide ((1099511627776 : Int) < counter)) || decide (n < 0)) || decide ((232 : Int) < n)) = true := by
      rcases hx with h | h | h | h <;> simp [h]
    clear he ho e1 hc
    go_enter Tryd.func10, Tryd.ntmps10
    go_wp2_with fail
    refine (ref_HexFault _ _ hs).mono ?_
    rintro e w1 ⟨rfl, hb1⟩
    rw [Hc.out]
    rw [show ((0 : Nat) : Int) = (0 : Int) from rfl]
    go_wp2
    all_goals
      go_ret2
      rw [He.out, Ho.out]
      exact slicePost_none (err := 4) hb1
end Go.Proofs.YthknkfiofdfogaaDoor
