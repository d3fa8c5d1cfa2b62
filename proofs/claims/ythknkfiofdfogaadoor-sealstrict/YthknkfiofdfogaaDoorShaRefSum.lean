/- The reference's rounds and ShaSum: what they answer. -/
import Derived.Test.YthknkfiofdfogaaDoorShaRefWords
import Derived.Test.YthknkfiofdfogaaDoorShaPadRef
import Derived.Test.YthknkfiofdfogaaDoorShaSum
import Derived.Test.YthknkfiofdfogaaDoorShaAcc
import Derived.BigRegion
namespace Go.Proofs.YthknkfiofdfogaaDoor
open Go.RowKit

set_option maxRecDepth 100000 in
set_option maxHeartbeats 1000000 in
theorem ref_rounds (w : World) :
    Calls Tryd.prog 48 #[] w fun e w' => e = .returned (.slice (some ⟨w.heap.size, 0, none⟩) 64 64) ∧ ArrAt w' w.heap.size 69 Sh.K0 ∧ Below w.heap.size w w' ∧ w'.heap.size = w.heap.size + 1 := by
  go_enter Tryd.func48, Tryd.ntmps48
  go_wp2
  go_ret
  exact ⟨rfl, ArrAt.new w 69 Sh.K0 _ (by kernel_rfl), (Below.refl _ _).alloc (Nat.le_refl _) _, by simp⟩
@[go_sem] theorem binOp_mul_U256 (t : TypeId) (x : BitVec 32) : binOp .mul t (U x) (.int .u32 256) = pure (U (x * 256)) := by
  rw [U_def, binOp_mul]
  have : IntKind.u32.wrap ((x.toNat : Int) * 256) = (((x * 256).toNat : Nat) : Int) := by
    rw [show (x.toNat : Int) * 256 = ((x.toNat * 256 : Nat) : Int) by omega, wrap_word, BitVec.toNat_mul]; rfl
  rw [U_def, ← this]
  rfl
theorem H0_cells : #[Value.int .u32 1779033703, Value.int .u32 3144134277, Value.int .u32 1013904242, Value.int .u32 2773480762, Value.int .u32 1359893119, Value.int .u32 2600822924, Value.int .u32 528734635, Value.int .u32 1541459225] = (wcells Sh.H0).toArray := by kernel_rfl

/-- Where ShaSum is in its first loop: k blocks are behind it. -/
def RefAt (w1 : World) (p : List UInt8) (g gk n1 c1 k : Nat) (vp vh : Value) (wr : World) : Prop :=
  ∃ ad gh, vp = .slice (some ad) (n1 - 64 * k) (c1 - 64 * k) ∧ (64 * k < n1 → ad = ⟨g, 64 * k, none⟩) ∧ vh = .slice (some ⟨gh, 0, none⟩) 8 8 ∧ w1.heap.size ≤ gh ∧ WordsAt wr gh (Sh.absorb Sh.H0 p k) ∧ WordsAt wr gk Sh.K0 ∧ Below w1.heap.size w1 wr

/-- Where ShaSum is in its last loop: the bytes of j words are out. -/
def OutAt (D : List (BitVec 32)) (wo : World) (j : Nat) (v : Value) (wr : World) : Prop :=
  ∃ a n c, v = .slice a n c ∧ n = 4 * j ∧ wr.ownsRow wo.heap.size 5 1 (.slice a n c) n (bcells (Sh.digest (D.take j))) ∧ Below wo.heap.size wo wr

def inBytes (D : List (BitVec 32)) (X : BitVec 32) (j q : Nat) : List UInt8 := Sh.digest (D.take j) ++ (Sh.be4 X).take q
theorem in_step (D : List (BitVec 32)) (X : BitVec 32) (j q : Nat) (v : Int) (h : q < 4) (hv : v = (((Sh.be4 X)[q]'(by rw [Sh.be4_length]; exact h)).toNat : Int)) : bcells (inBytes D X j q) ++ [.int .u8 v] = bcells (inBytes D X j (q + 1)) := by
  unfold inBytes
  rw [List.take_succ_eq_append_getElem (by rw [Sh.be4_length]; exact h), ← List.append_assoc, bcells_append _ [_], hv]
  rfl
theorem in_v0 (X : BitVec 32) : (X.toNat : Int) / 16777216 % 256 = (((Sh.be4 X)[0]'(by rw [Sh.be4_length]; decide)).toNat : Int) := by
  show _ = ((UInt8.ofNat (X.toNat / 16777216)).toNat : Int); rw [UInt8.toNat_ofNat']; omega
theorem in_v1 (X : BitVec 32) : (X.toNat : Int) / 65536 % 256 = (((Sh.be4 X)[1]'(by rw [Sh.be4_length]; decide)).toNat : Int) := by
  show _ = ((UInt8.ofNat (X.toNat / 65536)).toNat : Int); rw [UInt8.toNat_ofNat']; omega
theorem in_v2 (X : BitVec 32) : (X.toNat : Int) / 256 % 256 = (((Sh.be4 X)[2]'(by rw [Sh.be4_length]; decide)).toNat : Int) := by
  show _ = ((UInt8.ofNat (X.toNat / 256)).toNat : Int); rw [UInt8.toNat_ofNat']; omega
theorem in_v3 (X : BitVec 32) : (X.toNat : Int) % 256 = (((Sh.be4 X)[3]'(by rw [Sh.be4_length]; decide)).toNat : Int) := by
  show _ = ((UInt8.ofNat X.toNat).toNat : Int); rw [UInt8.toNat_ofNat']; omega
def units : Array Value := #[.int .u32 16777216, .int .u32 65536, .int .u32 256, .int .u32 1]
/-- .. and q bytes of the next word X. -/
def InAt (D : List (BitVec 32)) (X : BitVec 32) (wo : World) (j n2 gu q : Nat) (v : Value) (wr : World) : Prop :=
  ∃ a n c, v = .slice a n c ∧ n = n2 + q ∧ wr.ownsRow wo.heap.size 5 1 (.slice a n c) n (bcells (inBytes D X j q)) ∧ Below wo.heap.size wo wr ∧
    wr.heap[gu]? = some (.cells units 69 (0, 0)) ∧ Hid ((Value.slice a n c).ownBlock ≠ some gu)

theorem in_next {D : List (BitVec 32)} {X : BitVec 32} {wo wr w4 : World} {j n2 gu q n3 c3 c4 : Nat} {a3 a4 : Option Addr} {v : Int} (hn3 : n3 = n2 + q)
    (ho3 : wr.ownsRow wo.heap.size 5 1 (.slice a3 n3 c3) n3 (bcells (inBytes D X j q))) (hb3 : Below wo.heap.size wo wr) (hu3 : wr.heap[gu]? = some (.cells units 69 (0, 0))) (hne3 : (Value.slice a3 n3 c3).ownBlock ≠ some gu)
    (ho4 : w4.ownsRow wo.heap.size 5 1 (.slice a4 (n3 + 1) c4) (n3 + 1) (bcells (inBytes D X j q) ++ [.int .u8 v])) (hg4 : (wr.alloc (.cells #[.int .u8 v] 5)).grownBy w4 (Value.slice a3 n3 c3).ownBlock)
    (hat4 : (Value.slice a4 (n3 + 1) c4).ownBlock = (Value.slice a3 n3 c3).ownBlock ∨ (Value.slice a4 (n3 + 1) c4).ownBlock = some (wr.heap.size + 1))
    (hx : bcells (inBytes D X j q) ++ [.int .u8 v] = bcells (inBytes D X j (q + 1))) : InAt D X wo j n2 gu (q + 1) (.slice a4 (n3 + 1) c4) w4 := by
  have hz := hb3.size
  have hlt : gu < wr.heap.size := (Array.getElem?_eq_some_iff.1 hu3).1
  rw [hx] at ho4
  refine ⟨_, _, _, rfl, by omega, ho4, below_own (hb3.alloc hz _) (ho3.alloc _) hg4 (Nat.le_refl _) (by simp; omega), ?_, Lib.hid ?_⟩
  · rw [hg4.block gu (by simp; omega) (fun e => hne3 e.symm), Below.heap_alloc wr _ gu hlt]
    exact hu3
  · intro e
    rcases hat4 with h | h
    · exact hne3 (h.symm.trans e)
    · rw [h] at e; injection e with e; omega

set_option maxRecDepth 100000 in
set_option maxHeartbeats 1000000 in
theorem ref_ShaSum (a : Option Addr) (n c : Nat) (bs : List UInt8) (w : World) (h : BytesAt w w.heap.size a n bs) (hnil : a = none → n = 0 ∧ c = 0) (hn : n ≤ maxLen) :
    Calls Tryd.prog 36 #[.slice a n c] w (SlicePost (Sh.padErr bs) (Sh.sumOut bs) w) := by
  have hl := h.1
  by_cases h1 : 1000 < n
  · have He := Lib.hid (sumOut_err bs (by omega))
    have Hn := Lib.hid hnil
    clear hl hnil
    go_enter Tryd.func36, Tryd.ntmps36
    go_wp2_with fail
    refine (ref_ShaPad a n c bs _ h Hn.out hn).mono ?_
    rintro e w1 ⟨a1, n1, c1, rfl, ho1, hb1⟩
    rw [He.out.1]
    clear ho1 h
    go_wp2
    go_ret2
    rw [He.out.1, He.out.2.2]
    exact slicePost_none hb1
  · have He := Lib.hid (sumOut_ok bs (by omega))
    have hpl := Sh.pad_length bs
    have hpm := Sh.pad_blocks bs
    have hz64 : Sh.zeros n < 64 := by unfold Sh.zeros; omega
    have Hn := Lib.hid hnil
    rw [hl] at hpl
    clear hl hnil
    go_enter Tryd.func36, Tryd.ntmps36
    go_wp2_with fail
    refine (ref_ShaPad a n c bs _ h Hn.out hn).mono ?_
    rintro e w1 ⟨a1, n1, c1, rfl, ho1, hb1⟩
    rw [He.out.1]
    rw [He.out.2.1] at ho1
    have o1 := BytesAt.own ho1
    have hn1 := o1.1
    rw [hn1] at ho1
    obtain ⟨g, rfl, hgB, hgH⟩ := own_form ho1 (by omega)
    have hcap : n1 ≤ c1 ∧ c1 ≤ maxLen := by
      rcases ho1.2 with ⟨hv, _⟩ | ⟨g', cap, cur, hv, _, _, hk, hk2, _⟩
      · cases hv
      · injection hv with _ _ h3; omega
    have Hp := Lib.hid (fun i (hi : i < (Sh.pad bs).length) => (show w1.cell? ⟨g, i, none⟩ = some (.int .u8 ((Sh.pad bs)[i].toNat : Int)) from own_cell ho1 (bcells_get (Sh.pad bs) i hi)))
    obtain ⟨m, hm⟩ : ∃ m, n1 = 64 * m := ⟨n1 / 64, by omega⟩
    have Hsum := Lib.hid (show Sh.sum bs = Sh.digest (Sh.absorb Sh.H0 (Sh.pad bs) m) by unfold Sh.sum; rw [hn1, hm, Nat.mul_div_cancel_left _ (by decide)])
    have Hm := Lib.hid hm
    have Hn1 := Lib.hid hn1
    have hn1u : n1 ≤ 2000 := by omega
    have hc1 := hcap.1
    have hc2 := hcap.2
    unfold maxLen at hc2
    clear hn1 ho1 hpl hpm o1 h hm hcap
    go_wp2_with fail
    refine (ref_rounds _).mono ?_
    rintro e w3 ⟨rfl, hK, hb3, hs3⟩
    have hs3' : w3.heap.size = w1.heap.size + 2 := by simpa using hs3
    have hH2 := ArrAt.new w1 69 Sh.H0 _ H0_cells
    have hH3 := hH2.below hb3 (by simp)
    have hB3 : Below w1.heap.size w1 w3 := ((Below.refl _ _).alloc (Nat.le_refl _) _).trans (hb3.mono (by simp))
    have hI : RefAt w1 (Sh.pad bs) g (w1.heap.size + 1) n1 c1 0 (.slice (some ⟨g, 0, none⟩) n1 c1) (.slice (some ⟨w1.heap.size, 0, none⟩) 8 8) w3 := ⟨_, _, rfl, fun _ => rfl, rfl, Nat.le_refl _, WordsAt.arr hH3, by simpa using WordsAt.arr hK, hB3⟩
    clear hK hb3 hs3 hs3' hH2 hH3 hB3
    go_wp2
    go_loopw [4, 6] (fun vp vh wr => ∃ k : Nat, k ≤ m ∧ RefAt w1 (Sh.pad bs) g (w1.heap.size + 1) n1 c1 k vp vh wr) (fun vp _ _ => lenV vp)
    case atStart => exact ⟨0, Nat.zero_le _, hI⟩
    case round =>
      clear hI
      obtain ⟨k, hk, ad, gh, rfl, had, rfl, hghB, hH, hK, hB⟩ := hrel
      by_cases hlt : 64 * k < n1
      · obtain rfl := had hlt
        have hm' := Hm.out
        obtain ⟨o, hoo⟩ : ∃ o, o = 64 * k := ⟨_, rfl⟩
        obtain ⟨r, hr⟩ : ∃ r, r = n1 - 64 * k := ⟨_, rfl⟩
        obtain ⟨cr, hcr⟩ : ∃ cr, cr = c1 - 64 * k := ⟨_, rfl⟩
        have hr64 : 64 ≤ r := by omega
        have hrc : r ≤ cr := by omega
        have hcr2 : cr ≤ 9223372036854775807 := by omega
        have ho64 : o + 64 ≤ n1 := by omega
        rw [← hr, ← hcr, ← hoo]
        have Hoo := Lib.hid hoo
        have Hr := Lib.hid hr
        have Hcr := Lib.hid hcr
        have hbl : (((Sh.pad bs).drop (64 * k)).take 64).length = 64 := by rw [List.length_take, List.length_drop, Hn1.out]; omega
        have Hbc := Lib.hid (show ∀ i (hi : i < (((Sh.pad bs).drop (64 * k)).take 64).length), w1.cell? ⟨g, o + i, none⟩ = some (.int .u8 ((((Sh.pad bs).drop (64 * k)).take 64)[i].toNat : Int)) by
          intro i hi
          have hi' : i < 64 := by rw [hbl] at hi; exact hi
          rw [Hp.out (o + i) (by rw [Hn1.out]; omega), List.getElem_take, List.getElem_drop]
          have e := Hoo.out
          subst e
          rfl)
        have Hstep := Lib.hid (show Sh.absorb Sh.H0 (Sh.pad bs) (k + 1) = Sh.compress (Sh.absorb Sh.H0 (Sh.pad bs) k) (Sh.wordsOf (((Sh.pad bs).drop (64 * k)).take 64)) from rfl)
        have Hlen := Lib.hid (Sh.absorb_length Sh.H0 (Sh.pad bs) H0_length k)
        have Hbl := Lib.hid hbl
        clear hbl hoo hr hcr hm' had hlt
        generalize ((Sh.pad bs).drop (64 * k)).take 64 = blk at *
        generalize hS : Sh.absorb Sh.H0 (Sh.pad bs) k = S at *
        clear hS
        obtain ⟨wo, hwo⟩ : ∃ wo, wo = wr := ⟨_, rfl⟩
        subst hwo
        obtain ⟨i0, hi, hz0, hz1, hz2⟩ := info_u32
        have Hi := Lib.hid (And.intro hi (And.intro hz0 (And.intro hz1 hz2)))
        clear hi hz0 hz1 hz2
        go_wp2_with (at_make; refine wpList_make_full _ rfl _ _ 70 rfl w1.heap.size 69 i0 (.int .u32 0) 1 Tryd.underlying70 Hi.out.1 Hi.out.2.1 Hi.out.2.2.1 _ _ _ _ 16 rfl rfl rfl rfl ?m3 ?m4 ?m5 ?_)
        case m3 => rw [Hi.out.2.2.2]; decide
        case m4 => decide
        case m5 => exact hB.size
        intro w4 hown hgrow
        rw [toList_madeCells_one, show List.replicate 16 (Value.int .u32 0) = wcells (List.replicate 16 0) from rfl] at hown
        have hA4 : ArrAt w4 wo.heap.size 69 (Sh.accW blk 0) := by
          rw [Sh.accW_zero]
          exact own_whole hown
        have hB4 : Below wo.heap.size wo w4 := (Below.refl _ _).grown hgrow (Nat.le_refl _) (fun k h => by cases h)
        clear hown hgrow
        go_wp2
        go_loopw [9] (fun v wi => ∃ i : Nat, i ≤ 64 ∧ v = .int .i64 i ∧ ArrAt wi wo.heap.size 69 (Sh.accW blk i) ∧ Below wo.heap.size wo wi) (fun v _ => 64 - (intOf v).toNat)
        case atStart => exact ⟨0, Nat.zero_le _, rfl, hA4, hB4⟩
        case round =>
          clear hA4 hB4 w4
          obtain ⟨i, hi, rfl, hA, hBi⟩ := hrel
          by_cases hlt : i < 64
          · obtain ⟨i4, hi4⟩ : ∃ i4, i4 = i / 4 := ⟨_, rfl⟩
            have y4 : (i : Int).tdiv 4 = (i4 : Int) := by rw [Int.tdiv_eq_ediv_of_nonneg (by omega)]; omega
            have y4' : (i : Int) / 4 = (i4 : Int) := by omega
            have hil : i < blk.length := by rw [Hbl.out]; exact hlt
            have cw1 := hA.cell i4 (by rw [Sh.accW_length]; omega)
            have fw1 := hA.frozen i4
            have cp1 : wr.cell? ⟨g, o + i, none⟩ = some (.int .u8 (blk[i].toNat : Int)) := by
              rw [hBi.cell (p := ⟨g, o + i, none⟩) (Nat.lt_of_lt_of_le hgH hB.size), hB.cell (p := ⟨g, o + i, none⟩) hgH]
              exact Hbc.out i hil
            have Hst := Lib.hid (Sh.accW_step blk i hil)
            rw [← hi4] at Hst
            have v0 := run_convert_byte blk[i]
            have bi : (i : Int) < (r : Int) := by omega
            have b4 : (i4 : Int) < 16 := by omega
            clear hi4
            generalize blk[i] = B0 at *
            generalize (Sh.accW blk i).getD i4 0 = X0 at *
            go_wp2_with fail
            go_region
            have hA5 : ArrAt (wr.setCell ⟨wo.heap.size, i4, none⟩ (U (X0 * 256 + BitVec.ofNat 32 B0.toNat))) wo.heap.size 69 (Sh.accW blk (i + 1)) := by rw [← Hst.out]; exact hA.set i4 _
            have hB5 := hBi.setCell (p := ⟨wo.heap.size, i4, none⟩) (by simp) (U (X0 * 256 + BitVec.ofNat 32 B0.toNat))
            clear cw1 fw1 cp1 v0 y4 y4' hA hBi Hst
            go_wp2
            go_roundw
            case rel => exact ⟨i + 1, by omega, by go_num, hA5.drew, hB5.drew⟩
            case measure => simp [intOf]; omega
          · have hi64 : i = 64 := by omega
            subst hi64
            rw [show ((64 : Nat) : Int) = (64 : Int) from rfl]
            rw [Sh.accW_end blk Hbl.out] at hA
            have hH' := hH.below hBi
            have hK' := hK.below hBi
            have hW' := WordsAt.arr hA
            have hB' : Below w1.heap.size w1 wr := hB.trans (hBi.mono hB.size)
            have Hwl := Lib.hid (Sh.wordsOf_length blk 16 (by rw [Hbl.out]))
            clear hH hK hA hBi hB
            by_cases hc64 : cr = 64
            all_goals
              go_wp2_with fail
              refine (ref_compressed gh wo.heap.size (w1.heap.size + 1) 8 16 64 S (Sh.wordsOf blk) _ Hlen.out Hwl.out hH' hW' hK').mono ?_
              rintro e w6 ⟨g6, rfl, hg6, hA6, hb6⟩
              rw [← Hstep.out] at hA6
              have hB6 : Below w1.heap.size w1 w6 := hB'.trans (hb6.mono hB'.size)
              have hK6 := hK'.below hb6
              have hW6 := WordsAt.arr hA6
              have hg6' : w1.heap.size ≤ g6 := Nat.le_trans hB'.size hg6
              clear hA6 hb6 hK' hW' hH' hB'
              have hmm := Hm.out
              have hoo := Hoo.out
              have hrr := Hr.out
              have hcc := Hcr.out
              have Hf := Lib.hid (show k + 1 ≤ m ∧ r - 64 = n1 - 64 * (k + 1) ∧ cr - 64 = c1 - 64 * (k + 1) ∧ o + 64 = 64 * (k + 1) ∧ (cr = 64 → ¬ 64 * (k + 1) < n1) by omega)
              clear hmm hoo hrr hcc
              go_wp2
              refine ⟨⟨k + 1, Hf.out.1, ?_⟩, by simp only [lenV]; omega⟩
              first
                | exact ⟨⟨g, o, none⟩, g6, by rw [← Hf.out.2.1, ← Hf.out.2.2.1, hc64], fun h => absurd h (Hf.out.2.2.2.2 hc64), rfl, hg6', hW6, hK6, hB6⟩
                | exact ⟨⟨g, o + 64, none⟩, g6, by rw [← Hf.out.2.1, ← Hf.out.2.2.1], fun _ => by rw [Hf.out.2.2.2.1], rfl, hg6', hW6, hK6, hB6⟩
      · have hkm : k = m := by have := Hm.out; omega
        have hz0 : n1 - 64 * k = 0 := by omega
        rw [hz0]
        have Hlen := Lib.hid (Sh.absorb_length Sh.H0 (Sh.pad bs) H0_length k)
        have Hfin := Lib.hid (show Sh.sumOut bs = Sh.digest (Sh.absorb Sh.H0 (Sh.pad bs) k) by rw [He.out.2.2, Hsum.out, hkm])
        obtain ⟨wo, hwo⟩ : ∃ wo, wo = wr := ⟨_, rfl⟩
        subst hwo
        generalize Sh.absorb Sh.H0 (Sh.pad bs) k = D at *
        clear hkm hz0 had hlt hK
        go_wp2
        go_loopw [10, 57] (fun v i wr => ∃ j : Nat, j ≤ 8 ∧ i = .int .i64 j ∧ OutAt D wo j v wr) (fun _ i _ => 8 - (intOf i).toNat)
        case atStart => exact ⟨0, Nat.zero_le _, rfl, none, 0, 0, rfl, rfl, World.ownsRow_nil _ _ _ _, Below.refl _ _⟩
        case round =>
          obtain ⟨j, hj, rfl, a2, n2, c2, rfl, hn2, ho2, hb2⟩ := hrel
          have Hn2 := Lib.hid hn2
          have hn2' : n2 ≤ 32 := by omega
          have hz2 := hb2.size
          clear hn2
          by_cases hlt : j < 8
          · obtain ⟨X, hX⟩ : ∃ X, X = D.getD j 0 := ⟨_, rfl⟩
            have c1 : wr.cell? ⟨gh, j, none⟩ = some (.int .u32 (X.toNat : Int)) := by
              rw [hX]; exact (hH.below hb2).2 j (by rw [Hlen.out]; exact hlt)
            have hXb := X.isLt
            have Hdig := Lib.hid (show bcells (inBytes D X j 4) = bcells (Sh.digest (D.take (j + 1))) by
              have hjl : j < D.length := by rw [Hlen.out]; exact hlt
              have e4 : (Sh.be4 X).take 4 = Sh.be4 X := List.take_of_length_le (Nat.le_of_eq (Sh.be4_length X))
              unfold inBytes
              rw [e4, List.take_succ_eq_append_getElem hjl, Sh.digest_append, hX, List.getD_eq_getElem?_getD, List.getElem?_eq_getElem hjl]
              simp [Sh.digest])
            clear hX
            obtain ⟨wq, hwq⟩ : ∃ wq, wq = wr := ⟨_, rfl⟩
            subst hwq
            have bj : (j : Int) < 8 := by omega
            go_wp2
            have hIn : InAt D X wo j n2 wq.heap.size 0 (.slice a2 n2 c2) (wq.alloc (.cells units 69)) := ⟨a2, n2, c2, rfl, rfl, by simpa [inBytes] using ho2.alloc _, hb2.alloc hz2 _, heap_alloc_last wq _, Lib.hid (fun h => by have := (ho2.lt _ h).2; omega)⟩
            clear c1 ho2 hb2 hz2
            go_loopw [10, 63] (fun v i wr => ∃ q : Nat, q ≤ 4 ∧ i = .int .i64 q ∧ InAt D X wo j n2 wq.heap.size q v wr) (fun _ i _ => 4 - (intOf i).toNat)
            case atStart => exact ⟨0, Nat.zero_le _, rfl, hIn⟩
            case round =>
              clear hIn
              obtain ⟨q, hq, rfl, a3, n3, c3, rfl, hn3, ho3, hb3, hu3, hne3⟩ := hrel
              have Hn3 := Lib.hid hn3
              have hn3' : n3 ≤ 36 := by omega
              have hz3 := hb3.size
              clear hn3
              have hq5 : q = 0 ∨ q = 1 ∨ q = 2 ∨ q = 3 ∨ q = 4 := by omega
              rcases hq5 with rfl | rfl | rfl | rfl | rfl
              · have cu : wr.cell? ⟨wq.heap.size, 0, none⟩ = some (.int .u32 16777216) := by rw [cell_of_row wr _ 0 _ _ _ hu3]; rfl
                have Hx := Lib.hid (in_step D X j 0 ((X.toNat : Int) / 16777216 % 256) (by decide) (in_v0 X))
                have Hne := hne3
                rw [show ((0 : Nat) : Int) = (0 : Int) from rfl]
                go_wp2_with (at_builtin; refine wpL_append8_at _ rfl _ _ rfl wo.heap.size _ n3 _ _ rfl (ho3.alloc _) _ 1 _ [_] rfl rfl ?e2 (news_new _ _ _) (one_one _ _) ?e4 ?e6 ?_)
                case e2 => intro h; cases h
                case e4 => omega
                case e6 => simp; omega
                intro a4 c4 w4 ho4 hg4 hat4
                have hI := in_next Hn3.out ho3 hb3 hu3 Hne.out ho4 hg4 (by simpa using hat4.out) Hx.out
                clear cu ho3 hb3 hz3 hu3 ho4 hg4 hat4
                go_wp2
                go_roundw
                case rel => exact ⟨1, by omega, by go_num, hI⟩
                case measure => simp [intOf]
              · have cu : wr.cell? ⟨wq.heap.size, 1, none⟩ = some (.int .u32 65536) := by rw [cell_of_row wr _ 1 _ _ _ hu3]; rfl
                have Hx := Lib.hid (in_step D X j 1 ((X.toNat : Int) / 65536 % 256) (by decide) (in_v1 X))
                have Hne := hne3
                rw [show ((1 : Nat) : Int) = (1 : Int) from rfl]
                go_wp2_with (at_builtin; refine wpL_append8_at _ rfl _ _ rfl wo.heap.size _ n3 _ _ rfl (ho3.alloc _) _ 1 _ [_] rfl rfl ?e2 (news_new _ _ _) (one_one _ _) ?e4 ?e6 ?_)
                case e2 => intro h; cases h
                case e4 => omega
                case e6 => simp; omega
                intro a4 c4 w4 ho4 hg4 hat4
                have hI := in_next Hn3.out ho3 hb3 hu3 Hne.out ho4 hg4 (by simpa using hat4.out) Hx.out
                clear cu ho3 hb3 hz3 hu3 ho4 hg4 hat4
                go_wp2
                go_roundw
                case rel => exact ⟨2, by omega, by go_num, hI⟩
                case measure => simp [intOf]
              · have cu : wr.cell? ⟨wq.heap.size, 2, none⟩ = some (.int .u32 256) := by rw [cell_of_row wr _ 2 _ _ _ hu3]; rfl
                have Hx := Lib.hid (in_step D X j 2 ((X.toNat : Int) / 256 % 256) (by decide) (in_v2 X))
                have Hne := hne3
                rw [show ((2 : Nat) : Int) = (2 : Int) from rfl]
                go_wp2_with (at_builtin; refine wpL_append8_at _ rfl _ _ rfl wo.heap.size _ n3 _ _ rfl (ho3.alloc _) _ 1 _ [_] rfl rfl ?e2 (news_new _ _ _) (one_one _ _) ?e4 ?e6 ?_)
                case e2 => intro h; cases h
                case e4 => omega
                case e6 => simp; omega
                intro a4 c4 w4 ho4 hg4 hat4
                have hI := in_next Hn3.out ho3 hb3 hu3 Hne.out ho4 hg4 (by simpa using hat4.out) Hx.out
                clear cu ho3 hb3 hz3 hu3 ho4 hg4 hat4
                go_wp2
                go_roundw
                case rel => exact ⟨3, by omega, by go_num, hI⟩
                case measure => simp [intOf]
              · have cu : wr.cell? ⟨wq.heap.size, 3, none⟩ = some (.int .u32 1) := by rw [cell_of_row wr _ 3 _ _ _ hu3]; rfl
                have Hx := Lib.hid (in_step D X j 3 ((X.toNat : Int) % 256) (by decide) (in_v3 X))
                have Hne := hne3
                rw [show ((3 : Nat) : Int) = (3 : Int) from rfl]
                go_wp2_with (at_builtin; refine wpL_append8_at _ rfl _ _ rfl wo.heap.size _ n3 _ _ rfl (ho3.alloc _) _ 1 _ [_] rfl rfl ?e2 (news_new _ _ _) (one_one _ _) ?e4 ?e6 ?_)
                case e2 => intro h; cases h
                case e4 => omega
                case e6 => simp; omega
                intro a4 c4 w4 ho4 hg4 hat4
                have hI := in_next Hn3.out ho3 hb3 hu3 Hne.out ho4 hg4 (by simpa using hat4.out) Hx.out
                clear cu ho3 hb3 hz3 hu3 ho4 hg4 hat4
                go_wp2
                go_roundw
                case rel => exact ⟨4, by omega, by go_num, hI⟩
                case measure => simp [intOf]
              · rw [show ((4 : Nat) : Int) = (4 : Int) from rfl]
                rw [Hdig.out] at ho3
                have hO : OutAt D wo (j + 1) (.slice a3 n3 c3) wr := ⟨a3, n3, c3, rfl, by have := Hn3.out; have := Hn2.out; omega, ho3, hb3⟩
                clear ho3 hb3 hz3 hu3
                go_wp2
                go_roundw
                case rel => exact ⟨j + 1, by omega, by go_num, hO⟩
                case measure => simp [intOf]; omega
          · have hj8 : j = 8 := by omega
            subst hj8
            rw [show ((8 : Nat) : Int) = (8 : Int) from rfl]
            rw [List.take_of_length_le (by rw [Hlen.out]; omega)] at ho2
            have hBf := hb1.trans ((hB.trans (hb2.mono hB.size)).mono hb1.size)
            have Hob := Lib.hid (ownsRow_base ho2 (Nat.le_trans hb1.size hB.size))
            clear ho2
            go_wp2
            go_ret2
            rw [He.out.1, Hfin.out]
            exact slicePost_own (err := 0) (n := n2) (c := c2) (a := a2) Hob.out hBf
end Go.Proofs.YthknkfiofdfogaaDoor
