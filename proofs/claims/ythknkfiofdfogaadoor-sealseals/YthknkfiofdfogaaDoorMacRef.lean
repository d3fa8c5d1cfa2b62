/- The contract of the reference's MacTag. -/
import Derived.Test.YthknkfiofdfogaaDoorMem3
import Derived.Test.YthknkfiofdfogaaDoorMacPlain
import Derived.Test.YthknkfiofdfogaaDoorHexFaultRef
import Derived.Test.YthknkfiofdfogaaDoorShaRefSum
namespace Go.Proofs.YthknkfiofdfogaaDoor
open Go.RowKit

/-- The two rows so far: k bytes of each block, in memory of the call's own, apart from each other. -/
def Both (ks : List UInt8) (B k : Nat) (vi vo : Value) (wr : World) : Prop :=
  ∃ ai ci ao co, vi = .slice ai k ci ∧ vo = .slice ao k co ∧ wr.ownsRow B 5 1 (.slice ai k ci) k (bcells ((Mc.keyed ks 54).take k)) ∧ wr.ownsRow B 5 1 (.slice ao k co) k (bcells ((Mc.keyed ks 92).take k)) ∧
    ∀ g, (Value.slice ai k ci).ownBlock = some g → (Value.slice ao k co).ownBlock ≠ some g
theorem keyed_get (ks : List UInt8) (m : UInt8) (k : Nat) (hl : ks.length = 32) (h : k < 64) : (Mc.keyed ks m)[k]? = some ((if k < 32 then ks.getD k 0 else 0) ^^^ m) := by
  unfold Mc.keyed Mc.block
  rw [List.getElem?_map]
  by_cases hk : k < 32
  · rw [List.getElem?_append_left (by omega), if_pos hk, List.getD_eq_getElem?_getD, List.getElem?_eq_getElem (by omega)]; rfl
  · rw [List.getElem?_append_right (by omega), if_neg hk, List.getElem?_replicate, if_pos (by omega)]; rfl
theorem keyed_snoc (ks : List UInt8) (m : UInt8) (k : Nat) (hl : ks.length = 32) (h : k < 64) (x : UInt8) (hx : x = if k < 32 then ks.getD k 0 else 0) :
    bcells ((Mc.keyed ks m).take k) ++ [.int .u8 ((x ^^^ m).toNat : Int)] = bcells ((Mc.keyed ks m).take (k + 1)) := by
  have hkl := Mc.keyed_length ks m (by omega)
  have hg := keyed_get ks m k hl h
  rw [← hx, List.getElem?_eq_getElem (by omega)] at hg
  injection hg with hg
  rw [List.take_succ_eq_append_getElem (by omega), hg, bcells_append]
  rfl
theorem keyed_cells (ks : List UInt8) (m : UInt8) (hl : ks.length = 32) : (Mc.keyed ks m).take 64 = Mc.keyed ks m := List.take_of_length_le (by rw [Mc.keyed_length _ _ (by omega)]; exact Nat.le_refl _)

set_option maxRecDepth 100000 in
set_option maxHeartbeats 1000000 in
theorem ref_MacTag (s : ByteArray) (a : Option Addr) (n c : Nat) (bs : List UInt8) (w : World) (hs : s.size ≤ maxLen) (h : BytesAt w w.heap.size a n bs) (hnil : a = none → n = 0 ∧ c = 0) (hn : n ≤ maxLen) :
    Calls Tryd.prog 25 #[.string s, .slice a n c] w (SlicePost (Mc.tagErr s.data.toList bs) (Mc.tagOut s.data.toList bs) w) := by
  have hl := h.1
  have hn' := hn
  unfold maxLen at hn'
  rcases Mc.check_three s.data.toList with he | he | he
  rotate_left
  · have He := Lib.hid (Mc.tag_bad s.data.toList bs (by rw [he]; decide))
    have Hc := Lib.hid he
    clear h hnil he
    go_enter Tryd.func25, Tryd.ntmps25
    go_wp2_with fail
    refine (ref_HexFault _ _ hs).mono ?_
    rintro e w1 ⟨rfl, hb1⟩
    rw [Hc.out]
    go_wp2
    go_ret2
    rw [He.out.1, He.out.2, Hc.out]
    exact slicePost_none (err := 1) hb1
  · have He := Lib.hid (Mc.tag_bad s.data.toList bs (by rw [he]; decide))
    have Hc := Lib.hid he
    clear h hnil he
    go_enter Tryd.func25, Tryd.ntmps25
    go_wp2_with fail
    refine (ref_HexFault _ _ hs).mono ?_
    rintro e w1 ⟨rfl, hb1⟩
    rw [Hc.out]
    go_wp2
    go_ret2
    rw [He.out.1, He.out.2, Hc.out]
    exact slicePost_none (err := 3) hb1
  · have Hc := Lib.hid he
    by_cases h9 : 936 < n
    · have He := Lib.hid (Mc.tag_long s.data.toList bs he (by omega))
      clear h hnil he
      go_enter Tryd.func25, Tryd.ntmps25
      go_wp2_with fail
      refine (ref_HexFault _ _ hs).mono ?_
      rintro e w1 ⟨rfl, hb1⟩
      rw [Hc.out]
      go_wp2
      go_ret2
      rw [He.out.1, He.out.2]
      exact slicePost_none (err := 1) hb1
    · have He := Lib.hid (Mc.tag_ok s.data.toList bs he (by omega))
      have Hk := Lib.hid (Mc.check_ok s.data.toList he)
      have Hnil := Lib.hid hnil
      have Hb := Lib.hid h
      clear h hnil he hl
      go_enter Tryd.func25, Tryd.ntmps25
      go_wp2_with fail
      refine (ref_HexFault _ _ hs).mono ?_
      rintro e w1 ⟨rfl, hb1⟩
      rw [Hc.out]
      have z1 := hb1.size
      go_wp2_with fail
      refine (ref_HexBytes _ _ hs).mono ?_
      rintro e w2 ⟨a2, n2, c2, rfl, ho2, hb2⟩
      rw [Hk.out.2.1]
      rw [Hk.out.2.2.1] at ho2
      have o2 := BytesAt.own ho2
      obtain rfl : n2 = 32 := by rw [← o2.1]; exact Hk.out.2.2.2
      have Ho2 := Lib.hid o2
      have hB2 := hb1.trans (hb2.mono z1)
      have z2 := hB2.size
      have Hb2 := Lib.hid ((Hb.out.below hB2).up z2)
      clear ho2 o2 hb1 hb2 z1
      obtain ⟨ks, hks⟩ : ∃ ks, ks = Hx.pairs s.data.toList := ⟨_, rfl⟩
      have Hkl := Lib.hid (show ks.length = 32 by rw [hks]; exact Hk.out.2.2.2)
      rw [← hks] at Ho2 He
      clear hks Hk
      go_wp2
      go_loopw [9, 10, 11] (fun vi vo i wr => ∃ k : Nat, k ≤ 64 ∧ i = .int .i64 k ∧ Both ks w2.heap.size k vi vo wr ∧ Below w2.heap.size w2 wr) (fun _ _ i _ => 64 - (intOf i).toNat)
      case atStart => exact ⟨0, Nat.zero_le _, rfl, ⟨none, 0, none, 0, rfl, rfl, World.ownsRow_nil _ _ _ _, World.ownsRow_nil _ _ _ _, fun g h => by cases h⟩, Below.refl _ _⟩
      case round =>
        obtain ⟨k, hk, rfl, ⟨ai, ci, ao, co, rfl, rfl, hoi, hoo, hap⟩, hB⟩ := hrel
        have hz := hB.size
        by_cases hlt : k < 64
        · obtain ⟨X, hX⟩ : ∃ X : UInt8, X = if k < 32 then ks.getD k 0 else 0 := ⟨_, rfl⟩
          have s54 := keyed_snoc ks 54 k Hkl.out hlt X hX
          have s92 := keyed_snoc ks 92 k Hkl.out hlt X hX
          have x54 : bits .xor .u8 (X.toNat : Int) 54 = ((X ^^^ 54).toNat : Int) := xor_u8 X 54
          have x92 : bits .xor .u8 (X.toNat : Int) 92 = ((X ^^^ 92).toNat : Int) := xor_u8 X 92
          generalize X ^^^ 54 = Z1 at *
          generalize X ^^^ 92 = Z2 at *
          have S54 := Lib.hid s54
          have S92 := Lib.hid s92
          have Hap := Lib.hid hap
          clear s54 s92 hap
          by_cases h32 : k < 32
          · rw [if_pos h32] at hX
            have Hcell : ∃ g off, a2 = some ⟨g, off, none⟩ ∧ wr.cell? ⟨g, off + k, none⟩ = some (.int .u8 (X.toNat : Int)) := by rw [hX]; exact bytes_lt (Ho2.out.below hB) h32
            clear hX
            obtain ⟨g, off, rfl, hc⟩ := Hcell
            go_wp2_with (at_builtin; refine wpL_append8_at _ rfl _ _ rfl w2.heap.size _ k _ _ rfl (hoi.alloc _) _ 1 _ [.int .u8 (Z1.toNat : Int)] rfl rfl ?e2 (news_new _ _ _) (one_one _ _) ?e4 ?e6 ?_)
            case e2 => intro h; cases h
            case e4 => omega
            case e6 => simp; omega
            intro a4 c4 w4 ho4 hg4 hat4
            rw [S54.out] at ho4
            have hB4 : Below w2.heap.size w2 w4 := below_own (hB.alloc hz _) (hoi.alloc _) hg4 (Nat.le_refl _) (by simp; omega)
            obtain ⟨hoo4, hap4⟩ := apart_grown (hoo.alloc _) Hap.out hg4 (hat4.out.imp id fun h => h.trans (by simp))
            have Hap4 := Lib.hid hap4
            have hz4 := hB4.size
            clear hg4 hat4 hoi hoo hB hap4 hc x54
            go_wp2_with (at_builtin; refine wpL_append8_at _ rfl _ _ rfl w2.heap.size _ k _ _ rfl (hoo4.alloc _) _ 1 _ [.int .u8 (Z2.toNat : Int)] rfl rfl ?f2 (news_new _ _ _) (one_one _ _) ?f4 ?f6 ?_)
            case f2 => intro h; cases h
            case f4 => omega
            case f6 => simp; omega
            intro a5 c5 w5 ho5 hg5 hat5
            rw [S92.out] at ho5
            have hB5 : Below w2.heap.size w2 w5 := below_own (hB4.alloc hz4 _) (hoo4.alloc _) hg5 (Nat.le_refl _) (by simp; omega)
            obtain ⟨hoi5, hap5⟩ := apart_grown (ho4.alloc _) (fun g h h' => Hap4.out g h' h) hg5 (hat5.out.imp id fun h => h.trans (by simp))
            have HB := Lib.hid (show Both ks w2.heap.size (k + 1) (.slice a4 (k + 1) c4) (.slice a5 (k + 1) c5) w5 from ⟨_, _, _, _, rfl, rfl, hoi5, ho5, fun g h h' => hap5 g h' h⟩)
            clear hg5 hat5 ho4 ho5 hoi5 hap5 hoo4 hB4 x92
            go_wp2
            go_roundw
            case rel => exact ⟨k + 1, by omega, by go_num, HB.out, hB5⟩
            case measure => simp [intOf]; omega
          · rw [if_neg h32] at hX
            subst hX
            have x54' : bits .xor .u8 0 54 = (Z1.toNat : Int) := x54
            have x92' : bits .xor .u8 0 92 = (Z2.toNat : Int) := x92
            clear x54 x92
            go_wp2_with (at_builtin; refine wpL_append8_at _ rfl _ _ rfl w2.heap.size _ k _ _ rfl (hoi.alloc _) _ 1 _ [.int .u8 (Z1.toNat : Int)] rfl rfl ?e2 (news_new _ _ _) (one_one _ _) ?e4 ?e6 ?_)
            case e2 => intro h; cases h
            case e4 => omega
            case e6 => simp; omega
            intro a4 c4 w4 ho4 hg4 hat4
            rw [S54.out] at ho4
            have hB4 : Below w2.heap.size w2 w4 := below_own (hB.alloc hz _) (hoi.alloc _) hg4 (Nat.le_refl _) (by simp; omega)
            obtain ⟨hoo4, hap4⟩ := apart_grown (hoo.alloc _) Hap.out hg4 (hat4.out.imp id fun h => h.trans (by simp))
            have Hap4 := Lib.hid hap4
            have hz4 := hB4.size
            clear hg4 hat4 hoi hoo hB hap4 x54'
            go_wp2_with (at_builtin; refine wpL_append8_at _ rfl _ _ rfl w2.heap.size _ k _ _ rfl (hoo4.alloc _) _ 1 _ [.int .u8 (Z2.toNat : Int)] rfl rfl ?f2 (news_new _ _ _) (one_one _ _) ?f4 ?f6 ?_)
            case f2 => intro h; cases h
            case f4 => omega
            case f6 => simp; omega
            intro a5 c5 w5 ho5 hg5 hat5
            rw [S92.out] at ho5
            have hB5 : Below w2.heap.size w2 w5 := below_own (hB4.alloc hz4 _) (hoo4.alloc _) hg5 (Nat.le_refl _) (by simp; omega)
            obtain ⟨hoi5, hap5⟩ := apart_grown (ho4.alloc _) (fun g h h' => Hap4.out g h' h) hg5 (hat5.out.imp id fun h => h.trans (by simp))
            have HB := Lib.hid (show Both ks w2.heap.size (k + 1) (.slice a4 (k + 1) c4) (.slice a5 (k + 1) c5) w5 from ⟨_, _, _, _, rfl, rfl, hoi5, ho5, fun g h h' => hap5 g h' h⟩)
            clear hg5 hat5 ho4 ho5 hoi5 hap5 hoo4 hB4 x92'
            go_wp2
            go_roundw
            case rel => exact ⟨k + 1, by omega, by go_num, HB.out, hB5⟩
            case measure => simp [intOf]; omega
        · obtain rfl : k = 64 := by omega
          rw [keyed_cells ks 54 Hkl.out] at hoi
          rw [keyed_cells ks 92 Hkl.out] at hoo
          have Hap := Lib.hid hap
          have Hbr := Lib.hid (Hb2.out.below hB)
          clear hap
          rw [show ((64 : Nat) : Int) = (64 : Int) from rfl]
          go_wp2_with (at_builtin; refine wpL_append8_at _ rfl _ _ rfl w2.heap.size _ 64 _ _ rfl hoi _ n _ (bcells bs) rfl ?c1 ?c2 ?c3 (bcells_one _) ?c4 ?c6 ?_)
          case c1 => rw [bcells_length]; exact Hb.out.1
          case c2 => exact Hnil.out
          case c3 => exact Hbr.out.news
          case c4 => omega
          case c6 => exact hz
          intro a3 c3 w3 ho3 hg3 hat3
          have hB3 : Below w2.heap.size w2 w3 := below_own hB hoi hg3 (Nat.le_refl _) hz
          obtain ⟨hoo3, -⟩ := apart_grown hoo Hap.out hg3 hat3.out
          rw [← bcells_append] at ho3
          have hl3 : (Mc.keyed ks 54 ++ bs).length = 64 + n := by rw [List.length_append, Mc.keyed_length _ _ (by rw [Hkl.out]; decide), Hb.out.1]
          have o3 : BytesAt w3 w3.heap.size a3 (64 + n) (Mc.keyed ks 54 ++ bs) := BytesAt.own (by rw [hl3]; exact ho3)
          have Hn3 := Lib.hid (own_nil ho3)
          have Hs3 := Lib.hid (sumOut_ok (Mc.keyed ks 54 ++ bs) (by omega))
          clear hg3 hat3 ho3 hl3 hB hz hoi hoo
          go_wp2_with fail
          refine (ref_ShaSum a3 (64 + n) c3 _ _ o3 Hn3.out (by unfold maxLen; omega)).mono ?_
          rintro e w4 ⟨a4, n4, c4, rfl, ho4, hb4⟩
          rw [Hs3.out.1]
          rw [Hs3.out.2.2] at ho4
          have o4 := BytesAt.own ho4
          have hn4 := o4.1
          rw [Sh.sum_length] at hn4
          subst hn4
          have hoo4 := own_below hoo3 hb4
          have hB4 := hB3.trans (hb4.mono hB3.size)
          have hz4 := hB4.size
          have Hn4 := Lib.hid (own_nil (show w4.ownsRow w3.heap.size 5 1 (.slice a4 32 c4) 32 _ by rw [Sh.sum_length] at ho4; exact ho4))
          have Ho4 := Lib.hid o4
          clear o3 ho4 hb4 hB3 hoo3 o4
          rw [show ((0 : Nat) : Int) = (0 : Int) from rfl]
          go_wp2_with (at_builtin; refine wpL_append8_at _ rfl _ _ rfl w2.heap.size _ 64 _ _ rfl hoo4 _ 32 _ (bcells (Sh.sum (Mc.keyed ks 54 ++ bs))) rfl ?d1 ?d2 ?d3 (bcells_one _) ?d4 ?d6 ?_)
          case d1 => rw [bcells_length, Sh.sum_length]
          case d2 => exact Hn4.out
          case d3 => exact Ho4.out.news
          case d4 => omega
          case d6 => exact hz4
          intro a5 c5 w5 ho5 hg5 hat5
          have hB5 : Below w2.heap.size w2 w5 := below_own hB4 hoo4 hg5 (Nat.le_refl _) hz4
          rw [← bcells_append] at ho5
          have hl5 : (Mc.keyed ks 92 ++ Sh.sum (Mc.keyed ks 54 ++ bs)).length = 64 + 32 := by rw [List.length_append, Mc.keyed_length _ _ (by rw [Hkl.out]; decide), Sh.sum_length]
          have o5 : BytesAt w5 w5.heap.size a5 (64 + 32) (Mc.keyed ks 92 ++ Sh.sum (Mc.keyed ks 54 ++ bs)) := BytesAt.own (by rw [hl5]; exact ho5)
          have Hn5 := Lib.hid (own_nil ho5)
          have Hs5 := Lib.hid (sumOut_ok (Mc.keyed ks 92 ++ Sh.sum (Mc.keyed ks 54 ++ bs)) (by omega))
          clear hg5 hat5 ho5 hl5 hB4 hoo4
          go_wp2_with fail
          refine (ref_ShaSum a5 (64 + 32) c5 _ _ o5 Hn5.out (by decide)).mono ?_
          rintro e w6 ⟨a6, n6, c6, rfl, ho6, hb6⟩
          rw [Hs5.out.1]
          rw [Hs5.out.2.2] at ho6
          have z5 := hB5.size
          have hB6 := hB2.trans ((hB5.trans (hb6.mono z5)).mono z2)
          have ho6' := ownsRow_base ho6 (Nat.le_trans z2 z5)
          clear o5 ho6 hb6 hB5
          go_wp2
          go_ret2
          rw [He.out.1, He.out.2]
          exact ⟨_, _, _, rfl, ho6', hB6⟩
end Go.Proofs.YthknkfiofdfogaaDoor
