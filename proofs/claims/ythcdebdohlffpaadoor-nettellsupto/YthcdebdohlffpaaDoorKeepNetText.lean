/- The contract of the laws' own NetText. -/
import Derived.Test.YthcdebdohlffpaaDoorAddrRef2
import Derived.Test.YthcdebdohlffpaaDoorShelfJoin
import Derived.Test.YthcdebdohlffpaaDoorMemG
import Derived.Deep.WholeRow
import Derived.Deep.RegionHeld3
namespace Go.Proofs.YthcdebdohlffpaaDoor
open Go.RowKit

def octs (a : Nat) : List (List UInt8) := [Lib.decDigits (a / 16777216), Lib.decDigits (a / 65536 % 256), Lib.decDigits (a / 256 % 256), Lib.decDigits (a % 256)]
def scells (ls : List (List UInt8)) : List Value := ls.map fun l => .string (strOf l)
theorem u32_and_255 (x : Nat) (hx : x < 4294967296) : bits .and .u32 (x : Int) 255 = ((x % 256 : Nat) : Int) := by
  show IntKind.u32.wrap ((BitVec.ofInt 32 (x : Int) &&& BitVec.ofInt 32 (255 : Int)).toNat : Int) = _
  rw [BitVec.toNat_and, BitVec.ofInt_natCast, BitVec.toNat_ofNat, Nat.mod_eq_of_lt (by omega), show (BitVec.ofInt 32 (255 : Int)).toNat = 2 ^ 8 - 1 from rfl, Nat.and_two_pow_sub_one_eq_mod, IntKind.wrap_u32]
  omega
/-- The pieces so far. -/
def Pieces (a : Nat) (wb : World) (k : Nat) (v : Value) (wr : World) : Prop :=
  ∃ av c, v = .slice av k c ∧ wr.ownsRow wb.heap.size 9 1 (.slice av k c) k (scells ((octs a).take k)) ∧ Below wb.heap.size wb wr
theorem one_str (t : ByteArray) : ∀ u ∈ [Value.string t], u.oneCell' = true := by
  intro u hu; simp at hu; subst hu; rfl
theorem news_str (w : World) (x : Value) (t : TypeId) : ∀ ad, (some (⟨w.heap.size, 0, none⟩ : Addr)) = some ad → ∀ j u, [x][j]? = some u → (w.alloc (.cells #[x] t)).cell? (ad.add j) = some u := by
  intro ad h j u hj
  cases h
  exact news_one w x t j u hj
theorem join_text (a : Nat) : Lib.join (((octs a).map strOf).map (·.data.toList)) (⟨#[46]⟩ : ByteArray).data.toList = Ad.text a := by
  unfold octs Ad.text
  simp only [List.map_cons, List.map_nil, strOf_list, Lib.join]
  simp [List.intercalate]
theorem text_short (a : Nat) (ha : a < 4294967296) : (Ad.text a).length ≤ 43 := by
  have h1 := dec_short (a / 16777216) (by omega)
  have h2 := dec_short (a / 65536 % 256) (by omega)
  have h3 := dec_short (a / 256 % 256) (by omega)
  have h4 := dec_short (a % 256) (by omega)
  unfold Ad.text
  simp only [List.length_append, List.length_cons]
  omega
theorem itoa_short (b : Int) (b0 : -9223372036854775808 ≤ b) (b1 : b ≤ 9223372036854775807) : (Lib.itoa b).length ≤ 21 := by
  unfold Lib.itoa
  split
  · have := dec_len 19 b.natAbs (by omega)
    simp only [List.length_cons]
    omega
  · have := dec_len 19 b.toNat (by omega)
    omega
theorem net_text (x y : List UInt8) : strOf x ++ (⟨#[47]⟩ : ByteArray) ++ strOf y = ⟨(x ++ 47 :: y).toArray⟩ := by
  apply WideShapes.bytes_inj
  simp only [ByteArray.data_append, Array.toList_append, strOf_list, List.append_assoc, List.cons_append, List.nil_append]
theorem info_str : ∃ i, Tryd.prog.info? 9 = some i ∧ i.zero = some (.string ByteArray.empty) ∧ i.size = 1 ∧ i.bytes = 16 := info_parts (by kernel_rfl)

set_option maxRecDepth 100000 in
set_option maxHeartbeats 800000 in
theorem keep_NetText (a : Nat) (b : Int) (w : World) (ha : a < 4294967296) (b0 : -9223372036854775808 ≤ b) (b1 : b ≤ 9223372036854775807) (hT : PowTab w) :
    Calls Tryd.prog 10 #[.agg #[.int .u32 (a : Int), .int .i64 b]] w fun e w' => e = .returned (.string ⟨(Ad.text a ++ 47 :: Lib.itoa b).toArray⟩) ∧ Below w.heap.size w w' := by
  obtain ⟨wb, hwb⟩ : ∃ wb, wb = w.alloc (.cells #[.int .u32 (a : Int), .int .i64 b] 24) := ⟨_, rfl⟩
  have hbw : Below w.heap.size w wb := by rw [hwb]; exact (Below.refl _ _).alloc (Nat.le_refl _) _
  have HT := Lib.hid (hT.below hbw)
  have hzb : wb.heap.size = w.heap.size + 1 := by rw [hwb]; simp
  have HB := Lib.hid hbw
  have C0 : Hid (∀ W, Below wb.heap.size wb W → W.cell? ⟨w.heap.size, 0, none⟩ = some (.int .u32 (a : Int))) := Lib.hid fun W hW => by
    rw [hW.cell (show (⟨w.heap.size, 0, none⟩ : Addr).block < wb.heap.size by show w.heap.size < _; omega), hwb, cell_of_row _ _ 0 _ _ _ (heap_alloc_last w _)]; rfl
  have C1 : Hid (∀ W, Below wb.heap.size wb W → W.cell? ⟨w.heap.size, 1, none⟩ = some (.int .i64 b)) := Lib.hid fun W hW => by
    rw [hW.cell (show (⟨w.heap.size, 1, none⟩ : Addr).block < wb.heap.size by show w.heap.size < _; omega), hwb, cell_of_row _ _ 1 _ _ _ (heap_alloc_last w _)]; rfl
  have HW := Lib.hid hwb
  obtain ⟨i0, hi0⟩ := info_str
  have Hi := Lib.hid hi0
  clear hT hbw hwb hi0 hzb
  go_enter Tryd.func10, Tryd.ntmps10
  go_wp2
  go_loopw [3, 4] (fun v i wr => ∃ k : Nat, k ≤ 4 ∧ i = .int .i64 (24 - 8 * (k : Int)) ∧ Pieces a wb k v wr) (fun _ i _ => (intOf i + 8).toNat)
  case atStart => exact ⟨0, by decide, rfl, none, 0, rfl, World.ownsRow_nil _ _ _ _, by rw [HW.out]; exact Below.refl _ _⟩
  case round =>
    obtain ⟨k, hk, rfl, av, c, rfl, ho, hB⟩ := hrel
    have c0 := C0.out _ hB
    have c1 := C1.out _ hB
    have hk4 : k = 0 ∨ k = 1 ∨ k = 2 ∨ k = 3 ∨ k = 4 := by omega
    clear hk
    rcases hk4 with rfl | rfl | rfl | rfl | rfl
    · rw [show (24 - 8 * ((0 : Nat) : Int)) = (24 : Int) from rfl]
      have q : bits .and .u32 ((a : Int) / 16777216) 255 = ((a / 16777216 : Nat) : Int) := by have := u32_and_255 (a / 16777216) (by omega); rw [Nat.mod_eq_of_lt (by omega)] at this; exact this
      go_wp2_with fail
      refine (itoa_from (a / 16777216) (by omega) wr wr (Below.refl _ _) (HT.out.below hB)).mono ?_
      rintro e w1 ⟨t, rfl, Ht, zt, hB1⟩
      have ho1 := own_below ho hB1
      have hb1 := hB.trans (hB1.mono hB.size)
      have hz1 := hb1.size
      clear ho hB hB1 q
      go_wp2_with (at_builtin; refine wpList_append_any _ rfl _ _ 49 rfl wb.heap.size 9 i0 (.string ByteArray.empty) 16 Tryd.underlying49 Hi.out.1 Hi.out.2.1 Hi.out.2.2.1 Hi.out.2.2.2 rfl av 0 c _ rfl (ho1.alloc _) _ 1 _ [.string t] rfl rfl ?e2 (news_str _ _ _) (one_str _) ?e4 ?e5 ?e6 ?_)
      case e2 => intro h; cases h
      case e4 => decide
      case e5 => decide
      case e6 => simp; omega
      intro a4 c4 w4 ho4 hg4
      have hB4 : Below wb.heap.size wb w4 := below_own (hb1.alloc hz1 _) (ho1.alloc _) hg4 (Nat.le_refl _) (by simp; omega)
      have HP : Hid (Pieces a wb 1 (.slice a4 1 c4) w4) := Lib.hid ⟨_, _, rfl, by
        have e : t = strOf (Lib.decDigits (a / 16777216)) := by rw [← Ht.out, strOf_eq]
        rw [e] at ho4
        exact ho4, hB4⟩
      clear ho4 hg4 hB4 ho1 hb1
      go_wp2
      go_roundw
      case rel => exact ⟨1, by decide, rfl, HP.out⟩
      case measure => simp [intOf]
    · rw [show (24 - 8 * ((1 : Nat) : Int)) = (16 : Int) from rfl]
      have q : bits .and .u32 ((a : Int) / 65536) 255 = ((a / 65536 % 256 : Nat) : Int) := u32_and_255 (a / 65536) (by omega)
      go_wp2_with fail
      refine (itoa_from (a / 65536 % 256) (by omega) wr wr (Below.refl _ _) (HT.out.below hB)).mono ?_
      rintro e w1 ⟨t, rfl, Ht, zt, hB1⟩
      have ho1 := own_below ho hB1
      have hb1 := hB.trans (hB1.mono hB.size)
      have hz1 := hb1.size
      clear ho hB hB1 q
      go_wp2_with (at_builtin; refine wpList_append_any _ rfl _ _ 49 rfl wb.heap.size 9 i0 (.string ByteArray.empty) 16 Tryd.underlying49 Hi.out.1 Hi.out.2.1 Hi.out.2.2.1 Hi.out.2.2.2 rfl av 1 c _ rfl (ho1.alloc _) _ 1 _ [.string t] rfl rfl ?e2 (news_str _ _ _) (one_str _) ?e4 ?e5 ?e6 ?_)
      case e2 => intro h; cases h
      case e4 => decide
      case e5 => decide
      case e6 => simp; omega
      intro a4 c4 w4 ho4 hg4
      have hB4 : Below wb.heap.size wb w4 := below_own (hb1.alloc hz1 _) (ho1.alloc _) hg4 (Nat.le_refl _) (by simp; omega)
      have HP : Hid (Pieces a wb 2 (.slice a4 2 c4) w4) := Lib.hid ⟨_, _, rfl, by
        have e : t = strOf (Lib.decDigits (a / 65536 % 256)) := by rw [← Ht.out, strOf_eq]
        rw [e] at ho4
        exact ho4, hB4⟩
      clear ho4 hg4 hB4 ho1 hb1
      go_wp2
      go_roundw
      case rel => exact ⟨2, by decide, rfl, HP.out⟩
      case measure => simp [intOf]
    · rw [show (24 - 8 * ((2 : Nat) : Int)) = (8 : Int) from rfl]
      have q : bits .and .u32 ((a : Int) / 256) 255 = ((a / 256 % 256 : Nat) : Int) := u32_and_255 (a / 256) (by omega)
      go_wp2_with fail
      refine (itoa_from (a / 256 % 256) (by omega) wr wr (Below.refl _ _) (HT.out.below hB)).mono ?_
      rintro e w1 ⟨t, rfl, Ht, zt, hB1⟩
      have ho1 := own_below ho hB1
      have hb1 := hB.trans (hB1.mono hB.size)
      have hz1 := hb1.size
      clear ho hB hB1 q
      go_wp2_with (at_builtin; refine wpList_append_any _ rfl _ _ 49 rfl wb.heap.size 9 i0 (.string ByteArray.empty) 16 Tryd.underlying49 Hi.out.1 Hi.out.2.1 Hi.out.2.2.1 Hi.out.2.2.2 rfl av 2 c _ rfl (ho1.alloc _) _ 1 _ [.string t] rfl rfl ?e2 (news_str _ _ _) (one_str _) ?e4 ?e5 ?e6 ?_)
      case e2 => intro h; cases h
      case e4 => decide
      case e5 => decide
      case e6 => simp; omega
      intro a4 c4 w4 ho4 hg4
      have hB4 : Below wb.heap.size wb w4 := below_own (hb1.alloc hz1 _) (ho1.alloc _) hg4 (Nat.le_refl _) (by simp; omega)
      have HP : Hid (Pieces a wb 3 (.slice a4 3 c4) w4) := Lib.hid ⟨_, _, rfl, by
        have e : t = strOf (Lib.decDigits (a / 256 % 256)) := by rw [← Ht.out, strOf_eq]
        rw [e] at ho4
        exact ho4, hB4⟩
      clear ho4 hg4 hB4 ho1 hb1
      go_wp2
      go_roundw
      case rel => exact ⟨3, by decide, rfl, HP.out⟩
      case measure => simp [intOf]
    · rw [show (24 - 8 * ((3 : Nat) : Int)) = (0 : Int) from rfl]
      have q : bits .and .u32 ((a : Int)) 255 = ((a % 256 : Nat) : Int) := u32_and_255 a ha
      go_wp2_with fail
      refine (itoa_from (a % 256) (by omega) wr wr (Below.refl _ _) (HT.out.below hB)).mono ?_
      rintro e w1 ⟨t, rfl, Ht, zt, hB1⟩
      have ho1 := own_below ho hB1
      have hb1 := hB.trans (hB1.mono hB.size)
      have hz1 := hb1.size
      clear ho hB hB1 q
      go_wp2_with (at_builtin; refine wpList_append_any _ rfl _ _ 49 rfl wb.heap.size 9 i0 (.string ByteArray.empty) 16 Tryd.underlying49 Hi.out.1 Hi.out.2.1 Hi.out.2.2.1 Hi.out.2.2.2 rfl av 3 c _ rfl (ho1.alloc _) _ 1 _ [.string t] rfl rfl ?e2 (news_str _ _ _) (one_str _) ?e4 ?e5 ?e6 ?_)
      case e2 => intro h; cases h
      case e4 => decide
      case e5 => decide
      case e6 => simp; omega
      intro a4 c4 w4 ho4 hg4
      have hB4 : Below wb.heap.size wb w4 := below_own (hb1.alloc hz1 _) (ho1.alloc _) hg4 (Nat.le_refl _) (by simp; omega)
      have HP : Hid (Pieces a wb 4 (.slice a4 4 c4) w4) := Lib.hid ⟨_, _, rfl, by
        have e : t = strOf (Lib.decDigits (a % 256)) := by rw [← Ht.out, strOf_eq]
        rw [e] at ho4
        exact ho4, hB4⟩
      clear ho4 hg4 hB4 ho1 hb1
      go_wp2
      go_roundw
      case rel => exact ⟨4, by decide, rfl, HP.out⟩
      case measure => simp [intOf]
    · rw [show (24 - 8 * ((4 : Nat) : Int)) = (-8 : Int) from rfl]
      have HBb := Lib.hid (HB.out.trans (hB.mono HB.out.size))
      have Hcp := own_cap ho
      obtain ⟨g, rfl, hg1, hg2⟩ := own_form ho (by decide)
      have C1' : Hid (∀ W, Below wr.heap.size wr W → W.cell? ⟨w.heap.size, 1, none⟩ = some (.int .i64 b)) := Lib.hid fun W hW => C1.out W (hB.trans (hW.mono hB.size))
      have HJ : Hid (∀ W, (W.cell? ⟨w.heap.size, 1, none⟩ = some (.int .i64 b) ∧ Below wr.heap.size wr W) → Calls Tryd.prog 24 #[.slice (some ⟨g, 0, none⟩) 4 c, .string ⟨#[46]⟩] W fun e W' => e = .returned (.string (strOf (Ad.text a))) ∧ (W'.cell? ⟨w.heap.size, 1, none⟩ = some (.int .i64 b) ∧ Below wr.heap.size wr W')) := Lib.hid fun W hW => by
        have hj := Tryd.strings_Join g 0 c ((octs a).map strOf) ⟨#[46]⟩ W (fun j x hj => by
          rw [hW.2.cell (show (⟨g, 0 + j, none⟩ : Addr).block < wr.heap.size from hg2), Nat.zero_add]
          refine own_cell ho ?_
          rw [show (octs a).take 4 = octs a from rfl]
          unfold scells
          rw [List.getElem?_map] at hj ⊢
          cases ho' : (octs a)[j]? with
          | none => rw [ho'] at hj; cases hj
          | some l => rw [ho'] at hj; injection hj with hj; rw [← hj]; rfl) (Nat.lt_of_lt_of_le hg2 hW.2.size) (by show 4 ≤ _; decide) Hcp.1 (by rw [join_text]; have := text_short a ha; omega)
        rw [join_text] at hj
        refine hj.mono ?_
        rintro e W' ⟨rfl, hb⟩
        have hB' := hW.2.trans (hb.mono hW.2.size)
        exact ⟨rfl, C1'.out _ hB', hB'⟩
      have HI : Hid (∀ W, (W.cell? ⟨w.heap.size, 1, none⟩ = some (.int .i64 b) ∧ Below wr.heap.size wr W) → Calls Tryd.prog 13 #[.int .i64 b] W fun e W' => e = .returned (.string (strOf (Lib.itoa b))) ∧ (W'.cell? ⟨w.heap.size, 1, none⟩ = some (.int .i64 b) ∧ Below wr.heap.size wr W')) := Lib.hid fun W hW => by
        refine (lib_Itoa b W b0 b1 ((HT.out.below hB).below hW.2)).mono ?_
        rintro e W' ⟨rfl, hb⟩
        have hB' := hW.2.trans (hb.mono hW.2.size)
        exact ⟨rfl, C1'.out _ hB', hB'⟩
      have z1 : (strOf (Ad.text a)).size ≤ 100 := by rw [strOf_size]; have := text_short a ha; omega
      have z2 : (strOf (Lib.itoa b)).size ≤ 100 := by rw [strOf_size]; have := itoa_short b b0 b1; omega
      have HX := Lib.hid (show (strOf (Ad.text a) ++ (⟨#[47]⟩ : ByteArray) ++ strOf (Lib.itoa b)) = ⟨(Ad.text a ++ 47 :: Lib.itoa b).toArray⟩ from net_text _ _)
      generalize strOf (Ad.text a) = X at *
      generalize strOf (Lib.itoa b) = Y at *
      have sz1 : (X ++ (⟨#[47]⟩ : ByteArray)).size = X.size + 1 := by rw [ByteArray.size_append]; rfl
      have n1 : (X.size + (⟨#[47]⟩ : ByteArray).size > 9223372036854775807) = False := eq_false (by show ¬ (X.size + 1 > _); omega)
      have n2 : ((X ++ (⟨#[47]⟩ : ByteArray)).size + Y.size > 9223372036854775807) = False := eq_false (by rw [sz1]; omega)
      have n3 : (9223372036854775807 < X.size + 1) = False := eq_false (by omega)
      have n4 : (9223372036854775807 < X.size + 1 + Y.size) = False := eq_false (by omega)
      clear z1 z2
      clear ho hB Hcp c0 hg1 hg2
      go_wp2_with fail
      go_region_held3 (fun W => W.cell? ⟨w.heap.size, 1, none⟩ = some (.int .i64 b) ∧ Below wr.heap.size wr W) (first | assumption | (exact ⟨c1, (Below.refl _ _).drew⟩))
        (first
          | (go_at_call 24; refine (HJ.out _ (by first | assumption | exact ⟨c1, (Below.refl _ _).drew⟩)).mono ?_; rintro e w5 ⟨rfl, hS5⟩)
          | (go_at_call 13; refine (HI.out _ (by first | assumption | exact ⟨c1, (Below.refl _ _).drew⟩)).mono ?_; rintro e w6 ⟨rfl, hS6⟩))
      go_wp2
      go_ret
      exact ⟨by rw [HX.out]; rfl, HBb.out.trans (hS6.2.mono HBb.out.size)⟩
end Go.Proofs.YthcdebdohlffpaaDoor
