/- The contract of the program's wire.Decode, where the type is known. -/
import Derived.Test.YtfgkodgdoplpbabWireCode5
import Derived.Test.YtfgkodgdoplpbabStructStore
namespace Go.Proofs.Ytfgkodgdoplpbab
open Go.RowKit

/-- Bytes of the call's own beside another block that is written. -/
theorem own_beside {w : World} {base n c m k i : Nat} {a : Option Addr} {bs : List UInt8} {t : TypeId} {xs : List Value} (ho : w.ownsRow base 5 1 (.slice a n c) m (bcells bs)) (hb : Blk w k t xs) (hx : xs.length ≤ maxLen) (hk : k < base) (u : Value) : (w.setCell ⟨k, i, none⟩ u).ownsRow base 5 1 (.slice a n c) m (bcells bs) :=
  ho.kept ((hb.row hx).stored i u).2 (by
    cases hb : (Value.slice a n c).ownBlock with
    | none => exact .inl rfl
    | some j => exact .inr (fun e => by injection e with e; have := (ho.lt j hb).1; omega))

set_option maxRecDepth 10000 in
set_option maxHeartbeats 8000000 in
theorem wire_Decode_known (b off n c : Nat) (bs : List UInt8) (w : World) (h : BytesAt w w.heap.size (some ⟨b, off, none⟩) n bs) (hc : n ≤ c) (h4 : 4 ≤ n) (hk : Wr.Known (Wr.kd bs)) :
    Calls Try.prog 13 #[.slice (some ⟨b, off, none⟩) n c] w (MessPost (Wr.decErr bs) (Wr.dk bs) (Wr.ds bs) (Wr.dr bs) (Wr.dc bs) (Wr.db bs) w) := by
  have hl := h.1
  have hA : Below w.heap.size w (w.alloc (.cells #[.int .i64 0, .int .i64 0, .int .i64 0, .int .i64 0, .slice none 0 0] 24)) := (Below.refl _ _).alloc (Nat.le_refl _) _
  have hP := Blk.new w 24 [.int .i64 0, .int .i64 0, .int .i64 0, .int .i64 0, .slice none 0 0]
  obtain ⟨_, _, e', b0⟩ := bytes_lt h (k := 0) (by omega)
  cases e'
  rw [Nat.add_zero] at b0
  have hbl : b < w.heap.size := by obtain ⟨_, _, e, hlt, _⟩ := h.2 (by omega); cases e; exact hlt
  obtain ⟨x0, x1, x2, hx', hL⟩ := shapeL_known hk
  clear hx'
  have HS : Hid (∀ W, Calls Try.prog 20 #[.int .i64 (Wr.kd bs : Int)] W fun e w' => e = .returned (.tuple #[.agg #[.int .i64 x0, .int .i64 x1, .int .i64 x2, .int .i64 (Wr.least (Wr.kd bs) : Int), .int .i64 (Wr.most (Wr.kd bs) : Int)], .bool true]) ∧ Below W.heap.size W w') := Lib.hid (fun W => by
    have := wire_shapeOf (Wr.kd bs) W
    rw [hL, decide_eq_true hk, Int.toNat_natCast] at this
    exact this)
  have HH : Hid (∀ W, Calls Try.prog 23 #[.agg #[.int .i64 x0, .int .i64 x1, .int .i64 x2, .int .i64 (Wr.least (Wr.kd bs) : Int), .int .i64 (Wr.most (Wr.kd bs) : Int)]] W fun e w' => e = .returned (.int .i64 (Wr.head (Wr.kd bs) : Int)) ∧ Below W.heap.size W w') := Lib.hid (fun W => by
    have := wire_headSize (Wr.kd bs) (by unfold Wr.Known at hk; omega) W
    rw [hL, Int.toNat_natCast] at this
    exact this.mono fun e w' h => ⟨h.1, by rw [h.2]; exact (Below.refl _ _).alloc (Nat.le_refl _) _⟩)
  have HR : Hid (∀ W, Below w.heap.size w W → Wr.head (Wr.kd bs) ≤ n → Calls Try.prog 27 #[.slice (some ⟨b, off, none⟩) n c, .agg #[.int .i64 x0, .int .i64 x1, .int .i64 x2, .int .i64 (Wr.least (Wr.kd bs) : Int), .int .i64 (Wr.most (Wr.kd bs) : Int)]] W fun e w' => ∃ off', e = .returned (.agg #[.int .i64 (Wr.kd bs : Int), .int .i64 (Wr.rs bs : Int), .int .i64 (Wr.rr bs : Int), .int .i64 (Wr.rc bs), .slice (some ⟨b, off', none⟩) (n - Wr.head (Wr.kd bs)) (c - Wr.head (Wr.kd bs))]) ∧
      BytesAt w' w'.heap.size (some ⟨b, off', none⟩) (n - Wr.head (Wr.kd bs)) (Wr.rb bs) ∧ Below W.heap.size W w') := Lib.hid (fun W hW hn => by
    have := wire_read b off n c bs W ((h.below hW).up hW.size) hc hk hn
    rw [hL, Int.toNat_natCast] at this
    exact this.mono fun e w' ⟨o, h1, h2, h3⟩ => ⟨o, h1, h2.up h3.size, h3⟩)
  have HE := Lib.hid (fun e => Wr.early (bs := bs) (by rw [hl]; exact h4) e)
  have HD := Lib.hid (Wr.late (bs := bs) (by rw [hl]; exact h4) hk)
  have Hx := Lib.hid (Wr.dec_err bs)
  have HA := Lib.hid hA
  have HP := Lib.hid hP
  have HK := Lib.hid hk
  have Hb := Lib.hid h
  have Hl := Lib.hid hl
  have hx := (bs.getD 0 0).toNat_lt
  have Hkd : Hid ((bs.getD 0 0).toNat = Wr.kd bs) := Lib.hid rfl
  rw [Hkd.out] at b0 hx
  have i0 : 0 < n := by omega
  have h4i : ¬ (n : Int) < 4 := by omega
  have Hl1 : Hid ((w.alloc (.cells #[.int .i64 0, .int .i64 0, .int .i64 0, .int .i64 0, .slice none 0 0] 24)).heap.size = w.heap.size + 1) := Lib.hid (by simp)
  clear hl h hP hA hk hL
  go_enter Try.func13, Try.ntmps13
  go_wp2_with fail
  refine (HS.out _).mono ?_
  rintro e w2 ⟨rfl, hb2⟩
  have hP2 := HP.out.kept hb2
  have hb3 : Below w2.heap.size w2 (w2.alloc (.cells #[.int .i64 x0, .int .i64 x1, .int .i64 x2, .int .i64 (Wr.least (Wr.kd bs) : Int), .int .i64 (Wr.most (Wr.kd bs) : Int)] 45)) := (Below.refl _ _).alloc (Nat.le_refl _) _
  have hP3 := hP2.kept hb3
  have hQ3 := Blk.new w2 45 [.int .i64 x0, .int .i64 x1, .int .i64 x2, .int .i64 (Wr.least (Wr.kd bs) : Int), .int .i64 (Wr.most (Wr.kd bs) : Int)]
  have hB3 := (HA.out.trans (hb2.mono HA.out.size)).alloc (Nat.le_trans HA.out.size hb2.size) (.cells #[.int .i64 x0, .int .i64 x1, .int .i64 x2, .int .i64 (Wr.least (Wr.kd bs) : Int), .int .i64 (Wr.most (Wr.kd bs) : Int)] 45)
  have hb := Hb.out.below hB3
  have hPl := hP2.lt
  clear b0 hP2 hb2 hb3
  obtain ⟨w3, hw3⟩ : ∃ w3, w3 = w2.alloc (.cells #[.int .i64 x0, .int .i64 x1, .int .i64 x2, .int .i64 (Wr.least (Wr.kd bs) : Int), .int .i64 (Wr.most (Wr.kd bs) : Int)] 45) := ⟨_, rfl⟩
  rw [← hw3] at hP3 hQ3 hB3 hb
  have hz3 : w3.heap.size = w2.heap.size + 1 := by rw [hw3]; simp
  have HW3 := Lib.hid hw3
  have Hz3 := Lib.hid hz3
  clear hw3 hz3
  go_upto_region 4 with fail
  rw [← HW3.out]
  obtain ⟨_, _, e', b1⟩ := bytes_lt hb (k := 1) (by omega)
  cases e'
  obtain ⟨_, _, e', b2⟩ := bytes_lt hb (k := 2) (by omega)
  cases e'
  obtain ⟨_, _, e', b3⟩ := bytes_lt hb (k := 3) (by omega)
  cases e'
  have HB3 := Lib.hid hB3
  have HP3 := Lib.hid hP3
  have HQ3 := Lib.hid hQ3
  have i1 : 1 < n := by omega
  have i2 : 2 < n := by omega
  have i3 : 3 < n := by omega
  have i1' : (1 : Int) < n := by omega
  have i2' : (2 : Int) < n := by omega
  have i3' : (3 : Int) < n := by omega
  clear hb hB3 hQ3
  clear hP3
  by_cases hz1 : bs.getD 1 0 = 0
  · by_cases hz2 : bs.getD 2 0 = 0
    · by_cases hz3 : bs.getD 3 0 = 0
      · have hz : ¬ (bs.getD 1 0 ≠ 0 ∨ bs.getD 2 0 ≠ 0 ∨ bs.getD 3 0 ≠ 0) := fun h => by
          rcases h with h | h | h
          · exact h hz1
          · exact h hz2
          · exact h hz3
        rw [hz1] at b1
        rw [hz2] at b2
        rw [hz3] at b3
        have HZ := Lib.hid hz
        clear hz hz1 hz2 hz3
        have hQ := HQ3.out.facts5.1
        obtain ⟨s0, s1, s2, s3, s4⟩ := hQ
        go_wp2_with fail
        refine (HH.out _).mono ?_
        rintro e w4 ⟨rfl, hb4⟩
        have hB4 := HB3.out.trans (hb4.mono HB3.out.size)
        have hP4 := HP3.out.kept hb4
        have hQ4 := HQ3.out.kept hb4
        clear s0 s1 s2 s3 s4 b1 b2 b3 hb4
        by_cases hhd : n < Wr.head (Wr.kd bs)
        · have he : Wr.decErr bs = 8 := HE.out 8 (.inr (.inr ⟨HK.out, HZ.out, by rw [Hl.out]; exact hhd, rfl⟩))
          have Hx' := Lib.hid (Hx.out (by rw [he]; decide))
          have He := Lib.hid he
          have HB4 := Lib.hid hB4
          have HP4 := Lib.hid hP4
          clear he hP4 hB4 hQ4
          go_wp2_with (refine wpL_storeBlk (o := ⟨none, _, _, _, _, _⟩) rfl 24 (.tmp 2) (.tmp 45) rfl w.heap.size _ [.int .i64 0, .int .i64 0, .int .i64 0, .int .i64 0, .slice none 0 0] rfl rfl HP4.out size_mess rfl rfl ?_)
          intro w11 hk11 hg11 hz11
          have HK11 := Lib.hid hk11
          have HB11 := Lib.hid (below_row HB4.out hg11 HB4.out.size (Nat.le_refl _))
          clear hk11 hg11 hz11
          go_wp2
          exact bodyPost_ret (ret_cell (load_mess HK11.out rfl) Try.results13 rfl rfl) rfl (by rw [He.out, Hx'.out.1, Hx'.out.2.1, Hx'.out.2.2.1, Hx'.out.2.2.2.1, Hx'.out.2.2.2.2]; exact messPost_none (err := 8) HB11.out)
        · have Hlate := Lib.hid (HD.out HZ.out (by rw [Hl.out]; omega))
          have hhd2 : Wr.head (Wr.kd bs) ≤ n := by omega
          have H5 := Lib.hid (HR.out w4 hB4 hhd2)
          have HP4 := Lib.hid hP4
          have HB4 := Lib.hid hB4
          obtain ⟨s0, s1, s2, s3, s4⟩ := hQ4.facts5.1
          clear hP4 hB4 hQ4 HR HE HD HZ HH HS HP3 HQ3 HB3
          go_wp2_with fail
          refine H5.out.mono ?_
          rintro e w5 ⟨o5, rfl, hb5, hB5⟩
          clear s0 s1 s2 s3 s4 H5
          -- the message read, in a block of its own
          have hP5 := HP4.out.kept hB5
          have hM6 := Blk.new w5 24 [.int .i64 (Wr.kd bs : Int), .int .i64 (Wr.rs bs : Int), .int .i64 (Wr.rr bs : Int), .int .i64 (Wr.rc bs), .slice (some ⟨b, o5, none⟩) (n - Wr.head (Wr.kd bs)) (c - Wr.head (Wr.kd bs))]
          have hb6 : Below w5.heap.size w5 (w5.alloc (.cells #[.int .i64 (Wr.kd bs : Int), .int .i64 (Wr.rs bs : Int), .int .i64 (Wr.rr bs : Int), .int .i64 (Wr.rc bs), .slice (some ⟨b, o5, none⟩) (n - Wr.head (Wr.kd bs)) (c - Wr.head (Wr.kd bs))] 24)) := (Below.refl _ _).alloc (Nat.le_refl _) _
          have hP6 := hP5.kept hb6
          have hB6 := HB4.out.trans ((hB5.trans (hb6.mono hB5.size)).mono HB4.out.size)
          have hby := (hb5.below hb6).up hb6.size
          have hPl5 := hP5.lt
          have HC := Lib.hid (fun W => wire_Check (Wr.kd bs) (Wr.rs bs) (Wr.rr bs) (Wr.rc bs) (some ⟨b, o5, none⟩) (n - Wr.head (Wr.kd bs)) (c - Wr.head (Wr.kd bs)) W)
          have hrl : (Wr.rb bs).length = n - Wr.head (Wr.kd bs) := hb5.1
          have Hrl := Lib.hid hrl
          rw [hrl] at Hlate
          obtain ⟨w6, hw6⟩ : ∃ w6, w6 = w5.alloc (.cells #[.int .i64 (Wr.kd bs : Int), .int .i64 (Wr.rs bs : Int), .int .i64 (Wr.rr bs : Int), .int .i64 (Wr.rc bs), .slice (some ⟨b, o5, none⟩) (n - Wr.head (Wr.kd bs)) (c - Wr.head (Wr.kd bs))] 24) := ⟨_, rfl⟩
          rw [← hw6] at hM6 hP6 hB6 hby
          have hz6 : w6.heap.size = w5.heap.size + 1 := by rw [hw6]; simp
          have HW6 := Lib.hid hw6
          have Hz6 := Lib.hid hz6
          have Hby := Lib.hid hby
          have HP6 := Lib.hid hP6
          have HM6 := Lib.hid hM6
          have HB6 := Lib.hid hB6
          obtain ⟨m0, m1, m2, m3, m4⟩ := hM6.facts5.1
          clear hP5 hb6 hP6 hB6 hby hM6 hw6 hz6 hb5 hB5 hrl HP4 HB4
          unfold messV at HC
          go_upto_region 11 with fail
          rw [← HW6.out]
          go_wp2_with fail
          refine (HC.out _).mono ?_
          rintro e w7 ⟨rfl, hb7⟩
          have hP7 := HP6.out.kept hb7
          have hM7 := HM6.out.kept hb7
          have hB7 := HB6.out.trans (hb7.mono HB6.out.size)
          have hby7 := (Hby.out.below hb7).up hb7.size
          have z7 := hb7.size
          clear m0 m1 m2 m3 m4 hb7
          by_cases he0 : Wr.decErr bs = 0
          · have he1 : Wr.err (Wr.kd bs) (Wr.rs bs) (Wr.rr bs) (Wr.rc bs) (n - Wr.head (Wr.kd bs)) = 0 := Hlate.out.symm.trans he0
            rw [he1]
            have hnb : n - Wr.head (Wr.kd bs) ≤ 236 := by
              have := (Wr.err_zero.1 he1).2.2.2.2
              have h2 : Wr.most ((Wr.kd bs : Nat) : Int).toNat ≤ 236 := by unfold Wr.most; split <;> (try split) <;> omega
              omega
            have HCl := Lib.hid (bytes_Clone (some ⟨b, o5, none⟩) (n - Wr.head (Wr.kd bs)) (c - Wr.head (Wr.kd bs)) (Wr.rb bs) w7 hby7 (fun h => by cases h) (by omega))
            have HDs : Hid (Wr.dk bs = Wr.kd bs ∧ Wr.ds bs = Wr.rs bs ∧ Wr.dr bs = Wr.rr bs ∧ Wr.dc bs = Wr.rc bs ∧ Wr.db bs = Wr.rb bs) := Lib.hid ⟨if_pos he0, if_pos he0, if_pos he0, if_pos he0, if_pos he0⟩
            have He0 := Lib.hid he0
            have m4 := hM7.facts5.1.2.2.2.2
            have HP7 := Lib.hid hP7
            have HM7 := Lib.hid hM7
            have HB7 := Lib.hid hB7
            clear he1 he0 hby7 hP7 hM7 hB7
            go_wp2_with fail
            refine HCl.out.mono ?_
            rintro e w8 ⟨a8, n8, c8, rfl, ho8, hb8⟩
            have hP8 := HP7.out.kept hb8
            have hM8 := HM7.out.kept hb8
            have hB8 := HB7.out.trans (hb8.mono HB7.out.size)
            have hn8 := (BytesAt.own ho8).1
            have h5 : 5 ≤ maxLen := by decide
            have m4 := hM8.cell 4 rfl
            have f4 := hM8.frozen h5 4
            have hM9 := hM8.set h5 4 (.slice a8 n8 c8)
            have hne : w.heap.size ≠ w5.heap.size := by omega
            have hP9 := hP8.other (i := 4) (k := w5.heap.size) hne (.slice a8 n8 c8)
            have Ho9 := own_beside (i := 4) ho8 hM8 h5 (by have := Hz6.out; omega) (.slice a8 n8 c8)
            have HB9 : Below w.heap.size w (w8.setCell ⟨w5.heap.size, 4, none⟩ (.slice a8 n8 c8)) := hB8.setCell (by show w.heap.size ≤ w5.heap.size; omega) _
            have hnn := own_none ho8
            have hcp : n8 ≤ c8 := by
              have ho8' := ho8
              rw [hn8] at ho8'
              exact (own_cap ho8').1
            clear hP8 hM8 hB8
            go_upto_region 15 with fail
            clear m4 f4
            obtain ⟨w9, hw9⟩ : ∃ w9, w9 = w8.setCell ⟨w5.heap.size, 4, none⟩ (.slice a8 n8 c8) := ⟨_, rfl⟩
            rw [← hw9] at hM9 hP9 Ho9 HB9 ⊢
            clear hw9
            obtain ⟨m0, m1, m2, m3, m4⟩ := hM9.facts5.1
            have HP9 := Lib.hid hP9
            have HO9 := Lib.hid Ho9
            have HB9' := Lib.hid HB9
            have hz7 : w.heap.size < w7.heap.size := by have := Hz6.out; omega
            have Hnn := Lib.hid hnn
            have Hcp := Lib.hid hcp
            clear hP9 hM9 Ho9 HB9 ho8 hnn hcp h5 hne hb8
            go_wp2_with (refine wpL_storeBlk (o := ⟨none, _, _, _, _, _⟩) rfl 24 (.tmp 2) (.tmp 59) rfl w.heap.size _ [.int .i64 (Wr.kd bs : Int), .int .i64 (Wr.rs bs : Int), .int .i64 (Wr.rr bs : Int), .int .i64 (Wr.rc bs), .slice a8 n8 c8] rfl rfl HP9.out size_mess rfl rfl ?_)
            intro w11 hk11 hg11 hz11
            have HK11 := Lib.hid hk11
            have HO11 := Lib.hid (own_beside_row HO9.out hg11 hz7)
            have HB11 := Lib.hid (below_row HB9'.out hg11 HB9'.out.size (Nat.le_refl _))
            clear hk11 hg11 hz11 m0 m1 m2 m3 m4
            go_wp2
            refine bodyPost_ret (ret_cell (load_mess HK11.out rfl) Try.results13 rfl rfl) rfl ?_
            rw [He0.out, HDs.out.1, HDs.out.2.1, HDs.out.2.2.1, HDs.out.2.2.2.1, HDs.out.2.2.2.2]
            exact ⟨a8, n8, c8, rfl, BytesAt.own HO11.out, Hnn.out, Hcp.out, HB11.out⟩
          · have hne : ¬ (Wr.err (Wr.kd bs) (Wr.rs bs) (Wr.rr bs) (Wr.rc bs) (n - Wr.head (Wr.kd bs)) : Int) = 0 := fun e => he0 (Hlate.out.trans (by omega))
            have Hx' := Lib.hid (Hx.out he0)
            have He := Lib.hid Hlate.out.symm
            have HB7 := Lib.hid hB7
            have HP7 := Lib.hid hP7
            clear hP7 hB7 hM7 hby7 he0 Hlate Hx HC Hl Hrl
            generalize hEe : Wr.err (Wr.kd bs) (Wr.rs bs) (Wr.rr bs) (Wr.rc bs) (n - Wr.head (Wr.kd bs)) = E at *
            have hEd := Lib.hid He.out
            clear hEe He
            go_wp2_with (refine wpL_storeBlk (o := ⟨none, _, _, _, _, _⟩) rfl 24 (.tmp 2) (.tmp 53) rfl w.heap.size _ [.int .i64 0, .int .i64 0, .int .i64 0, .int .i64 0, .slice none 0 0] rfl rfl HP7.out size_mess rfl rfl ?_)
            intro w11 hk11 hg11 hz11
            have HK11 := Lib.hid hk11
            have HB11 := Lib.hid (below_row HB7.out hg11 HB7.out.size (Nat.le_refl _))
            clear hk11 hg11 hz11
            go_wp2
            exact bodyPost_ret (ret_cell (load_mess HK11.out rfl) Try.results13 rfl rfl) rfl (by rw [Hx'.out.1, Hx'.out.2.1, Hx'.out.2.2.1, Hx'.out.2.2.2.1, Hx'.out.2.2.2.2, ← hEd.out]; exact messPost_none HB11.out)
      · have he : Wr.decErr bs = 3 := HE.out 3 (.inr (.inl ⟨HK.out, .inr (.inr hz3), rfl⟩))
        rw [hz1] at b1
        rw [hz2] at b2
        have hne := byte_ne hz3
        have hne' : ¬ (bs.getD 3 0).toNat = 0 := by omega
        have Hx' := Lib.hid (Hx.out (by rw [he]; decide))
        have He := Lib.hid he
        clear he hz1 hz2 hz3
        generalize (bs.getD 3 0).toNat = y at *
        go_wp2_with (refine wpL_storeBlk (o := ⟨none, _, _, _, _, _⟩) rfl 24 (.tmp 2) (.tmp 39) rfl w.heap.size _ [.int .i64 0, .int .i64 0, .int .i64 0, .int .i64 0, .slice none 0 0] rfl rfl HP3.out size_mess rfl rfl ?_)
        intro w11 hk11 hg11 hz11
        have HK11 := Lib.hid hk11
        have HB11 := Lib.hid (below_row HB3.out hg11 HB3.out.size (Nat.le_refl _))
        clear hk11 hg11 hz11
        go_wp2
        exact bodyPost_ret (ret_cell (load_mess HK11.out rfl) Try.results13 rfl rfl) rfl (by rw [He.out, Hx'.out.1, Hx'.out.2.1, Hx'.out.2.2.1, Hx'.out.2.2.2.1, Hx'.out.2.2.2.2]; exact messPost_none (err := 3) HB11.out)
    · have he : Wr.decErr bs = 3 := HE.out 3 (.inr (.inl ⟨HK.out, .inr (.inl hz2), rfl⟩))
      rw [hz1] at b1
      have hne := byte_ne hz2
      have hne' : ¬ (bs.getD 2 0).toNat = 0 := by omega
      have Hx' := Lib.hid (Hx.out (by rw [he]; decide))
      have He := Lib.hid he
      clear he hz1 hz2
      generalize (bs.getD 2 0).toNat = y at *
      go_wp2_with (refine wpL_storeBlk (o := ⟨none, _, _, _, _, _⟩) rfl 24 (.tmp 2) (.tmp 39) rfl w.heap.size _ [.int .i64 0, .int .i64 0, .int .i64 0, .int .i64 0, .slice none 0 0] rfl rfl HP3.out size_mess rfl rfl ?_)
      intro w11 hk11 hg11 hz11
      have HK11 := Lib.hid hk11
      have HB11 := Lib.hid (below_row HB3.out hg11 HB3.out.size (Nat.le_refl _))
      clear hk11 hg11 hz11
      go_wp2
      exact bodyPost_ret (ret_cell (load_mess HK11.out rfl) Try.results13 rfl rfl) rfl (by rw [He.out, Hx'.out.1, Hx'.out.2.1, Hx'.out.2.2.1, Hx'.out.2.2.2.1, Hx'.out.2.2.2.2]; exact messPost_none (err := 3) HB11.out)
  · have he : Wr.decErr bs = 3 := HE.out 3 (.inr (.inl ⟨HK.out, .inl hz1, rfl⟩))
    have hne := byte_ne hz1
    have hne' : ¬ (bs.getD 1 0).toNat = 0 := by omega
    have Hx' := Lib.hid (Hx.out (by rw [he]; decide))
    have He := Lib.hid he
    clear he hz1
    generalize (bs.getD 1 0).toNat = y at *
    go_wp2_with (refine wpL_storeBlk (o := ⟨none, _, _, _, _, _⟩) rfl 24 (.tmp 2) (.tmp 39) rfl w.heap.size _ [.int .i64 0, .int .i64 0, .int .i64 0, .int .i64 0, .slice none 0 0] rfl rfl HP3.out size_mess rfl rfl ?_)
    intro w11 hk11 hg11 hz11
    have HK11 := Lib.hid hk11
    have HB11 := Lib.hid (below_row HB3.out hg11 HB3.out.size (Nat.le_refl _))
    clear hk11 hg11 hz11
    go_wp2
    exact bodyPost_ret (ret_cell (load_mess HK11.out rfl) Try.results13 rfl rfl) rfl (by rw [He.out, Hx'.out.1, Hx'.out.2.1, Hx'.out.2.2.1, Hx'.out.2.2.2.1, Hx'.out.2.2.2.2]; exact messPost_none (err := 3) HB11.out)
end Go.Proofs.Ytfgkodgdoplpbab
