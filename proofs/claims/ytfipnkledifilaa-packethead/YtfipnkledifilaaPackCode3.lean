/- The contracts of the program's packet.Check and packet.Encode. -/
import Derived.Test.YtfipnkledifilaaPackCode2
namespace Go.Proofs.Ytfipnkledifilaa
open Go.RowKit

def packV (s d : Nat) (a : Option Addr) (n c : Nat) : Value := .agg #[.int .u32 (s : Int), .int .u32 (d : Int), .slice a n c]
/-- The cells of a packet in a block of its own, and behind what leaves it. -/
theorem pack_cells {w w' : World} {g : Nat} {x y z : Value} {t : TypeId} {fz : Nat × Nat} (hg : w.heap[g]? = some (.cells #[x, y, z] t fz)) (hb : Below w.heap.size w w') :
    w'.cell? ⟨g, 0, none⟩ = some x ∧ w'.cell? ⟨g, 1, none⟩ = some y ∧ w'.cell? ⟨g, 2, none⟩ = some z := by
  have h := (hb.block g (Array.getElem?_eq_some_iff.1 hg).1).trans hg
  refine ⟨?_, ?_, ?_⟩ <;> rw [cell_of_row _ _ _ _ _ _ h] <;> rfl
theorem Pk.encErr_cases (n : Nat) : (200 < n ∧ Pk.encErr n = 1) ∨ (n ≤ 200 ∧ Pk.encErr n = 0) := by
  unfold Pk.encErr
  by_cases h : 200 < n
  · exact .inl ⟨h, if_pos h⟩
  · exact .inr ⟨by omega, if_neg h⟩

set_option maxHeartbeats 800000 in
theorem packet_Check (s d n c : Nat) (a : Option Addr) (w : World) :
    Calls Try.prog 28 #[packV s d a n c] w fun e w' => e = .returned (.int .i64 (Pk.encErr n : Int)) ∧ Below w.heap.size w w' := by
  have hA : Below w.heap.size w (w.alloc (.cells #[.int .u32 (s : Int), .int .u32 (d : Int), .slice a n c] 57)) := (Below.refl _ _).alloc (Nat.le_refl _) _
  have hc := pack_cells (heap_alloc_last w (.cells #[.int .u32 (s : Int), .int .u32 (d : Int), .slice a n c] 57)) (Below.refl _ _)
  obtain ⟨c0, c1, c2⟩ := hc
  unfold packV
  rcases Pk.encErr_cases n with ⟨h, he⟩ | ⟨h, he⟩
  all_goals
    have He := Lib.hid he
    clear he
    go_enter Try.func28, Try.ntmps28
    go_wp2
    go_ret
    exact ⟨by rw [He.out]; rfl, hA⟩

theorem own_zero {w : World} {g m : Nat} (hg : w.heap[g]? = some (.cells (bcells (List.replicate m 0)).toArray 5 (0, 0))) (hm : m ≤ maxLen) : w.ownsRow g 5 1 (.slice (some ⟨g, 0, none⟩) 0 m) 0 (bcells []) := by
  have h := own_part (base := g) (n := 0) hg (Nat.le_refl _) (by rw [bcells_length, List.length_replicate]) (Nat.zero_le _) hm
  simpa [bcells] using h

theorem belowDrewN' {k : Nat} {w w' : World} (h : Below k w w') (n : Nat) : Below k w (w'.drewN n) := ⟨h.os, h.tape, h.output, h.size, fun j hj => h.block j hj⟩
theorem size_drewN' (w : World) (n : Nat) : (w.drewN n).heap.size = w.heap.size := rfl
theorem Pk.ck_le' (n s d : Nat) : Pk.ck n s d ≤ 65535 := by unfold Pk.ck; omega

set_option maxRecDepth 10000 in
set_option maxHeartbeats 4000000 in
theorem packet_Encode (s d n c : Nat) (a : Option Addr) (bs : List UInt8) (w : World) (hs : s < 4294967296) (hd : d < 4294967296) (h : BytesAt w w.heap.size a n bs) (hnil : a = none → n = 0 ∧ c = 0) :
    Calls Try.prog 29 #[packV s d a n c] w (SlicePost (Pk.encErr n) (Pk.encOut s d bs) w) := by
  have hA : Below w.heap.size w (w.alloc (.cells #[.int .u32 (s : Int), .int .u32 (d : Int), .slice a n c] 57)) := (Below.refl _ _).alloc (Nat.le_refl _) _
  have hP := heap_alloc_last w (.cells #[.int .u32 (s : Int), .int .u32 (d : Int), .slice a n c] 57)
  have hz : (w.alloc (.cells #[.int .u32 (s : Int), .int .u32 (d : Int), .slice a n c] 57)).heap.size = w.heap.size + 1 := by simp
  obtain ⟨c0, c1, c2⟩ := pack_cells hP (Below.refl _ _)
  have HC := Lib.hid (fun W => packet_Check s d n c a W)
  have Hb := Lib.hid h
  have Hn := Lib.hid hnil
  have hl := h.1
  unfold packV at HC ⊢
  clear h hnil
  rcases Pk.encErr_cases n with ⟨hlt, he⟩ | ⟨hlt, he⟩
  · have He := Lib.hid he
    have Ho := Lib.hid (show Pk.encOut s d bs = [] by unfold Pk.encOut; rw [if_pos (by omega)])
    rw [he] at HC
    clear he hl
    go_enter Try.func29, Try.ntmps29
    go_wp2_with fail
    refine (HC.out _).mono ?_
    rintro e w1 ⟨rfl, hb1⟩
    have hB1 := hA.trans (hb1.mono (by omega))
    go_wp2
    go_ret2
    rw [He.out, Ho.out]
    exact slicePost_none (err := 1) hB1
  · have He := Lib.hid he
    have Ho := Lib.hid (show Pk.encOut s d bs = Pk.enc s d bs by unfold Pk.encOut; rw [if_neg (by omega)])
    have Hl := Lib.hid hl
    rw [he] at HC
    clear he hl
    go_enter Try.func29, Try.ntmps29
    go_wp2_with fail
    refine (HC.out _).mono ?_
    rintro e w1 ⟨rfl, hb1⟩
    have hB1 := hA.trans (hb1.mono (by omega))
    have z1 := hb1.size
    obtain ⟨d0, d1, d2⟩ := pack_cells hP hb1
    have P1 := Lib.hid ((hb1.block w.heap.size (by omega)).trans hP)
    clear hb1 hP c0 c1 c2
    obtain ⟨B, hB⟩ : ∃ B, B = w1.heap.size := ⟨_, rfl⟩
    have Hz := Lib.hid hB
    clear hB
    go_wp2_with (refine wpL_make8 _ rfl _ _ rfl .i64 .i64 _ _ 0 (20 + n) rfl rfl rfl (by push_cast; rfl) (by omega) (by omega) ?_)
    intro w2 hg2 hgr2
    have ho2 := own_zero hg2 (by unfold maxLen; omega)
    have hk2 : Below w1.heap.size w1 w2 := (Below.refl _ _).grown hgr2 (Nat.le_refl _) (fun k h => by cases h)
    rw [← Hz.out] at ho2 hk2 ⊢
    have hBw : w.heap.size < B := by rw [Hz.out]; omega
    have hBB : B ≤ w2.heap.size := by rw [Hz.out]; exact hk2.size
    clear hg2 hgr2 d0 d1 d2
    go_wp2_with (at_builtin; refine wpL_append8 _ rfl _ _ rfl B _ 0 _ _ rfl (ho2.alloc _) _ 2 _ [.int .u8 69, .int .u8 0] rfl rfl (by intro h; cases h) (fun ad h => by cases h; exact news_row _ _ _) (by simp [Value.oneCell']) (by omega) (by simp; omega) ?_)
    intro a3 c3 w3 ho3 hg3
    have hk3 : Below B w1 w3 := below_own (hk2.alloc (by omega) _) (ho2.alloc _) hg3 (Nat.le_refl _) (by simp; omega)
    have ho3' : w3.ownsRow B 5 1 (.slice a3 2 c3) 2 (bcells [69, 0]) := ho3
    have z3 : B ≤ w3.heap.size := by rw [Hz.out]; exact hk3.size
    clear ho3 hg3 ho2 hk2
    go_wp2_with fail
    refine (packet_appendWord B 2 c3 a3 [69, 0] (20 + n) _ ho3' (by omega) (by omega) (by omega)).mono ?_
    rintro e w4 ⟨a4, c4, rfl, ho4, hb4⟩
    have hk4 := hk3.trans (hb4.mono (Nat.le_refl _))
    have z4 : B ≤ w4.heap.size := by rw [Hz.out]; exact hk4.size
    clear ho3' hk3 hb4 z3
    go_wp2_with (at_builtin; refine wpL_append8 _ rfl _ _ rfl B _ 4 _ _ rfl (ho4.alloc _) _ 6 _ [.int .u8 0, .int .u8 0, .int .u8 0, .int .u8 0, .int .u8 64, .int .u8 253] rfl rfl (by intro h; cases h) (fun ad h => by cases h; exact news_row _ _ _) (by simp [Value.oneCell']) (by omega) (by simp; omega) ?_)
    intro a5 c5 w5 ho5 hg5
    have hk5 : Below B w1 w5 := below_own (hk4.alloc (by omega) _) (ho4.alloc _) hg5 (Nat.le_refl _) (by simp; omega)
    have ho5' : w5.ownsRow B 5 1 (.slice a5 10 c5) 10 (bcells (([69, 0] ++ Pk.w2 (20 + n)) ++ [0, 0, 0, 0, 64, 253])) := by rw [bcells_append]; exact ho5
    have z5 : B ≤ w5.heap.size := by rw [Hz.out]; exact hk5.size
    clear ho5 hg5 ho4 hk4 z4
    go_wp2_with fail
    refine (packet_appendWord B 10 c5 a5 _ 0 _ ho5' (by omega) (by omega) (by omega)).mono ?_
    rintro e w6 ⟨a6, c6, rfl, ho6, hb6⟩
    have hk6 := hk5.trans (hb6.mono (Nat.le_refl _))
    have z6 : B ≤ w6.heap.size := by rw [Hz.out]; exact hk6.size
    obtain ⟨d0, d1, d2⟩ := pack_cells P1.out (by rw [← Hz.out]; exact hk6)
    clear ho5' hk5 hb6 z5
    go_wp2_with fail
    refine (packet_appendAddress B 12 c6 a6 _ s _ ho6 hs (by omega) (by omega)).mono ?_
    rintro e w7 ⟨a7, c7, rfl, ho7, hb7⟩
    have hk7 := hk6.trans (hb7.mono (Nat.le_refl _))
    have z7 : B ≤ w7.heap.size := by rw [Hz.out]; exact hk7.size
    clear d0 d1 d2
    obtain ⟨d0, d1, d2⟩ := pack_cells P1.out (by rw [← Hz.out]; exact hk7)
    clear ho6 hk6 hb7 z6
    go_wp2_with fail
    refine (packet_appendAddress B 16 c7 a7 _ d _ ho7 hd (by omega) (by omega)).mono ?_
    rintro e w8 ⟨a8, c8, rfl, ho8, hb8⟩
    have hk8 := hk7.trans (hb8.mono (Nat.le_refl _))
    have z8 : B ≤ w8.heap.size := by rw [Hz.out]; exact hk8.size
    clear d0 d1 d2 ho7 hk7 hb8 z7
    have ho8' : w8.ownsRow B 5 1 (.slice a8 20 c8) 20 (bcells (Pk.head n s d 0)) := ho8
    clear ho8
    obtain ⟨g, rfl, hgB, hgH⟩ := own_form ho8' (by decide)
    have hcap := own_cap ho8'
    go_wp2_with fail
    refine (packet_checksum g 0 c8 w8.heap.size _ _ (BytesAt.own ho8') hcap.1).mono ?_
    rintro e w9 ⟨rfl, m, rfl⟩
    have hk9 : Below B w1 (w8.drewN m) := belowDrewN' hk8 m
    have ho9 := own_below ho8' (belowDrewN' (Below.refl w8.heap.size w8) m)
    have hz9 : (w8.drewN m).heap.size = w8.heap.size := by rw [size_drewN']
    have z9 : B ≤ (w8.drewN m).heap.size := by rw [hz9]; exact z8
    clear ho8' hk8 z8 hz9 hgH
    generalize w8.drewN m = W at *
    have Hck := Lib.hid (show 65535 - Pk.fold (Pk.bsum (Pk.head n s d 0) 20) = Pk.ck n s d from rfl)
    rw [Hck.out]
    have hv := Pk.ck_le' n s d
    have hhead : ∀ x, bcells (Pk.head n s d x) = bcells (((Pk.head n s d 0).set 10 (UInt8.ofNat (x / 2 ^ 8))).set 11 (UInt8.ofNat x)) := fun x => rfl
    have Hh := Lib.hid (hhead (Pk.ck n s d))
    have He2 := Lib.hid (show Pk.enc s d bs = Pk.head n s d (Pk.ck n s d) ++ bs by unfold Pk.enc; rw [Hl.out])
    have r10 : W.cell? ⟨g, 10, none⟩ = some (.int .u8 0) := own_cell ho9 rfl
    have r11 : W.cell? ⟨g, 11, none⟩ = some (.int .u8 0) := own_cell ho9 rfl
    have f10 := ho9.frozenAt 10
    have f11 := ho9.frozenAt 11
    generalize Pk.ck n s d = v at *
    have hsr : ∀ t, binOp .shr t (.int .i64 (v : Int)) (.int .u64 8) = pure (.int .i64 ((v / 2 ^ 8 : Nat) : Int)) := fun t => i64_shr t v 8 (by decide)
    have e1 := u8_of (v / 2 ^ 8)
    have e2 := u8_of v
    have hq : v / 2 ^ 8 ≤ 65535 := by omega
    have ho10 := ((ho9.stored 10 (.int .u8 ((UInt8.ofNat (v / 2 ^ 8)).toNat : Int))).1).stored 11 (.int .u8 ((UInt8.ofNat v).toNat : Int))
    rw [bcells_set, bcells_set, ← Hh.out] at ho10
    have hk10 : Below B w1 ((W.setCell ⟨g, 10, none⟩ (.int .u8 ((UInt8.ofNat (v / 2 ^ 8)).toNat : Int))).setCell ⟨g, 11, none⟩ (.int .u8 ((UInt8.ofNat v).toNat : Int))) := (hk9.setCell hgB _).setCell hgB _
    obtain ⟨d0, d1, d2⟩ := pack_cells P1.out (by rw [← Hz.out]; exact hk10)
    have z10 : B ≤ ((W.setCell ⟨g, 10, none⟩ (.int .u8 ((UInt8.ofNat (v / 2 ^ 8)).toNat : Int))).setCell ⟨g, 11, none⟩ (.int .u8 ((UInt8.ofNat v).toNat : Int))).heap.size := by rw [Hz.out]; exact hk10.size
    have Ho10 := Lib.hid ho10.1
    have Hk10 := Lib.hid hk10
    have Hb10 := Lib.hid ((Hb.out.below hB1).below (hk10.mono (Nat.le_of_lt hBw)))
    have HB1 := Lib.hid hB1
    clear ho9 hk9 hk10 ho10 hhead hB1
    generalize (UInt8.ofNat (v / 2 ^ 8)).toNat = x1 at *
    generalize (UInt8.ofNat v).toNat = x2 at *
    generalize v / 2 ^ 8 = q at *
    go_wp2_with (at_builtin; refine wpL_append8 _ rfl _ _ rfl B _ 20 _ _ rfl Ho10.out _ n _ (bcells bs) rfl (by rw [bcells_length]; exact Hl.out) Hn.out Hb10.out.news (bcells_one _) (by omega) z10 ?_)
    intro a11 c11 w11 ho11 hg11
    have hk11 : Below B w1 w11 := below_own Hk10.out Ho10.out hg11 (Nat.le_refl _) z10
    have Ho11 := Lib.hid ho11
    have Hk11 := Lib.hid hk11
    clear ho11 hg11 hk11
    go_wp2
    go_ret2
    rw [He.out, Ho.out, He2.out]
    refine ⟨a11, 20 + n, c11, rfl, ?_, HB1.out.trans (Hk11.out.mono (Nat.le_of_lt hBw))⟩
    rw [List.length_append, Pk.head_length, Hl.out, bcells_append]
    exact ownsRow_base Ho11.out (Nat.le_of_lt hBw)
end Go.Proofs.Ytfipnkledifilaa
