/- The contract of the program's packet.Decode. -/
import Derived.Test.YtfipnkledifilaaPackCode4
namespace Go.Proofs.Ytfipnkledifilaa
open Go.RowKit

/-- A call has answered a packet and an error. -/
def PackPost (err s d : Nat) (data : List UInt8) (w : World) (e : Ending) (w' : World) : Prop :=
  ∃ a n c, e = .returned (.tuple #[packV s d a n c, .int .i64 (err : Int)]) ∧ BytesAt w' w'.heap.size a n data ∧ (a = none → n = 0 ∧ c = 0) ∧ n ≤ c ∧ Below w.heap.size w w'
theorem packPost_none {err : Nat} {w w' : World} {v : Value} (hv : v = packV 0 0 none 0 0) (hb : Below w.heap.size w w') : PackPost err 0 0 [] w (.returned (.tuple #[v, .int .i64 (err : Int)])) w' :=
  ⟨none, 0, 0, by rw [hv], ⟨rfl, fun h => absurd h (by omega)⟩, fun _ => ⟨rfl, rfl⟩, Nat.le_refl _, hb⟩
/-- A packet's block that was there before a call. -/
theorem new_pack {W W2 : World} {G : Nat} {x y z : Value} (hb : Below W.heap.size W W2) (hG : W.heap[G]? = some (.cells #[x, y, z] 57 (0, 0))) :
    W2.cell? ⟨G, 0, none⟩ = some x ∧ W2.cell? ⟨G, 1, none⟩ = some y ∧ W2.cell? ⟨G, 2, none⟩ = some z ∧ W2.frozen? ⟨G, 0, none⟩ = false ∧ W2.frozen? ⟨G, 1, none⟩ = false ∧ W2.frozen? ⟨G, 2, none⟩ = false ∧ Hid (W2.ownsRow 0 57 1 (.slice (some ⟨G, 0, none⟩) 3 3) 3 [x, y, z]) := by
  have h := pack_below (own_pack (base := 0) hG (Nat.zero_le _)) hb
  obtain ⟨h0, h1, h2⟩ := pack_row_cells h
  exact ⟨h0, h1, h2, h.frozenAt 0, h.frozenAt 1, h.frozenAt 2, Lib.hid h⟩
theorem own_nil2 {w : World} {base e n c k : Nat} {xs : List Value} (h : w.ownsRow base e 1 (.slice none n c) k xs) : n = 0 ∧ c = 0 := by
  rcases h.2 with ⟨hv, _⟩ | ⟨g', cap, cur, hv, _⟩
  · injection hv with _ h2 h3; exact ⟨h2, h3⟩
  · cases hv
theorem own_none {w : World} {base e n c k : Nat} {a : Option Addr} {xs : List Value} (h : w.ownsRow base e 1 (.slice a n c) k xs) : a = none → n = 0 ∧ c = 0 := fun ha => by subst ha; exact own_nil2 h
/-- Bytes of the call's own beside a packet's block that is written. -/
theorem bytes_beside {w : World} {base b0 g n c : Nat} {a : Option Addr} {xs : List UInt8} {x y z : Value} (ho : w.ownsRow base 5 1 (.slice a n c) n (bcells xs)) (hk : w.ownsRow b0 57 1 (.slice (some ⟨g, 0, none⟩) 3 3) 3 [x, y, z]) (hg : g < base) (p q r : Value) :
    (((w.setCell ⟨g, 0, none⟩ p).setCell ⟨g, 1, none⟩ q).setCell ⟨g, 2, none⟩ r).ownsRow base 5 1 (.slice a n c) n (bcells xs) ∧ (((w.setCell ⟨g, 0, none⟩ p).setCell ⟨g, 1, none⟩ q).setCell ⟨g, 2, none⟩ r).heap[g]? = some (.cells #[p, q, r] 57 (0, 0)) := by
  have hne : ∀ W : World, W.ownsRow base 5 1 (.slice a n c) n (bcells xs) → (Value.slice a n c).ownBlock = none ∨ (Value.slice a n c).ownBlock ≠ some g := fun W h => by
    cases hb : (Value.slice a n c).ownBlock with
    | none => exact .inl rfl
    | some k => exact .inr (fun e => by injection e with e; have := (h.lt k hb).1; omega)
  have s0 := hk.stored 0 p
  have s1 := s0.1.stored 1 q
  have s2 := s1.1.stored 2 r
  have o0 := ho.kept s0.2 (hne _ ho)
  have o1 := o0.kept s1.2 (hne _ o0)
  exact ⟨o1.kept s2.2 (hne _ o1), pack_block s2.1⟩
theorem a4_drop (bs : List UInt8) (i : Nat) : Pk.a4 (bs.drop i) 0 = Pk.a4 bs i := by
  unfold Pk.a4
  simp only [List.getD_eq_getElem?_getD, List.getElem?_drop, Nat.zero_add, Nat.add_zero]

set_option maxRecDepth 10000 in
set_option maxHeartbeats 4000000 in
theorem packet_Decode (a : Option Addr) (n c : Nat) (bs : List UInt8) (w : World) (h : BytesAt w w.heap.size a n bs) (hc : n ≤ c) :
    Calls Try.prog 32 #[.slice a n c] w (PackPost (Pk.decErr bs) (Pk.src bs) (Pk.dst bs) (Pk.data bs) w) := by
  have hl := h.1
  have hA : Below w.heap.size w (w.alloc (.cells #[.int .u32 0, .int .u32 0, .slice none 0 0] 57)) := (Below.refl _ _).alloc (Nat.le_refl _) _
  have hP := heap_alloc_last w (.cells #[.int .u32 0, .int .u32 0, .slice none 0 0] 57)
  have R0 := Lib.hid (own_pack (base := w.heap.size) hP (Nat.le_refl _))
  rcases Pk.dec_cases bs with ⟨h1, he⟩ | ⟨h1, h2, he⟩ | h4
  · rw [hl] at h1
    have Hx := Lib.hid (Pk.dec_err bs (by rw [he]; decide))
    have He := Lib.hid he
    have HA := Lib.hid hA
    clear he hl h hP hA
    go_enter Try.func32, Try.ntmps32
    go_wp2
    exact bodyPost_ret (pack_ret Try.results32 rfl rfl R0.out) rfl (by rw [He.out, Hx.out.1, Hx.out.2.1, Hx.out.2.2]; exact packPost_none (err := 8) rfl HA.out)
  · rw [hl] at h1 h2
    have Hx := Lib.hid (Pk.dec_err bs (by rw [he]; decide))
    have He := Lib.hid he
    have HA := Lib.hid hA
    clear he hl h hP hA
    go_enter Try.func32, Try.ntmps32
    go_wp2
    exact bodyPost_ret (pack_ret Try.results32 rfl rfl R0.out) rfl (by rw [He.out, Hx.out.1, Hx.out.2.1, Hx.out.2.2]; exact packPost_none (err := 1) rfl HA.out)
  · have hn : 20 ≤ n ∧ n ≤ 220 := by rcases h4 with ⟨x, y, _⟩ | ⟨x, y, _⟩ <;> omega
    obtain ⟨hn1, hn2⟩ := hn
    obtain ⟨b, off, rfl, hbl, _⟩ := h.2 (by omega)
    obtain ⟨w1, hw1⟩ : ∃ w1, w1 = w.alloc (.cells #[.int .u32 0, .int .u32 0, .slice none 0 0] 57) := ⟨_, rfl⟩
    have hz1 : w1.heap.size = w.heap.size + 1 := by rw [hw1]; simp
    rw [← hw1] at hA hP
    obtain ⟨off', hoff⟩ : ∃ off', (if c = 20 then (some ⟨b, off, none⟩ : Option Addr) else some ⟨b, off + 20, none⟩) = some ⟨b, off', none⟩ := by
      by_cases hc20 : c = 20
      · exact ⟨off, if_pos hc20⟩
      · exact ⟨off + 20, if_neg hc20⟩
    have hd : BytesAt w w.heap.size (some ⟨b, off', none⟩) (n - 20) (bs.drop 20) := by
      by_cases hc20 : c = 20
      · refine ⟨by rw [List.length_drop, hl], fun hp => absurd hp (by omega)⟩
      · rw [if_neg hc20] at hoff
        rw [← hoff]
        exact h.part (by omega)
    have hB1 := h.below hA
    have HS1 : Hid (∀ W, Below w1.heap.size w1 W → Calls Try.prog 57 #[.slice (some ⟨b, off + 12, none⟩) (n - 12) (c - 12)] W fun e w' => e = .returned (.int .u32 (Pk.a4 bs 12 : Int)) ∧ Below W.heap.size W w' ∧ Below w1.heap.size w1 w') := Lib.hid (fun W hW => by
      have := packet_address b (off + 12) (n - 12) (c - 12) _ _ W (((h.below (hA.trans (hW.mono (by omega)))).part (m := 12) (by omega))) (by omega) (by omega)
      rw [a4_drop] at this
      refine this.mono ?_
      rintro e w' ⟨he, m, rfl⟩
      exact ⟨he, belowDrewN' (Below.refl _ _) m, belowDrewN' hW m⟩)
    have HS2 : Hid (∀ W, Below w1.heap.size w1 W → Calls Try.prog 57 #[.slice (some ⟨b, off + 16, none⟩) (n - 16) (c - 16)] W fun e w' => e = .returned (.int .u32 (Pk.a4 bs 16 : Int)) ∧ Below W.heap.size W w' ∧ Below w1.heap.size w1 w') := Lib.hid (fun W hW => by
      have := packet_address b (off + 16) (n - 16) (c - 16) _ _ W (((h.below (hA.trans (hW.mono (by omega)))).part (m := 16) (by omega))) (by omega) (by omega)
      rw [a4_drop] at this
      refine this.mono ?_
      rintro e w' ⟨he, m, rfl⟩
      exact ⟨he, belowDrewN' (Below.refl _ _) m, belowDrewN' hW m⟩)
    have HCl : Hid (∀ W, Below w1.heap.size w1 W → Calls Try.prog 58 #[.slice (some ⟨b, off', none⟩) (n - 20) (c - 20)] W fun e w' => ∃ a' c', e = .returned (.slice a' (n - 20) c') ∧ Hid (w'.ownsRow W.heap.size 5 1 (.slice a' (n - 20) c') (n - 20) (bcells (bs.drop 20))) ∧ Below W.heap.size W w' ∧ Below w1.heap.size w1 w') := Lib.hid (fun W hW => by
      have hbW := hA.trans (hW.mono (by omega))
      refine (bytes_Clone (some ⟨b, off', none⟩) (n - 20) (c - 20) (bs.drop 20) W ((hd.below hbW).up hbW.size) (fun h => by cases h) (by omega)).mono ?_
      rintro e w' ⟨a', n', c', rfl, ho, hb⟩
      have hlen : (bs.drop 20).length = n' := (BytesAt.own ho).1
      rw [List.length_drop, hl] at hlen
      subst hlen
      rw [List.length_drop, hl] at ho
      exact ⟨a', c', rfl, Lib.hid ho, hb, hW.trans (hb.mono hW.size)⟩)
    have HX : Hid (Pk.decErr bs = 0 → Pk.src bs = Pk.a4 bs 12 ∧ Pk.dst bs = Pk.a4 bs 16 ∧ Pk.data bs = bs.drop 20) := Lib.hid (fun h0 => ⟨by unfold Pk.src; rw [if_pos h0], by unfold Pk.dst; rw [if_pos h0], by unfold Pk.data; rw [if_pos h0]⟩)
    have Hb := Lib.hid h
    have HA := Lib.hid hA
    have HP := Lib.hid hP
    have HW := Lib.hid hw1
    have Hl := Lib.hid hl
    have H4 := Lib.hid h4
    have hz2 : w.heap.size < w1.heap.size := by omega
    have l1 := Pk.a4_lt bs 12
    have l2 := Pk.a4_lt bs 16
    have c12 : ¬ c = 12 := by omega
    have c16 : ¬ c = 16 := by omega
    have m12 : 12 ≤ n := by omega
    have m16 : 16 ≤ n := by omega
    have i12 : (12 : Int) ≤ (n : Int) := by omega
    have i16 : (16 : Int) ≤ (n : Int) := by omega
    have i20 : (20 : Int) ≤ (n : Int) := by omega
    have inc : (n : Int) ≤ (c : Int) := by omega
    clear h hA hP hw1 hz1 hl h4 hB1 hd
    have HSA : Hid (∀ W o, Below w1.heap.size w1 W → Below w1.heap.size w1 (W.alloc o)) := Lib.hid (fun W o hW => hW.alloc hW.size o)
    have HSS : Hid (∀ (W : World) (g : Nat) p q r, w1.heap.size ≤ g → Below w1.heap.size w1 W → Below w1.heap.size w1 (((W.setCell ⟨g, 0, none⟩ p).setCell ⟨g, 1, none⟩ q).setCell ⟨g, 2, none⟩ r)) := Lib.hid (fun W g p q r hg hW => ((hW.setCell hg p).setCell hg q).setCell hg r)
    have hD0 : Below w1.heap.size w1 w1.drew := (Below.refl _ _).drew
    obtain ⟨p12, hp12⟩ : ∃ x, off + 12 = x := ⟨_, rfl⟩
    obtain ⟨n12, hn12⟩ : ∃ x, n - 12 = x := ⟨_, rfl⟩
    obtain ⟨q12, hq12⟩ : ∃ x, c - 12 = x := ⟨_, rfl⟩
    obtain ⟨p16, hp16⟩ : ∃ x, off + 16 = x := ⟨_, rfl⟩
    obtain ⟨n16, hn16⟩ : ∃ x, n - 16 = x := ⟨_, rfl⟩
    obtain ⟨q16, hq16⟩ : ∃ x, c - 16 = x := ⟨_, rfl⟩
    rw [hp12, hn12, hq12] at HS1
    rw [hp16, hn16, hq16] at HS2
    go_enter Try.func32, Try.ntmps32
    go_upto_region 5 with fail
    rw [← HW.out]
    generalize Pk.a4 bs 12 = S at *
    generalize Pk.a4 bs 16 = D at *
    go_cut [4] (fun v4 wx => ∃ g, v4 = .pointer (some ⟨g, 0, none⟩) ∧ Hid (∃ a' c', w1.heap.size ≤ g ∧ wx.heap[g]? = some (.cells #[.int .u32 (S : Int), .int .u32 (D : Int), .slice a' (n - 20) c'] 57 (0, 0)) ∧ wx.ownsRow w1.heap.size 5 1 (.slice a' (n - 20) c') (n - 20) (bcells (bs.drop 20)) ∧ Below w1.heap.size w1 wx))
    case first =>
      go_region_held3 (fun W => Below w1.heap.size w1 W) (first | assumption | (exact HSA.out _ _ (by assumption)) | (exact HSS.out _ _ _ _ _ (by first | exact Nat.le_refl _ | (exact Below.size (by assumption))) (by assumption)))
        (first
          | (go_at_call_of 57 (Value.slice (some { block := b, off := p12 }) n12 q12); refine (HS1.out _ (by first | assumption | exact HSA.out _ _ (by assumption))).mono ?_; rintro e w2 ⟨rfl, hb2, hS2⟩; have hnn := new_pack hb2 (heap_alloc_last _ _); obtain ⟨k0, k1, k2, f0, f1, f2, hk⟩ := hnn)
          | (go_at_call_of 57 (Value.slice (some { block := b, off := p12 }) n12 q12); refine (HS1.out _ (by first | assumption | exact HSA.out _ _ (by assumption))).mono ?_; rintro e w2 ⟨rfl, hb2, hS2⟩)
          | (go_at_call_of 57 (Value.slice (some { block := b, off := p16 }) n16 q16); refine (HS2.out _ (by first | assumption | exact HSA.out _ _ (by assumption))).mono ?_; rintro e w3 ⟨rfl, hb3, hS3⟩; have hnn := new_pack hb3 (heap_alloc_last _ _); obtain ⟨k0, k1, k2, f0, f1, f2, hk⟩ := hnn)
          | (go_at_call_of 57 (Value.slice (some { block := b, off := p16 }) n16 q16); refine (HS2.out _ (by first | assumption | exact HSA.out _ _ (by assumption))).mono ?_; rintro e w3 ⟨rfl, hb3, hS3⟩; have hnn := new_pack hb3 (pack_block (Hid.out (by assumption))); obtain ⟨k0, k1, k2, f0, f1, f2, hk⟩ := hnn)
          | (go_at_call_of 57 (Value.slice (some { block := b, off := p16 }) n16 q16); refine (HS2.out _ (by first | assumption | exact HSA.out _ _ (by assumption))).mono ?_; rintro e w3 ⟨rfl, hb3, hS3⟩)
          | (go_at_call 58; refine (HCl.out _ (by first | assumption | exact HSA.out _ _ (by assumption))).mono ?_; rintro e w4 ⟨a4, c4, rfl, ho4, hb4, hS4⟩; have hnn := new_pack hb4 (heap_alloc_last _ _); obtain ⟨k0, k1, k2, f0, f1, f2, hk⟩ := hnn)
          | (go_at_call 58; refine (HCl.out _ (by first | assumption | exact HSA.out _ _ (by assumption))).mono ?_; rintro e w4 ⟨a4, c4, rfl, ho4, hb4, hS4⟩; have hnn := new_pack hb4 (pack_block (Hid.out (by assumption))); obtain ⟨k0, k1, k2, f0, f1, f2, hk⟩ := hnn)
          | (go_at_call 58; refine (HCl.out _ (by first | assumption | exact HSA.out _ _ (by assumption))).mono ?_; rintro e w4 ⟨a4, c4, rfl, ho4, hb4, hS4⟩))
      · go_wp2_with fail
        go_meet
        case rel => exact ⟨_, rfl, Lib.hid ⟨a4, c4, hS4.size, heap_alloc_last _ _, ownsRow_base (ho4.out.alloc _) hS3.size, hS4.alloc hS4.size _⟩⟩
      · go_wp2_with fail
        go_meet
        case rel =>
          have hB := bytes_beside ho4.out hk.out (by simp) (.int .u32 (S : Int)) (.int .u32 (D : Int)) (.slice a4 (n - 20) c4)
          exact ⟨_, rfl, Lib.hid ⟨a4, c4, hS3.size, hB.2, ownsRow_base hB.1 (by have := hS3.size; simp; omega), HSS.out _ _ _ _ _ hS3.size hS4⟩⟩
      · go_wp2_with fail
        go_meet
        case rel =>
          have z3 := hb3.size
          simp at z3
          have hB := bytes_beside ho4.out hk.out (by omega) (.int .u32 (S : Int)) (.int .u32 (D : Int)) (.slice a4 (n - 20) c4)
          exact ⟨_, rfl, Lib.hid ⟨a4, c4, hS2.size, hB.2, ownsRow_base hB.1 hS3.size, HSS.out _ _ _ _ _ hS2.size hS4⟩⟩
      · go_wp2_with fail
        go_meet
        case rel =>
          have z2 := hb2.size
          have z3 := hb3.size
          simp at z2
          have hB := bytes_beside ho4.out hk.out (by omega) (.int .u32 (S : Int)) (.int .u32 (D : Int)) (.slice a4 (n - 20) c4)
          exact ⟨_, rfl, Lib.hid ⟨a4, c4, Nat.le_refl _, hB.2, ownsRow_base hB.1 hS3.size, HSS.out _ _ _ _ _ (Nat.le_refl _) hS4⟩⟩
    case rest =>
      obtain ⟨g, rfl, HR⟩ := hcut
      obtain ⟨a', c', hg1, hgc, hown, hbw⟩ := HR.out
      have hby := BytesAt.own (show wc.ownsRow w1.heap.size 5 1 (.slice a' (n - 20) c') (bs.drop 20).length (bcells (bs.drop 20)) by rw [List.length_drop, Hl.out]; exact hown)
      have hzc := hbw.size
      have HE : Hid (Calls Try.prog 29 #[packV S D a' (n - 20) c'] wc (SlicePost 0 (Pk.enc S D (bs.drop 20)) wc)) := Lib.hid (by
        have := packet_Encode S D (n - 20) c' a' (bs.drop 20) wc l1 l2 hby (own_none hown)
        have e1 : Pk.encErr (n - 20) = 0 := by unfold Pk.encErr; rw [if_neg (by omega)]
        have e2 : Pk.encOut S D (bs.drop 20) = Pk.enc S D (bs.drop 20) := by unfold Pk.encOut; rw [if_neg (by rw [List.length_drop, Hl.out]; omega)]
        rw [e1, e2] at this
        exact this)
      unfold packV at HE
      obtain ⟨d0, d1, d2⟩ := pack_cells hgc (Below.refl _ _)
      have Ho := Lib.hid hown
      have Hg := Lib.hid hgc
      clear hown hgc hby HSA HSS HCl HS1 HS2 hD0 hoff
      go_wp2_with fail
      refine HE.out.mono ?_
      rintro e w5 ⟨a5, n5, c5, rfl, ho5, hb5⟩
      have hb5' := BytesAt.own ho5
      have hB5 := hbw.trans (hb5.mono hzc)
      have Hbs := Lib.hid (Hb.out.below (HA.out.trans (hB5.mono (by omega))))
      have Hres := Lib.hid (own_pack (base := w.heap.size) ((hB5.block w.heap.size hz2).trans HP.out) (Nat.le_refl _))
      obtain ⟨r0, r1, r2⟩ := pack_row_cells Hres.out
      have f0 := Hres.out.frozenAt 0
      have f1 := Hres.out.frozenAt 1
      have f2 := Hres.out.frozenAt 2
      clear d0 d1 d2
      obtain ⟨d0, d1, d2⟩ := pack_cells Hg.out hb5
      have Ho5 := Lib.hid (own_below Ho.out hb5)
      have HB5 := Lib.hid (HA.out.trans (hB5.mono (by omega)))
      clear ho5 hb5 hB5 hbw
      rcases H4.out with ⟨_, _, h5, h6⟩ | ⟨_, _, h5, h6⟩
      · have HEq := Lib.hid (decide_eq_true h5)
        have H6 := Lib.hid h6
        clear h5 h6
        go_wp2_with fail
        refine (bytes_Equal _ _ _ _ _ _ _ _ _ _ _ hb5' Hbs.out).mono ?_
        rintro e w6 ⟨rfl, rfl⟩
        rw [HEq.out]
        have R5 := Lib.hid (pack_set Hres.out (.int .u32 (S : Int)) (.int .u32 (D : Int)) (.slice a' (n - 20) c'))
        have hbes := bytes_beside Ho5.out Hres.out hz2 (.int .u32 (S : Int)) (.int .u32 (D : Int)) (.slice a' (n - 20) c')
        have Hby := Lib.hid (BytesAt.own (show World.ownsRow _ w1.heap.size 5 1 (.slice a' (n - 20) c') (bs.drop 20).length (bcells (bs.drop 20)) by rw [List.length_drop, Hl.out]; exact hbes.1))
        have Hx := HX.out H6.out
        have Hxs := Lib.hid Hx
        clear hbes hb5' Hx
        go_wp2
        exact bodyPost_ret (pack_ret Try.results32 rfl rfl R5.out) rfl (by rw [H6.out, Hxs.out.1, Hxs.out.2.1, Hxs.out.2.2]; exact ⟨a', n - 20, c', rfl, Hby.out, own_none Ho5.out, (own_cap Ho5.out).1, ((HB5.out.setCell (Nat.le_refl _) _).setCell (Nat.le_refl _) _).setCell (Nat.le_refl _) _⟩)
      · have HEq := Lib.hid (decide_eq_false h5)
        have H6 := Lib.hid h6
        clear h5 h6
        go_wp2_with fail
        refine (bytes_Equal _ _ _ _ _ _ _ _ _ _ _ hb5' Hbs.out).mono ?_
        rintro e w6 ⟨rfl, rfl⟩
        rw [HEq.out]
        have R5 := Lib.hid (pack_set Hres.out (.int .u32 0) (.int .u32 0) (.slice none 0 0))
        have Hxs := Lib.hid (Pk.dec_err bs (by rw [H6.out]; decide))
        clear hb5'
        go_wp2
        exact bodyPost_ret (pack_ret Try.results32 rfl rfl R5.out) rfl (by rw [H6.out, Hxs.out.1, Hxs.out.2.1, Hxs.out.2.2]; exact packPost_none (err := 3) rfl (((HB5.out.setCell (Nat.le_refl _) _).setCell (Nat.le_refl _) _).setCell (Nat.le_refl _) _))
end Go.Proofs.Ytfipnkledifilaa
