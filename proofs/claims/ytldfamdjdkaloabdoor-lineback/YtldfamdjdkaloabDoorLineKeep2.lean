/- The contract of the laws' helper lines. -/
import Derived.Test.YtldfamdjdkaloabDoorLineKeep1
import Derived.Deep.DeepCutAuto
namespace Go.Proofs.YtldfamdjdkaloabDoor
open Go.RowKit

set_option maxRecDepth 20000 in
set_option maxHeartbeats 4000000 in
theorem keep_lines (a : Option Addr) (n c : Nat) (l : List RawD) (w : World) (h : RawsAt w w.heap.size a n l) (hn : n ≤ maxLen) (hok : ∀ r ∈ l, r.ok) :
    Calls Tryd.prog 11 #[.slice a n c] w fun e w' => (∃ v, e = .returned v ∧ OwnL w' w.heap.size v (Ln.rawsL l)) ∧ Below w.heap.size w w' := by
  unfold maxLen at hn
  have hl := h.1
  have H := Lib.hid h
  have Hok := Lib.hid hok
  clear h hok
  go_enter Tryd.func11, Tryd.ntmps11
  go_wp2
  go_loopw [3, 8] (fun v i wr => ∃ k : Nat, k ≤ n ∧ i = .int .i64 k ∧ Hid (OwnL wr w.heap.size v (Ln.rawsL (l.take k))) ∧ Hid (Below w.heap.size w wr)) (fun _ i _ => n - (intOf i).toNat)
  case atStart => exact ⟨0, Nat.zero_le _, rfl, Lib.hid (OwnL.nil _ _), Lib.hid (Below.refl _ _)⟩
  case round =>
    obtain ⟨k, hk, rfl, HO, HBr⟩ := hrel
    obtain ⟨wo, hwo⟩ : ∃ wo, wo = wr := ⟨_, rfl⟩
    subst hwo
    have hsz := HBr.out.size
    by_cases hlt : k < n
    · have hkl : k < l.length := by omega
      obtain ⟨b, off, rfl, hbl, hc⟩ := (H.out.below HBr.out).2 (by omega)
      obtain ⟨c0, c1, c2, c3⟩ := hc k hkl
      have Hst := Lib.hid (Ln.rawsL_step l k hkl)
      have Hsp := Lib.hid (Ln.rawsL_stop l k)
      have Hr := Lib.hid (Hok.out l[k] (List.getElem_mem hkl))
      have hDl : Hid ((Ln.rawsL (l.take k)).length ≤ 20) := Lib.hid (by unfold Ln.rawsL; rw [List.length_map, List.length_take]; omega)
      clear hc
      generalize l[k] = r at *
      have hG : Hid (Below w.heap.size w (wo.alloc (.cells #[.int .i64 r.k, .int .i64 r.a, .int .i64 r.b, .string r.s] 46))) := Lib.hid (HBr.out.alloc hsz _)
      have hO1 : Hid (OwnL (wo.alloc (.cells #[.int .i64 r.k, .int .i64 r.a, .int .i64 r.b, .string r.s] 46)) w.heap.size u3 (Ln.rawsL (l.take k))) := Lib.hid (HO.out.alloc _)
      have hR1 : Hid (Blk (wo.alloc (.cells #[.int .i64 r.k, .int .i64 r.a, .int .i64 r.b, .string r.s] 46)) wo.heap.size 46 [.int .i64 r.k, .int .i64 r.a, .int .i64 r.b, .string r.s]) := Lib.hid (Blk.new _ _ _)
      by_cases h20 : k < 20
      · have HD := Lib.hid (Hst.out h20)
        have i20 : (k : Int) < 20 := by omega
        clear Hst Hsp h20
        generalize Ln.rawsL (l.take k) = D at *
        have HP := Lib.hid (fun W => keep_picked r.k 4 W Hr.out.1.1 Hr.out.1.2 (by decide) (by decide))
        have HQ := Lib.hid (fun W => keep_picked r.a 30 W Hr.out.2.1.1 Hr.out.2.1.2 (by decide) (by decide))
        have Hp4 := Lib.hid (pick_lt r.k 4 (by decide))
        have Hq30 := Lib.hid (pick_lt r.a 30 (by decide))
        have HX : Hid (Ln.rawL r = ⟨Ln.keyT (pick r.k 4), Ln.valT (pick r.a 30)⟩) := Lib.hid rfl
        rw [HX.out] at HD
        clear HX Hr
        obtain ⟨rk, ra, rb, rs⟩ := r
        simp only at HP HQ Hp4 Hq30 HD c0 c1 c2 c3 hG hO1 hR1
        generalize pick rk 4 = p at *
        generalize pick ra 30 = q at *
        have HT := Lib.hid (fun W => rep_call q Hq30.out W)
        obtain ⟨w1, hw1⟩ : ∃ w1, w1 = wo.alloc (.cells #[.int .i64 rk, .int .i64 ra, .int .i64 rb, .string rs] 46) := ⟨_, rfl⟩
        rw [← hw1] at hG hO1 hR1
        have Hz1 : Hid (wo.heap.size < w1.heap.size) := Lib.hid (by rw [hw1]; simp)
        go_upto_region 6 with fail
        rw [← hw1]
        clear hw1
        have hmix : Tryd.prog.follows .mixedOrders = true := by kernel_rfl
        generalize wo.heap.size = G at *
        refine wp_region_vals 15 13 lineDst (fun b j v W => (b = true ∧ j < 13) ∨ lineSpec u3 w.heap.size G D rk ra rb rs p q ⟨Ln.keyT p, Ln.valT q⟩ j v W) (fun b W => Below w.heap.size w W ∧ (b = false → Below w1.heap.size w1 W)) hmix rfl line_dist ?low ?inn ?stab ?drop ?late ?s0 ?step ?done
        case low =>
          intro i o ho
          have hi : i < 15 := by
            have := (Array.getElem?_eq_some_iff.1 ho).1
            simpa using this
          have hc : i = 0 ∨ i = 1 ∨ i = 2 ∨ i = 3 ∨ i = 4 ∨ i = 5 ∨ i = 6 ∨ i = 7 ∨ i = 8 ∨ i = 9 ∨ i = 10 ∨ i = 11 ∨ i = 12 ∨ i = 13 ∨ i = 14 := by omega
          rcases hc with rfl | rfl | rfl | rfl | rfl | rfl | rfl | rfl | rfl | rfl | rfl | rfl | rfl | rfl | rfl <;> (obtain rfl := Option.some.inj ho; simp)
        case inn =>
          intro i d hi hd
          have hle := line_in i d hi hd
          exact Nat.lt_of_le_of_lt hle (of_decide_eq_true rfl)
        case stab =>
          intro b j u W W' hb h
          rcases h with h | h
          · exact .inl h
          · exact .inr (lineSpec_kept hb h)
        case drop => exact fun j u W hj => .inl ⟨rfl, hj⟩
        case late =>
          intro j o hj ho
          have hi : j < 15 := by
            have := (Array.getElem?_eq_some_iff.1 ho).1
            simpa using this
          obtain rfl : j = 14 := by omega
          obtain rfl := Option.some.inj ho
          exact ⟨⟨13, .data⟩, by simp, rfl, rfl⟩
        case s0 => exact ⟨hG.out.drew, fun _ => (Below.refl _ _).drew⟩
        case done =>
          intro F W hS hR
          have h14 : OwnL W w.heap.size (F 14) (D ++ [⟨Ln.keyT p, Ln.valT q⟩]) := by
            rcases hR 14 (by decide) with ⟨_, h⟩ | h
            · omega
            · exact h
          have HF := Lib.hid (And.intro h14 hS.1)
          rw [line_put]
          simp only [Act.put, List.setIfInBounds_toArray, List.set_cons_succ, List.set_cons_zero]
          clear hR hS h14
          go_wp2
          go_roundw
          case rel => exact ⟨k + 1, by omega, by go_num, Lib.hid (by rw [HD.out]; exact HF.out.1), Lib.hid HF.out.2⟩
          case measure => simp [intOf]; omega
        case step =>
          intro listed W hs hcl hSW A F hget hR hold i o ho h0 hdep
          have hi : i < 15 := by
            have := (Array.getElem?_eq_some_iff.1 ho).1
            simpa using this
          have hc : i = 0 ∨ i = 1 ∨ i = 2 ∨ i = 3 ∨ i = 4 ∨ i = 5 ∨ i = 6 ∨ i = 7 ∨ i = 8 ∨ i = 9 ∨ i = 10 ∨ i = 11 ∨ i = 12 ∨ i = 13 ∨ i = 14 := by omega
          have n13 : i < 14 → listed.getD 13 false = false := by
            intro hi13
            cases hx : listed.getD 13 false with
            | false => rfl
            | true =>
              exfalso
              have l0 := hcl 13 _ rfl hx ⟨0, .data⟩ (by simp) rfl
              have l12 := hcl 13 _ rfl hx ⟨12, .data⟩ (by simp) rfl
              have l11 := hcl 12 _ rfl l12 ⟨11, .data⟩ (by simp) rfl
              have l10 := hcl 11 _ rfl l11 ⟨10, .data⟩ (by simp) rfl
              have l6 := hcl 11 _ rfl l11 ⟨6, .data⟩ (by simp) rfl
              have l5 := hcl 6 _ rfl l6 ⟨5, .data⟩ (by simp) rfl
              have l1 := hcl 5 _ rfl l5 ⟨1, .data⟩ (by simp) rfl
              have l4 := hcl 5 _ rfl l5 ⟨4, .data⟩ (by simp) rfl
              have l3 := hcl 4 _ rfl l4 ⟨3, .data⟩ (by simp) rfl
              have l2 := hcl 3 _ rfl l3 ⟨2, .data⟩ (by simp) rfl
              have l9 := hcl 10 _ rfl l10 ⟨9, .data⟩ (by simp) rfl
              have l8 := hcl 9 _ rfl l9 ⟨8, .data⟩ (by simp) rfl
              have l7 := hcl 8 _ rfl l8 ⟨7, .data⟩ (by simp) rfl
              rcases hc with rfl | rfl | rfl | rfl | rfl | rfl | rfl | rfl | rfl | rfl | rfl | rfl | rfl | rfl | rfl <;> first | omega | (simp_all)
          have Hsp := Lib.hid (show ∀ j, j < 13 → i < 14 → listed.getD j false = true → lineSpec u3 w.heap.size G D rk ra rb rs p q ⟨Ln.keyT p, Ln.valT q⟩ j (F j) W by
            intro j hj hi14 hlj
            rcases hR j (by omega) hlj with ⟨hx, _⟩ | h
            · rw [n13 hi14] at hx; cases hx
            · exact h)
          have Hget := Lib.hid hget
          have Hcl := Lib.hid hcl
          have Hold := Lib.hid hold
          have HS := Lib.hid hSW
          have HR := Lib.hid hR
          have N13 := Lib.hid n13
          clear hget hcl hold hSW hR n13
          rcases hc with rfl | rfl | rfl | rfl | rfl | rfl | rfl | rfl | rfl | rfl | rfl | rfl | rfl | rfl | rfl
          · obtain rfl := Option.some.inj ho
            have l14 : listed.getD 14 false = false := by
              cases hx : listed.getD 14 false with
              | false => rfl
              | true =>
                have l13 := Hcl.out 14 _ rfl hx ⟨13, .data⟩ (by simp) rfl
                rw [N13.out (by decide)] at l13
                cases l13
            have e3 : A.tmps.getD 3 undef = u3 := (Hold.out 3 (fun j hj hd => by rw [line_three j hj hd]; exact l14)).trans rfl
            have HF := Lib.hid (show lineSpec u3 w.heap.size G D rk ra rb rs p q ⟨Ln.keyT p, Ln.valT q⟩ 0 u3 W from ⟨rfl, hO1.out.below (HS.out.2 (N13.out (by decide)))⟩)
            clear l14
            refine wpOp_mono (fun a' w' (h : ∃ v, a' = A.put (some 15) v ∧ Hid (lineSpec u3 w.heap.size G D rk ra rb rs p q ⟨Ln.keyT p, Ln.valT q⟩ 0 v w') ∧ Hid (Below W.heap.size W w')) => by obtain ⟨v, h1, h2, h3⟩ := h; exact ⟨v, h1, .inl ⟨by decide, ⟨HS.out.1.trans (h3.out.mono HS.out.1.size), fun hx => (HS.out.2 hx).trans (h3.out.mono (HS.out.2 hx).size)⟩, .inr h2.out, h3.out⟩⟩) ?_
            refine wpOp_plain rfl rfl ?_
            clear hdep h0
            unfold Oper.wp
            go_simp
            exact ⟨_, rfl, HF, Lib.hid (Below.refl _ _)⟩
          · obtain rfl := Option.some.inj ho
            refine wpOp_mono (fun a' w' (h : ∃ v, a' = A.put (some 16) v ∧ Hid (lineSpec u3 w.heap.size G D rk ra rb rs p q ⟨Ln.keyT p, Ln.valT q⟩ 1 v w') ∧ Hid (Below W.heap.size W w')) => by obtain ⟨v, h1, h2, h3⟩ := h; exact ⟨v, h1, .inl ⟨by decide, ⟨HS.out.1.trans (h3.out.mono HS.out.1.size), fun hx => (HS.out.2 hx).trans (h3.out.mono (HS.out.2 hx).size)⟩, .inr h2.out, h3.out⟩⟩) ?_
            refine wpOp_plain rfl rfl ?_
            clear hdep h0
            unfold Oper.wp
            go_simp
            exact ⟨_, rfl, Lib.hid ⟨_, rfl, Blk.new W 9 keyCells⟩, Lib.hid ((Below.refl _ _).alloc (Nat.le_refl _) _)⟩
          · obtain rfl := Option.some.inj ho
            have e5 : A.tmps.getD 5 undef = .pointer (some ⟨G, 0, none⟩) := (Hold.out 5 (fun j hj hd => (line_five j hj hd).elim)).trans rfl
            have HF := Lib.hid (hR1.out.kept (HS.out.2 (N13.out (by decide))))
            refine wpOp_mono (fun a' w' (h : ∃ v, a' = A.put (some 17) v ∧ Hid (lineSpec u3 w.heap.size G D rk ra rb rs p q ⟨Ln.keyT p, Ln.valT q⟩ 2 v w') ∧ Hid (Below W.heap.size W w')) => by obtain ⟨v, h1, h2, h3⟩ := h; exact ⟨v, h1, .inl ⟨by decide, ⟨HS.out.1.trans (h3.out.mono HS.out.1.size), fun hx => (HS.out.2 hx).trans (h3.out.mono (HS.out.2 hx).size)⟩, .inr h2.out, h3.out⟩⟩) ?_
            refine wpOp_plain rfl rfl ?_
            clear hdep h0
            unfold Oper.wp
            go_simp
            exact ⟨_, rfl, Lib.hid ⟨rfl, HF.out⟩, Lib.hid (Below.refl _ _)⟩
          · obtain rfl := Option.some.inj ho
            have v2 : A.tmps.getD 17 undef = F 2 := Hget.out 2 17 (by decide) (hdep ⟨2, .data⟩ (by simp) rfl) rfl
            have s2 := Hsp.out 2 (by decide) (by decide) (hdep ⟨2, .data⟩ (by simp) rfl)
            rw [s2.1] at v2
            have y0 := s2.2.cell 0 rfl
            clear s2
            refine wpOp_mono (fun a' w' (h : ∃ v, a' = A.put (some 18) v ∧ Hid (lineSpec u3 w.heap.size G D rk ra rb rs p q ⟨Ln.keyT p, Ln.valT q⟩ 3 v w') ∧ Hid (Below W.heap.size W w')) => by obtain ⟨v, h1, h2, h3⟩ := h; exact ⟨v, h1, .inl ⟨by decide, ⟨HS.out.1.trans (h3.out.mono HS.out.1.size), fun hx => (HS.out.2 hx).trans (h3.out.mono (HS.out.2 hx).size)⟩, .inr h2.out, h3.out⟩⟩) ?_
            refine wpOp_plain rfl rfl ?_
            clear hdep h0
            unfold Oper.wp
            go_simp
            exact ⟨_, rfl, Lib.hid rfl, Lib.hid (Below.refl _ _)⟩
          · obtain rfl := Option.some.inj ho
            have v3 : A.tmps.getD 18 undef = F 3 := Hget.out 3 18 (by decide) (hdep ⟨3, .data⟩ (by simp) rfl) rfl
            have s3 := Hsp.out 3 (by decide) (by decide) (hdep ⟨3, .data⟩ (by simp) rfl)
            rw [show F 3 = _ from s3] at v3
            clear s3
            refine wpOp_mono (fun a' w' (h : ∃ v, a' = A.put (some 19) v ∧ Hid (lineSpec u3 w.heap.size G D rk ra rb rs p q ⟨Ln.keyT p, Ln.valT q⟩ 4 v w') ∧ Hid (Below W.heap.size W w')) => by obtain ⟨v, h1, h2, h3⟩ := h; exact ⟨v, h1, .inl ⟨by decide, ⟨HS.out.1.trans (h3.out.mono HS.out.1.size), fun hx => (HS.out.2 hx).trans (h3.out.mono (HS.out.2 hx).size)⟩, .inr h2.out, h3.out⟩⟩) ?_
            refine wpOp_plain rfl rfl ?_
            clear hdep h0
            unfold Oper.wp
            go_simp
            refine (HP.out W).mono ?_
            rintro e W' ⟨rfl, rfl⟩
            exact ⟨_, rfl, Lib.hid rfl, Lib.hid (Below.refl _ _)⟩
          · obtain rfl := Option.some.inj ho
            have v1 : A.tmps.getD 16 undef = F 1 := Hget.out 1 16 (by decide) (hdep ⟨1, .data⟩ (by simp) rfl) rfl
            have s1 := Hsp.out 1 (by decide) (by decide) (hdep ⟨1, .data⟩ (by simp) rfl)
            have v4 : A.tmps.getD 19 undef = F 4 := Hget.out 4 19 (by decide) (hdep ⟨4, .data⟩ (by simp) rfl) rfl
            have s4 := Hsp.out 4 (by decide) (by decide) (hdep ⟨4, .data⟩ (by simp) rfl)
            obtain ⟨g, s1, b1⟩ := s1
            rw [s1] at v1
            rw [show F 4 = _ from s4] at v4
            have hp4 : (p : Int) < 4 := by have := Hp4.out; omega
            have B1 := Lib.hid b1
            clear s1 s4 b1
            refine wpOp_mono (fun a' w' (h : ∃ v, a' = A.put (some 20) v ∧ Hid (lineSpec u3 w.heap.size G D rk ra rb rs p q ⟨Ln.keyT p, Ln.valT q⟩ 5 v w') ∧ Hid (Below W.heap.size W w')) => by obtain ⟨v, h1, h2, h3⟩ := h; exact ⟨v, h1, .inl ⟨by decide, ⟨HS.out.1.trans (h3.out.mono HS.out.1.size), fun hx => (HS.out.2 hx).trans (h3.out.mono (HS.out.2 hx).size)⟩, .inr h2.out, h3.out⟩⟩) ?_
            refine wpOp_plain rfl rfl ?_
            clear hdep h0
            unfold Oper.wp
            go_simp
            exact ⟨_, rfl, Lib.hid ⟨g, rfl, B1.out⟩, Lib.hid (Below.refl _ _)⟩
          · obtain rfl := Option.some.inj ho
            have v5 : A.tmps.getD 20 undef = F 5 := Hget.out 5 20 (by decide) (hdep ⟨5, .data⟩ (by simp) rfl) rfl
            have s5 := Hsp.out 5 (by decide) (by decide) (hdep ⟨5, .data⟩ (by simp) rfl)
            obtain ⟨g, s5, b5⟩ := s5
            rw [s5] at v5
            have y0 := b5.cell p (keyCells_at p Hp4.out)
            clear s5 b5
            refine wpOp_mono (fun a' w' (h : ∃ v, a' = A.put (some 21) v ∧ Hid (lineSpec u3 w.heap.size G D rk ra rb rs p q ⟨Ln.keyT p, Ln.valT q⟩ 6 v w') ∧ Hid (Below W.heap.size W w')) => by obtain ⟨v, h1, h2, h3⟩ := h; exact ⟨v, h1, .inl ⟨by decide, ⟨HS.out.1.trans (h3.out.mono HS.out.1.size), fun hx => (HS.out.2 hx).trans (h3.out.mono (HS.out.2 hx).size)⟩, .inr h2.out, h3.out⟩⟩) ?_
            refine wpOp_plain rfl rfl ?_
            clear hdep h0
            unfold Oper.wp
            go_simp
            exact ⟨_, rfl, Lib.hid rfl, Lib.hid (Below.refl _ _)⟩
          · obtain rfl := Option.some.inj ho
            have e5 : A.tmps.getD 5 undef = .pointer (some ⟨G, 0, none⟩) := (Hold.out 5 (fun j hj hd => (line_five j hj hd).elim)).trans rfl
            have HF := Lib.hid (hR1.out.kept (HS.out.2 (N13.out (by decide))))
            refine wpOp_mono (fun a' w' (h : ∃ v, a' = A.put (some 22) v ∧ Hid (lineSpec u3 w.heap.size G D rk ra rb rs p q ⟨Ln.keyT p, Ln.valT q⟩ 7 v w') ∧ Hid (Below W.heap.size W w')) => by obtain ⟨v, h1, h2, h3⟩ := h; exact ⟨v, h1, .inl ⟨by decide, ⟨HS.out.1.trans (h3.out.mono HS.out.1.size), fun hx => (HS.out.2 hx).trans (h3.out.mono (HS.out.2 hx).size)⟩, .inr h2.out, h3.out⟩⟩) ?_
            refine wpOp_plain rfl rfl ?_
            clear hdep h0
            unfold Oper.wp
            go_simp
            exact ⟨_, rfl, Lib.hid ⟨rfl, HF.out⟩, Lib.hid (Below.refl _ _)⟩
          · obtain rfl := Option.some.inj ho
            have v7 : A.tmps.getD 22 undef = F 7 := Hget.out 7 22 (by decide) (hdep ⟨7, .data⟩ (by simp) rfl) rfl
            have s7 := Hsp.out 7 (by decide) (by decide) (hdep ⟨7, .data⟩ (by simp) rfl)
            rw [s7.1] at v7
            have y0 := s7.2.cell 1 rfl
            clear s7
            refine wpOp_mono (fun a' w' (h : ∃ v, a' = A.put (some 23) v ∧ Hid (lineSpec u3 w.heap.size G D rk ra rb rs p q ⟨Ln.keyT p, Ln.valT q⟩ 8 v w') ∧ Hid (Below W.heap.size W w')) => by obtain ⟨v, h1, h2, h3⟩ := h; exact ⟨v, h1, .inl ⟨by decide, ⟨HS.out.1.trans (h3.out.mono HS.out.1.size), fun hx => (HS.out.2 hx).trans (h3.out.mono (HS.out.2 hx).size)⟩, .inr h2.out, h3.out⟩⟩) ?_
            refine wpOp_plain rfl rfl ?_
            clear hdep h0
            unfold Oper.wp
            go_simp
            exact ⟨_, rfl, Lib.hid rfl, Lib.hid (Below.refl _ _)⟩
          · obtain rfl := Option.some.inj ho
            have v8 : A.tmps.getD 23 undef = F 8 := Hget.out 8 23 (by decide) (hdep ⟨8, .data⟩ (by simp) rfl) rfl
            have s8 := Hsp.out 8 (by decide) (by decide) (hdep ⟨8, .data⟩ (by simp) rfl)
            rw [show F 8 = _ from s8] at v8
            clear s8
            refine wpOp_mono (fun a' w' (h : ∃ v, a' = A.put (some 24) v ∧ Hid (lineSpec u3 w.heap.size G D rk ra rb rs p q ⟨Ln.keyT p, Ln.valT q⟩ 9 v w') ∧ Hid (Below W.heap.size W w')) => by obtain ⟨v, h1, h2, h3⟩ := h; exact ⟨v, h1, .inl ⟨by decide, ⟨HS.out.1.trans (h3.out.mono HS.out.1.size), fun hx => (HS.out.2 hx).trans (h3.out.mono (HS.out.2 hx).size)⟩, .inr h2.out, h3.out⟩⟩) ?_
            refine wpOp_plain rfl rfl ?_
            clear hdep h0
            unfold Oper.wp
            go_simp
            refine (HQ.out W).mono ?_
            rintro e W' ⟨rfl, rfl⟩
            exact ⟨_, rfl, Lib.hid rfl, Lib.hid (Below.refl _ _)⟩
          · obtain rfl := Option.some.inj ho
            have v9 : A.tmps.getD 24 undef = F 9 := Hget.out 9 24 (by decide) (hdep ⟨9, .data⟩ (by simp) rfl) rfl
            have s9 := Hsp.out 9 (by decide) (by decide) (hdep ⟨9, .data⟩ (by simp) rfl)
            rw [show F 9 = _ from s9] at v9
            clear s9
            refine wpOp_mono (fun a' w' (h : ∃ v, a' = A.put (some 25) v ∧ Hid (lineSpec u3 w.heap.size G D rk ra rb rs p q ⟨Ln.keyT p, Ln.valT q⟩ 10 v w') ∧ Hid (Below W.heap.size W w')) => by obtain ⟨v, h1, h2, h3⟩ := h; exact ⟨v, h1, .inl ⟨by decide, ⟨HS.out.1.trans (h3.out.mono HS.out.1.size), fun hx => (HS.out.2 hx).trans (h3.out.mono (HS.out.2 hx).size)⟩, .inr h2.out, h3.out⟩⟩) ?_
            refine wpOp_plain rfl rfl ?_
            clear hdep h0
            unfold Oper.wp
            go_simp
            refine (HT.out W).mono ?_
            rintro e W' ⟨rfl, hb⟩
            exact ⟨_, rfl, Lib.hid rfl, Lib.hid hb⟩
          · obtain rfl := Option.some.inj ho
            have v6 : A.tmps.getD 21 undef = F 6 := Hget.out 6 21 (by decide) (hdep ⟨6, .data⟩ (by simp) rfl) rfl
            have s6 := Hsp.out 6 (by decide) (by decide) (hdep ⟨6, .data⟩ (by simp) rfl)
            have v10 : A.tmps.getD 25 undef = F 10 := Hget.out 10 25 (by decide) (hdep ⟨10, .data⟩ (by simp) rfl) rfl
            have s10 := Hsp.out 10 (by decide) (by decide) (hdep ⟨10, .data⟩ (by simp) rfl)
            rw [show F 6 = _ from s6] at v6
            rw [show F 10 = _ from s10] at v10
            clear s6 s10
            simp only at v6 v10
            generalize Ln.keyT p = X at *
            generalize Ln.valT q = Y at *
            have v6' : A.tmps[21]?.getD undef = .string X := by simpa using v6
            have v10' : A.tmps[25]?.getD undef = .string Y := by simpa using v10
            refine wpOp_mono (fun a' w' (h : ∃ v, a' = A.put (some 26) v ∧ Hid (lineSpec u3 w.heap.size G D rk ra rb rs p q ⟨X, Y⟩ 11 v w') ∧ Hid (Below W.heap.size W w')) => by obtain ⟨v, h1, h2, h3⟩ := h; exact ⟨v, h1, .inl ⟨by decide, ⟨HS.out.1.trans (h3.out.mono HS.out.1.size), fun hx => (HS.out.2 hx).trans (h3.out.mono (HS.out.2 hx).size)⟩, .inr h2.out, h3.out⟩⟩) ?_
            refine wpOp_plain rfl rfl ?_
            clear hdep h0
            unfold Oper.wp
            go_simp
            exact ⟨_, rfl, Lib.hid rfl, Lib.hid (Below.refl _ _)⟩
          · obtain rfl := Option.some.inj ho
            have v11 : A.tmps.getD 26 undef = F 11 := Hget.out 11 26 (by decide) (hdep ⟨11, .data⟩ (by simp) rfl) rfl
            have s11 := Hsp.out 11 (by decide) (by decide) (hdep ⟨11, .data⟩ (by simp) rfl)
            rw [show F 11 = _ from s11] at v11
            clear s11
            unfold lineV at v11
            simp only at v11
            generalize Ln.keyT p = X at *
            generalize Ln.valT q = Y at *
            have v11' : A.tmps[26]?.getD undef = .agg #[.string X, .string Y] := by simpa using v11
            refine wpOp_mono (fun a' w' (h : ∃ v, a' = A.put (some 27) v ∧ Hid (lineSpec u3 w.heap.size G D rk ra rb rs p q ⟨X, Y⟩ 12 v w') ∧ Hid (Below W.heap.size W w')) => by obtain ⟨v, h1, h2, h3⟩ := h; exact ⟨v, h1, .inl ⟨by decide, ⟨HS.out.1.trans (h3.out.mono HS.out.1.size), fun hx => (HS.out.2 hx).trans (h3.out.mono (HS.out.2 hx).size)⟩, .inr h2.out, h3.out⟩⟩) ?_
            refine wpOp_plain rfl rfl ?_
            clear hdep h0
            unfold Oper.wp
            go_simp
            exact ⟨_, rfl, Lib.hid ⟨_, rfl, Blk.new W 23 [.string X, .string Y]⟩, Lib.hid ((Below.refl _ _).alloc (Nat.le_refl _) _)⟩
          · obtain rfl := Option.some.inj ho
            have v0 : A.tmps.getD 15 undef = F 0 := Hget.out 0 15 (by decide) (hdep ⟨0, .data⟩ (by simp) rfl) rfl
            have s0 := Hsp.out 0 (by decide) (by decide) (hdep ⟨0, .data⟩ (by simp) rfl)
            have v12 : A.tmps.getD 27 undef = F 12 := Hget.out 12 27 (by decide) (hdep ⟨12, .data⟩ (by simp) rfl) rfl
            have s12 := Hsp.out 12 (by decide) (by decide) (hdep ⟨12, .data⟩ (by simp) rfl)
            obtain ⟨g, s12, b12⟩ := s12
            rw [s0.1] at v0
            rw [s12] at v12
            refine wpOp_mono (fun a' w' (h : ∃ v, a' = A.put (some 28) v ∧ OwnL w' w.heap.size v (D ++ [⟨Ln.keyT p, Ln.valT q⟩]) ∧ Below w.heap.size W w') => by obtain ⟨v, h1, h2, h3⟩ := h; exact ⟨v, h1, .inr ⟨rfl, ⟨HS.out.1.trans h3, fun hx => by cases hx⟩, .inr h2⟩⟩) ?_
            refine wpOp_plain rfl rfl ?_
            refine wpO_append_line W (.tmp 15) (.tmp 27) rfl w.heap.size u3 D v0 s0.2 ⟨g, 0, none⟩ 1 1 [⟨Ln.keyT p, Ln.valT q⟩] v12 rfl ?_ (by have := hDl.out; omega) HS.out.1.size ?_
            · intro j u hj
              rw [Addr.add_lit, Nat.zero_add]
              exact b12.cell j hj
            · intro v' w' hO' hb'
              exact ⟨v', rfl, hO', hb'⟩
          · obtain rfl := Option.some.inj ho
            have l13 := hdep ⟨13, .data⟩ (by simp) rfl
            have v13 : A.tmps.getD 28 undef = F 13 := Hget.out 13 28 (by decide) l13 rfl
            have s13 : Hid (OwnL W w.heap.size (F 13) (D ++ [⟨Ln.keyT p, Ln.valT q⟩])) := Lib.hid (by
              rcases HR.out 13 (by decide) l13 with ⟨_, h⟩ | h
              · omega
              · exact h)
            clear l13
            refine wpOp_mono (fun a' w' (h : ∃ v, a' = A.put (some 3) v ∧ Hid (lineSpec u3 w.heap.size G D rk ra rb rs p q ⟨Ln.keyT p, Ln.valT q⟩ 14 v w') ∧ Hid (Below W.heap.size W w')) => by obtain ⟨v, h1, h2, h3⟩ := h; exact ⟨v, h1, .inl ⟨by decide, ⟨HS.out.1.trans (h3.out.mono HS.out.1.size), fun hx => (HS.out.2 hx).trans (h3.out.mono (HS.out.2 hx).size)⟩, .inr h2.out, h3.out⟩⟩) ?_
            refine wpOp_plain rfl rfl ?_
            clear hdep h0
            unfold Oper.wp
            go_simp
            exact ⟨_, rfl, Lib.hid s13.out, Lib.hid (Below.refl _ _)⟩
      · have HD := Lib.hid (Hsp.out h20)
        have i20 : ¬ (k : Int) < 20 := by omega
        clear Hst Hsp h20
        go_wp2
        go_roundw
        case rel => exact ⟨k + 1, by omega, by go_num, Lib.hid (by rw [HD.out]; exact hO1.out), hG⟩
        case measure => simp [intOf]; omega
    · have htk : l.take k = l := List.take_of_length_le (by omega)
      rw [htk] at HO
      go_wp2
      go_ret
      exact ⟨⟨_, rfl, HO.out⟩, HBr.out⟩
end Go.Proofs.YtldfamdjdkaloabDoor
