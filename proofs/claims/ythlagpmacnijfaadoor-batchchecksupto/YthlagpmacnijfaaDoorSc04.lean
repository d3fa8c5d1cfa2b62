/- What the listed variables give: Go's library's, and the landed code's table of kinds; a world for the witness. -/
import Derived.Test.YthlagpmacnijfaaDoorSc03
import Derived.Test.YthlagpmacnijfaaDoorSc02
import Derived.Test.YthlagpmacnijfaaDoorRegVals
import Derived.Deep.DeepCutAuto
import Derived.Test.YthlagpmacnijfaaDoorRows
import Derived.Test.YthlagpmacnijfaaDoorMem
import Derived.ProofKit
import Derived.OpenShut
import Derived.ShutString
import Derived.ChangeOld
import Derived.Below
import Derived.SizedLaws
import Derived.Test.YthlagpmacnijfaaDoorBatchMem
import Derived.Deep.SlicePairs
import Derived.Lib.SmallJoins
import Derived.Test.YthlagpmacnijfaaDoorBatchRef5
import Derived.Test.YthlagpmacnijfaaDoorCards
import Derived.Test.YthlagpmacnijfaaDoorTie
import Derived.Test.YthlagpmacnijfaaDoorSc01
import Derived.Deep.DeepHandedRow
import Derived.Deep.DeepLaidRun
import Derived.Lib.LaidTab
import Derived.MakeChecks
import Derived.Stop.LaidErr
namespace Go.Proofs.YthlagpmacnijfaaDoor
open Go.RowKit

theorem set_beside (w : World) (xs ys : List Value) (t u : TypeId) : Below w.heap.size w ((w.alloc (.cells xs.toArray t)).alloc (.cells ys.toArray u)) ∧ Blk ((w.alloc (.cells xs.toArray t)).alloc (.cells ys.toArray u)) w.heap.size t xs ∧ Blk ((w.alloc (.cells xs.toArray t)).alloc (.cells ys.toArray u)) (w.heap.size + 1) u ys := by
  refine ⟨((Below.refl _ _).alloc (Nat.le_refl _) _).alloc (by simp) _, (Blk.new w t xs).kept ((Below.refl _ _).alloc (Nat.le_refl _) _), ?_⟩
  have := Blk.new (w.alloc (.cells xs.toArray t)) u ys
  rwa [show (w.alloc (.cells xs.toArray t)).heap.size = w.heap.size + 1 by simp] at this
theorem err_net_bits {s : Bt.S} (h : Bt.err s = 0) : -9223372036854775808 ≤ s.b ∧ s.b ≤ 9223372036854775807 := by
  obtain ⟨h1, h2⟩ := Bt.err_in h
  obtain ⟨-, -, h3⟩ := Bt.more_of h2
  rcases h3 with ⟨-, h3⟩ | h3
  · omega
  · have := (Bt.err_rest h).2.1 h3
    unfold Nt.err at this
    split at this <;> first | omega | cases this
def lineVal (G k : Nat) (st : ByteArray) (sn : Int) (sa : Nat) (sb : Int) (X V : ByteArray) (j : Nat) : Value :=
  match j with
  | 0 => .pointer (some ⟨G, 0, none⟩)
  | 1 => .int .i64 (k : Int)
  | 2 => .pointer (some ⟨0, k * 2, none⟩)
  | 3 => .pointer (some ⟨0, k * 2, none⟩)
  | 4 => .string X
  | 5 => .agg #[.int .i64 (k : Int), .string st, .int .i64 sn, .int .u32 (sa : Int), .int .i64 sb]
  | 6 => .string V
  | 7 => .agg #[.string X, .string V]
  | _ => .int .i64 0
def lineDst (i : Nat) : Option Nat := ([some 11, some 12, some 13, some 14, some 15, some 16, some 17, some 18, none, some 3] : List (Option Nat)).getD i none
theorem line_dist (i j : Nat) (h : i < j) (hj : j < 10) : lineDst i = none ∨ lineDst i ≠ lineDst j := (by decide : ∀ j, j < 10 → ∀ i, i < j → (lineDst i = none ∨ lineDst i ≠ lineDst j)) j hj i h
theorem line_in (i d : Nat) (hi : i < 10) (hd : lineDst i = some d) : (d = 3 ∨ 11 ≤ d) ∧ d ≤ 18 := by
  have h := (by decide : ∀ i, i < 10 → ((lineDst i).getD 3 = 3 ∨ 11 ≤ (lineDst i).getD 3) ∧ (lineDst i).getD 0 ≤ 18) i hi
  rw [hd] at h
  exact h
theorem line_put (F : Nat → Value) (a0 : Act) : putAll lineDst F a0 10 = (((((((((a0.put (some 11) (F 0)).put (some 12) (F 1)).put (some 13) (F 2)).put (some 14) (F 3)).put (some 15) (F 4)).put (some 16) (F 5)).put (some 17) (F 6)).put (some 18) (F 7)).put (some 3) (F 9)) := by
  rw [putAll_some 10 9 3 _ rfl rfl rfl, putAll_none 9 8 rfl rfl, putAll_some 8 7 18 _ rfl rfl rfl, putAll_some 7 6 17 _ rfl rfl rfl, putAll_some 6 5 16 _ rfl rfl rfl, putAll_some 5 4 15 _ rfl rfl rfl, putAll_some 4 3 14 _ rfl rfl rfl, putAll_some 3 2 13 _ rfl rfl rfl, putAll_some 2 1 12 _ rfl rfl rfl, putAll_some 1 0 11 _ rfl rfl rfl]
  rfl
set_option maxRecDepth 20000 in
set_option maxHeartbeats 8000000 in
theorem batch_Line (s : Bt.S) (w : World) (hs : s.t.size ≤ 1048576) (ha : s.a < 4294967296) (hn0 : -9223372036854775808 ≤ s.n) (hn1 : s.n ≤ 9223372036854775807) (hT : BTabs w) :
    Calls Tryd.prog 8 #[setV s] w fun e w' => e = .returned (.tuple #[lineV (Bt.line s), .int .i64 (Bt.err s : Int)]) ∧ Below w.heap.size w w' := by
  have hS := set_beside w (Bt.setC s) (Ln.lineC Bt.noLine) 26 30
  obtain ⟨w1, hw1⟩ : ∃ w1, w1 = (w.alloc (.cells (Bt.setC s).toArray 26)).alloc (.cells (Ln.lineC Bt.noLine).toArray 30) := ⟨_, rfl⟩
  rw [← hw1] at hS
  obtain ⟨hA, hG, hR⟩ := hS
  have HA := Lib.hid hA
  have HG := Lib.hid hG
  have HR := Lib.hid hR
  have HC := Lib.hid (fun W hW => batch_Check s W hs ha (hT.below hW))
  have HT := Lib.hid hT
  have hgl := hG.lt
  have hrl := hR.lt
  clear hT
  by_cases he : Bt.err s = 0
  · obtain ⟨hb0, hb1⟩ := err_net_bits he
    obtain ⟨⟨h1, h2⟩, -⟩ := Bt.err_in he
    have HW := Lib.hid (fun W hW => batch_write s W h1 h2 ha hn0 hn1 hb0 hb1 (HT.out.below hW))
    have hl : Bt.line s = ⟨Bt.nameOf s.k.toNat, Bt.val s⟩ := by unfold Bt.line; rw [if_pos he]; rfl
    obtain ⟨k, hk⟩ : ∃ k : Nat, s.k = (k : Int) := ⟨s.k.toNat, by omega⟩
    have hk11 : k < 11 := by omega
    rw [hl]
    rw [he] at HC ⊢
    rw [hk, Int.toNat_natCast]
    clear hl he hs ha hn0 hn1 hb0 hb1 h1 h2
    obtain ⟨sk, st, sn, sa, sb⟩ := s
    simp only at hk
    subst hk
    have hw1' : w1 = (w.alloc (.cells #[.int .i64 k, .string st, .int .i64 sn, .int .u32 (sa : Int), .int .i64 sb] 26)).alloc (.cells #[.string ⟨#[]⟩, .string ⟨#[]⟩] 30) := hw1
    have HN : Hid (∀ W, Below w.heap.size w W → W.cell? ⟨0, k * 2, none⟩ = some (.string (Bt.nameOf k))) := Lib.hid fun W hW => ((HT.out.2.below hW).2 k hk11).1
    generalize Bt.val ⟨(k : Int), st, sn, sa, sb⟩ = V at *
    generalize Bt.nameOf k = X at *
    obtain ⟨⟨g0, g1, g2, g3, g4⟩, -⟩ := hG.facts5
    have i0 : (0 : Int) ≤ (k : Int) := by omega
    have i1 : (k : Int) < 11 := by omega
    unfold setV at HC HW ⊢
    unfold lineV
    clear hA hG hR hw1
    go_enter Tryd.func8, Tryd.ntmps8
    go_upto_region 1 with fail
    rw [← hw1']
    clear hw1'
    go_wp2_with fail
    refine (HC.out w1 HA.out).mono ?_
    rintro e w2 ⟨rfl, hb2⟩
    have hG2 := HG.out.kept hb2
    have hR2 := HR.out.kept hb2
    have HG2 := Lib.hid hG2
    have HR2 := Lib.hid hR2
    have HA2 := Lib.hid (HA.out.trans (hb2.mono HA.out.size))
    have hlt0 := HT.out.2.1
    have HB2 := HA2
    clear g0 g1 g2 g3 g4 hG2 hR2 hb2 HC
    go_upto_region 4 with fail
    have hmix : Tryd.prog.follows .mixedOrders = true := by kernel_rfl
    refine wp_region_vals 10 8 lineDst (fun b' j v W => (b' = true ∧ j < 8) ∨ j = 8 ∨ v = lineVal w.heap.size k st sn sa sb X V j) (fun b' W => Below w.heap.size w W ∧ (b' = false → Below w2.heap.size w2 W) ∧ (b' = true → Blk W (w.heap.size + 1) 30 [.string X, .string V])) hmix rfl line_dist ?low ?inn ?stab ?drop ?late ?s0 ?step ?done
    case low =>
      intro i o ho
      have hi : i < 10 := by
        have := (Array.getElem?_eq_some_iff.1 ho).1
        simpa using this
      have hc : i = 0 ∨ i = 1 ∨ i = 2 ∨ i = 3 ∨ i = 4 ∨ i = 5 ∨ i = 6 ∨ i = 7 ∨ i = 8 ∨ i = 9 := by omega
      rcases hc with rfl | rfl | rfl | rfl | rfl | rfl | rfl | rfl | rfl | rfl <;> (obtain rfl := Option.some.inj ho; simp)
    case inn =>
      intro i d hi hd
      have hle := (line_in i d hi hd).2
      exact Nat.lt_of_le_of_lt hle (of_decide_eq_true rfl)
    case stab => exact fun b' j u W W' hb h => h
    case drop => exact fun j u W hj => .inl ⟨rfl, hj⟩
    case late =>
      intro j o hj ho
      have hi : j < 10 := by
        have := (Array.getElem?_eq_some_iff.1 ho).1
        simpa using this
      obtain rfl : j = 9 := by omega
      obtain rfl := Option.some.inj ho
      exact ⟨⟨8, .chain⟩, by simp, rfl, rfl⟩
    case s0 => exact ⟨HA2.out.drew, fun _ => (Below.refl _ _).drew, fun h => by cases h⟩
    case done =>
      intro F W hS hR
      have h9 : F 9 = .int .i64 0 := by
        rcases hR 9 (by decide) with ⟨_, h⟩ | h | h
        · omega
        · omega
        · exact h
      have HE := Lib.hid (hS.2.2 rfl)
      have HBf := Lib.hid hS.1
      rw [line_put, h9]
      simp only [Act.put, List.setIfInBounds_toArray, List.set_cons_succ, List.set_cons_zero]
      clear hR hS h9
      go_wp2
      exact bodyPost_ret (ret_cell (load_line HE.out rfl) Tryd.results8 rfl rfl) rfl ⟨rfl, HBf.out⟩
    case step =>
      intro listed W hs' hcl hSW A0 F hget hR hold i o ho h0 hdep
      have hi : i < 10 := by
        have := (Array.getElem?_eq_some_iff.1 ho).1
        simpa using this
      have hc : i = 0 ∨ i = 1 ∨ i = 2 ∨ i = 3 ∨ i = 4 ∨ i = 5 ∨ i = 6 ∨ i = 7 ∨ i = 8 ∨ i = 9 := by omega
      have nm : i < 9 → listed.getD 8 false = false := by
        intro hi8
        cases hx : listed.getD 8 false with
        | false => rfl
        | true =>
          exfalso
          have l7 := hcl 8 _ rfl hx ⟨7, .data⟩ (by simp) rfl
          have l6 := hcl 7 _ rfl l7 ⟨6, .data⟩ (by simp) rfl
          have l4 := hcl 7 _ rfl l7 ⟨4, .data⟩ (by simp) rfl
          have l5 := hcl 6 _ rfl l6 ⟨5, .data⟩ (by simp) rfl
          have l3 := hcl 4 _ rfl l4 ⟨3, .data⟩ (by simp) rfl
          have l2 := hcl 3 _ rfl l3 ⟨2, .data⟩ (by simp) rfl
          have l1 := hcl 2 _ rfl l2 ⟨1, .data⟩ (by simp) rfl
          have l0 := hcl 1 _ rfl l1 ⟨0, .data⟩ (by simp) rfl
          rcases hc with rfl | rfl | rfl | rfl | rfl | rfl | rfl | rfl | rfl | rfl <;> first | omega | (simp_all)
      have Hsp := Lib.hid (show ∀ j, j < 8 → i < 9 → listed.getD j false = true → F j = lineVal w.heap.size k st sn sa sb X V j by
        intro j hj hi8 hlj
        rcases hR j (by omega) hlj with ⟨hx, _⟩ | h | h
        · rw [nm hi8] at hx; cases hx
        · omega
        · exact h)
      have Hget := Lib.hid hget
      have Hold := Lib.hid hold
      have HS := Lib.hid hSW
      have Nm := Lib.hid nm
      clear hget hcl hold hSW hR nm
      rcases hc with rfl | rfl | rfl | rfl | rfl | rfl | rfl | rfl | rfl | rfl
      · obtain rfl := Option.some.inj ho
        have e1 : A0.tmps.getD 1 undef = .pointer (some ⟨w.heap.size, 0, none⟩) := (Hold.out 1 (fun j hj hd => by have := (line_in j 1 hj hd).1; omega)).trans rfl
        refine wpOp_mono (fun a' w' (h : ∃ v, a' = A0.put (some 11) v ∧ Hid (v = lineVal w.heap.size k st sn sa sb X V 0) ∧ Hid (Below W.heap.size W w')) => by obtain ⟨v, h1, h2, h3⟩ := h; exact ⟨v, h1, .inl ⟨by decide, ⟨HS.out.1.trans (h3.out.mono HS.out.1.size), fun hx => (HS.out.2.1 hx).trans (h3.out.mono (HS.out.2.1 hx).size), fun hx => absurd (Nm.out (by decide)) (by rw [hx]; decide)⟩, .inr (.inr h2.out), h3.out⟩⟩) ?_
        refine wpOp_plain rfl rfl ?_
        clear hdep h0
        unfold Oper.wp
        go_simp
        exact ⟨_, rfl, Lib.hid rfl, Lib.hid (Below.refl _ _)⟩
      · obtain rfl := Option.some.inj ho
        have v0 : A0.tmps.getD 11 undef = .pointer (some ⟨w.heap.size, 0, none⟩) := (Hget.out 0 11 (by decide) (hdep ⟨0, .data⟩ (by simp) rfl) rfl).trans (Hsp.out 0 (by decide) (by decide) (hdep ⟨0, .data⟩ (by simp) rfl))
        have HGW := Lib.hid (HG2.out.kept (HS.out.2.1 (Nm.out (by decide))))
        have y0 := HGW.out.cell 0 rfl
        refine wpOp_mono (fun a' w' (h : ∃ v, a' = A0.put (some 12) v ∧ Hid (v = lineVal w.heap.size k st sn sa sb X V 1) ∧ Hid (Below W.heap.size W w')) => by obtain ⟨v, h1, h2, h3⟩ := h; exact ⟨v, h1, .inl ⟨by decide, ⟨HS.out.1.trans (h3.out.mono HS.out.1.size), fun hx => (HS.out.2.1 hx).trans (h3.out.mono (HS.out.2.1 hx).size), fun hx => absurd (Nm.out (by decide)) (by rw [hx]; decide)⟩, .inr (.inr h2.out), h3.out⟩⟩) ?_
        refine wpOp_plain rfl rfl ?_
        clear hdep h0
        unfold Oper.wp
        go_simp
        exact ⟨_, rfl, Lib.hid rfl, Lib.hid (Below.refl _ _)⟩
      · obtain rfl := Option.some.inj ho
        have v1 : A0.tmps.getD 12 undef = .int .i64 (k : Int) := (Hget.out 1 12 (by decide) (hdep ⟨1, .data⟩ (by simp) rfl) rfl).trans (Hsp.out 1 (by decide) (by decide) (hdep ⟨1, .data⟩ (by simp) rfl))
        refine wpOp_mono (fun a' w' (h : ∃ v, a' = A0.put (some 13) v ∧ Hid (v = lineVal w.heap.size k st sn sa sb X V 2) ∧ Hid (Below W.heap.size W w')) => by obtain ⟨v, h1, h2, h3⟩ := h; exact ⟨v, h1, .inl ⟨by decide, ⟨HS.out.1.trans (h3.out.mono HS.out.1.size), fun hx => (HS.out.2.1 hx).trans (h3.out.mono (HS.out.2.1 hx).size), fun hx => absurd (Nm.out (by decide)) (by rw [hx]; decide)⟩, .inr (.inr h2.out), h3.out⟩⟩) ?_
        refine wpOp_plain rfl rfl ?_
        clear hdep h0
        unfold Oper.wp
        go_simp
        exact ⟨_, rfl, Lib.hid rfl, Lib.hid (Below.refl _ _)⟩
      · obtain rfl := Option.some.inj ho
        have v2 : A0.tmps.getD 13 undef = .pointer (some ⟨0, k * 2, none⟩) := (Hget.out 2 13 (by decide) (hdep ⟨2, .data⟩ (by simp) rfl) rfl).trans (Hsp.out 2 (by decide) (by decide) (hdep ⟨2, .data⟩ (by simp) rfl))
        refine wpOp_mono (fun a' w' (h : ∃ v, a' = A0.put (some 14) v ∧ Hid (v = lineVal w.heap.size k st sn sa sb X V 3) ∧ Hid (Below W.heap.size W w')) => by obtain ⟨v, h1, h2, h3⟩ := h; exact ⟨v, h1, .inl ⟨by decide, ⟨HS.out.1.trans (h3.out.mono HS.out.1.size), fun hx => (HS.out.2.1 hx).trans (h3.out.mono (HS.out.2.1 hx).size), fun hx => absurd (Nm.out (by decide)) (by rw [hx]; decide)⟩, .inr (.inr h2.out), h3.out⟩⟩) ?_
        refine wpOp_plain rfl rfl ?_
        clear hdep h0
        unfold Oper.wp
        go_simp
        exact ⟨_, rfl, Lib.hid rfl, Lib.hid (Below.refl _ _)⟩
      · obtain rfl := Option.some.inj ho
        have v3 : A0.tmps.getD 14 undef = .pointer (some ⟨0, k * 2, none⟩) := (Hget.out 3 14 (by decide) (hdep ⟨3, .data⟩ (by simp) rfl) rfl).trans (Hsp.out 3 (by decide) (by decide) (hdep ⟨3, .data⟩ (by simp) rfl))
        have y0 := HN.out W HS.out.1
        refine wpOp_mono (fun a' w' (h : ∃ v, a' = A0.put (some 15) v ∧ Hid (v = lineVal w.heap.size k st sn sa sb X V 4) ∧ Hid (Below W.heap.size W w')) => by obtain ⟨v, h1, h2, h3⟩ := h; exact ⟨v, h1, .inl ⟨by decide, ⟨HS.out.1.trans (h3.out.mono HS.out.1.size), fun hx => (HS.out.2.1 hx).trans (h3.out.mono (HS.out.2.1 hx).size), fun hx => absurd (Nm.out (by decide)) (by rw [hx]; decide)⟩, .inr (.inr h2.out), h3.out⟩⟩) ?_
        refine wpOp_plain rfl rfl ?_
        clear hdep h0
        unfold Oper.wp
        go_simp
        exact ⟨_, rfl, Lib.hid rfl, Lib.hid (Below.refl _ _)⟩
      · obtain rfl := Option.some.inj ho
        have e1 : A0.tmps.getD 1 undef = .pointer (some ⟨w.heap.size, 0, none⟩) := (Hold.out 1 (fun j hj hd => by have := (line_in j 1 hj hd).1; omega)).trans rfl
        have HGW := Lib.hid (HG2.out.kept (HS.out.2.1 (Nm.out (by decide))))
        obtain ⟨y0, y1, y2, y3, y4⟩ := HGW.out.facts5.1
        refine wpOp_mono (fun a' w' (h : ∃ v, a' = A0.put (some 16) v ∧ Hid (v = lineVal w.heap.size k st sn sa sb X V 5) ∧ Hid (Below W.heap.size W w')) => by obtain ⟨v, h1, h2, h3⟩ := h; exact ⟨v, h1, .inl ⟨by decide, ⟨HS.out.1.trans (h3.out.mono HS.out.1.size), fun hx => (HS.out.2.1 hx).trans (h3.out.mono (HS.out.2.1 hx).size), fun hx => absurd (Nm.out (by decide)) (by rw [hx]; decide)⟩, .inr (.inr h2.out), h3.out⟩⟩) ?_
        refine wpOp_plain rfl rfl ?_
        clear hdep h0
        unfold Oper.wp
        go_simp
        exact ⟨_, rfl, Lib.hid rfl, Lib.hid (Below.refl _ _)⟩
      · obtain rfl := Option.some.inj ho
        have v5 : A0.tmps.getD 16 undef = .agg #[.int .i64 (k : Int), .string st, .int .i64 sn, .int .u32 (sa : Int), .int .i64 sb] := (Hget.out 5 16 (by decide) (hdep ⟨5, .data⟩ (by simp) rfl) rfl).trans (Hsp.out 5 (by decide) (by decide) (hdep ⟨5, .data⟩ (by simp) rfl))
        have v5' : A0.tmps[16]?.getD undef = .agg #[.int .i64 (k : Int), .string st, .int .i64 sn, .int .u32 (sa : Int), .int .i64 sb] := by simpa using v5
        refine wpOp_mono (fun a' w' (h : ∃ v, a' = A0.put (some 17) v ∧ Hid (v = lineVal w.heap.size k st sn sa sb X V 6) ∧ Hid (Below W.heap.size W w')) => by obtain ⟨v, h1, h2, h3⟩ := h; exact ⟨v, h1, .inl ⟨by decide, ⟨HS.out.1.trans (h3.out.mono HS.out.1.size), fun hx => (HS.out.2.1 hx).trans (h3.out.mono (HS.out.2.1 hx).size), fun hx => absurd (Nm.out (by decide)) (by rw [hx]; decide)⟩, .inr (.inr h2.out), h3.out⟩⟩) ?_
        refine wpOp_plain rfl rfl ?_
        clear hdep h0
        unfold Oper.wp
        go_simp
        refine (HW.out W HS.out.1).mono ?_
        rintro e W' ⟨rfl, hb⟩
        exact ⟨_, rfl, Lib.hid rfl, Lib.hid hb⟩
      · obtain rfl := Option.some.inj ho
        have v4 : A0.tmps.getD 15 undef = .string X := (Hget.out 4 15 (by decide) (hdep ⟨4, .data⟩ (by simp) rfl) rfl).trans (Hsp.out 4 (by decide) (by decide) (hdep ⟨4, .data⟩ (by simp) rfl))
        have v6 : A0.tmps.getD 17 undef = .string V := (Hget.out 6 17 (by decide) (hdep ⟨6, .data⟩ (by simp) rfl) rfl).trans (Hsp.out 6 (by decide) (by decide) (hdep ⟨6, .data⟩ (by simp) rfl))
        have v4' : A0.tmps[15]?.getD undef = .string X := by simpa using v4
        have v6' : A0.tmps[17]?.getD undef = .string V := by simpa using v6
        refine wpOp_mono (fun a' w' (h : ∃ v, a' = A0.put (some 18) v ∧ Hid (v = lineVal w.heap.size k st sn sa sb X V 7) ∧ Hid (Below W.heap.size W w')) => by obtain ⟨v, h1, h2, h3⟩ := h; exact ⟨v, h1, .inl ⟨by decide, ⟨HS.out.1.trans (h3.out.mono HS.out.1.size), fun hx => (HS.out.2.1 hx).trans (h3.out.mono (HS.out.2.1 hx).size), fun hx => absurd (Nm.out (by decide)) (by rw [hx]; decide)⟩, .inr (.inr h2.out), h3.out⟩⟩) ?_
        refine wpOp_plain rfl rfl ?_
        clear hdep h0
        unfold Oper.wp
        go_simp
        exact ⟨_, rfl, Lib.hid rfl, Lib.hid (Below.refl _ _)⟩
      · obtain rfl := Option.some.inj ho
        have v7 : A0.tmps.getD 18 undef = .agg #[.string X, .string V] := (Hget.out 7 18 (by decide) (hdep ⟨7, .data⟩ (by simp) rfl) rfl).trans (Hsp.out 7 (by decide) (by decide) (hdep ⟨7, .data⟩ (by simp) rfl))
        have v7' : A0.tmps[18]?.getD undef = .agg #[.string X, .string V] := by simpa using v7
        have e2 : A0.tmps.getD 2 undef = .pointer (some ⟨w.heap.size + 1, 0, none⟩) := (Hold.out 2 (fun j hj hd => by have := (line_in j 2 hj hd).1; omega)).trans rfl
        have hRW := HR2.out.kept (HS.out.2.1 (Nm.out (by decide)))
        have c0 := hRW.cell 0 rfl
        have c1 := hRW.cell 1 rfl
        have f0 := hRW.frozen (by decide) 0
        have f1 := hRW.frozen (by decide) 1
        have HE := Lib.hid (hRW.set2 (.string X) (.string V))
        have HBE := Lib.hid ((HS.out.1.setCell (p := ⟨w.heap.size + 1, 0, none⟩) (Nat.le_succ _) (.string X)).setCell (p := ⟨w.heap.size + 1, 1, none⟩) (Nat.le_succ _) (.string V))
        clear hRW
        refine wpOp_mono (fun a' w' (h : ∃ v, a' = A0.put none v ∧ Hid (Blk w' (w.heap.size + 1) 30 [.string X, .string V]) ∧ Hid (Below w.heap.size w w')) => by obtain ⟨v, h1, h2, h3⟩ := h; exact ⟨v, h1, .inr ⟨rfl, ⟨h3.out, fun hx => (by cases hx), fun _ => h2.out⟩, .inr (.inl rfl)⟩⟩) ?_
        refine wpOp_plain rfl rfl ?_
        clear hdep h0
        unfold Oper.wp
        go_simp
        all_goals exact ⟨undef, rfl, HE, HBE⟩
      · obtain rfl := Option.some.inj ho
        have l8 := hdep ⟨8, .chain⟩ (by simp) rfl
        refine wpOp_mono (fun a' w' (h : ∃ v, a' = A0.put (some 3) v ∧ Hid (v = .int .i64 0) ∧ Hid (w' = W)) => by obtain ⟨v, h1, h2, h3⟩ := h; exact ⟨v, h1, .inl ⟨by decide, by rw [h3.out]; exact HS.out, .inr (.inr h2.out), by rw [h3.out]; exact Below.refl _ _⟩⟩) ?_
        refine wpOp_plain rfl rfl ?_
        clear hdep h0
        unfold Oper.wp
        go_simp
        exact ⟨_, rfl, Lib.hid rfl, Lib.hid (by trivial)⟩
  · have Hl : Hid (Bt.line s = ⟨⟨#[]⟩, ⟨#[]⟩⟩) := Lib.hid (by unfold Bt.line; rw [if_neg he]; rfl)
    have hn : ((Bt.err s : Int) != 0) = true := by simpa using he
    rw [Hl.out]
    obtain ⟨sk, st, sn, sa, sb⟩ := s
    have hw1' : w1 = (w.alloc (.cells #[.int .i64 sk, .string st, .int .i64 sn, .int .u32 (sa : Int), .int .i64 sb] 26)).alloc (.cells #[.string ⟨#[]⟩, .string ⟨#[]⟩] 30) := hw1
    obtain ⟨⟨g0, g1, g2, g3, g4⟩, -⟩ := hG.facts5
    clear he hA hG hR hw1
    generalize Bt.err ⟨sk, st, sn, sa, sb⟩ = r at *
    unfold setV at HC ⊢
    unfold lineV
    go_enter Tryd.func8, Tryd.ntmps8
    go_upto_region 1 with fail
    rw [← hw1']
    clear hw1'
    go_wp2_with fail
    refine (HC.out w1 HA.out).mono ?_
    rintro e w2 ⟨rfl, hb2⟩
    have hR2 := HR.out.kept hb2
    have c0 := hR2.cell 0 rfl
    have c1 := hR2.cell 1 rfl
    have f0 := hR2.frozen (by decide) 0
    have f1 := hR2.frozen (by decide) 1
    have HE := Lib.hid (hR2.set2 (.string ⟨#[]⟩) (.string ⟨#[]⟩))
    have HB2 := Lib.hid (HA.out.trans (hb2.mono HA.out.size))
    clear hR2 hb2 g0 g1 g2 g3 g4
    go_wp2
    exact bodyPost_ret (ret_cell (load_line HE.out rfl) Tryd.results8 rfl rfl) rfl ⟨rfl, (HB2.out.setCell (p := ⟨w.heap.size + 1, 0, none⟩) (Nat.le_succ _) _).setCell (p := ⟨w.heap.size + 1, 1, none⟩) (Nat.le_succ _) _⟩
end Go.Proofs.YthlagpmacnijfaaDoor

namespace Go.Proofs.YthlagpmacnijfaaDoor
open Go.ChangeShapes Go.WideShapes Go.ChangeAt Go.RowKit

theorem own_knob : ownKnob Tryd.prog.godebug = none := by kernel_rfl
theorem laid_out : laidOutB Tryd.prog = true := by kernel_rfl

theorem lt_of_cell {w : World} {a : Addr} {v : Value} (h : w.cell? a = some v) : a.block < w.heap.size := by
  rcases Nat.lt_or_ge a.block w.heap.size with hlt | hge
  · exact hlt
  · simp [World.cell?, Array.getElem?_eq_none hge] at h

theorem byte_wf {n : Int} (h : (Lit.int .u8 n).wf = true) : ((UInt8.ofNat n.toNat).toNat : Int) = n := by
  have hb := bounds_u8 h
  rw [UInt8.toNat_ofNat', Nat.mod_eq_of_lt (by omega)]
  omega
end Go.Proofs.YthlagpmacnijfaaDoor

namespace Go.Proofs.YthlagpmacnijfaaDoor
open Go.ChangeShapes Go.WideShapes Go.ChangeAt Go.RowKit Go.Deep

/-- A setting as a datum. -/
def setD {H : Type} (s : Bt.S) : DataW H := .agg [.lit (.int .i64 s.k), .lit (.string s.t.data.toList), .lit (.int .i64 s.n), .agg [.lit (.int .u32 (s.a : Int)), .lit (.int .i64 s.b)]]
def SetBounds (s : Bt.S) : Prop := s.a < 4294967296 ∧ -9223372036854775808 ≤ s.n ∧ s.n ≤ 9223372036854775807
theorem cells_set : Tryd.prog.cellsOf 26 = 5 := by kernel_rfl
set_option maxRecDepth 100000 in
theorem open_set5 {H : Type} {enc : TypeId × Value → H} {W : World} {n : Nat} {cs : List Value} {x : DataW H × List MemPlace} (hl : cs.length = 5)
    (h : DataW.trod enc Tryd.prog W 0 (fun _ => true) true n 26 cs = some x) : ∃ s : Bt.S, cs = Bt.setC s ∧ SetBounds s ∧ x.1 = setD s := by
  obtain ⟨xs, m, _, rfl, _, hxl, hf⟩ := DataW.trod_struct Tryd.underlying26 h
  match xs, hxl, cs, hl with
  | [y0, y1, y2, y3], _, [v0, v1, v2, v3, v4], _ =>
    have g0 := hf 0 _ rfl
    have g1 := hf 1 _ rfl
    have g2 := hf 2 _ rfl
    have g3 := hf 3 _ rfl
    change DataW.trod enc Tryd.prog W 0 (fun _ => true) true m 3 [v0] = some y0 at g0
    change DataW.trod enc Tryd.prog W 0 (fun _ => true) true m 9 [v1] = some y1 at g1
    change DataW.trod enc Tryd.prog W 0 (fun _ => true) true m 3 [v2] = some y2 at g2
    change DataW.trod enc Tryd.prog W 0 (fun _ => true) true m 24 [v3, v4] = some y3 at g3
    obtain ⟨zs, k, _, rfl, _, hzl, hz⟩ := DataW.trod_struct Tryd.underlying24 g3
    match zs, hzl with
    | [z0, z1], _ =>
      have q0 := hz 0 _ rfl
      have q1 := hz 1 _ rfl
      change DataW.trod enc Tryd.prog W 0 (fun _ => true) true k 22 [v3] = some z0 at q0
      change DataW.trod enc Tryd.prog W 0 (fun _ => true) true k 3 [v4] = some z1 at q1
      obtain ⟨kk, e0, rfl, _⟩ := DataW.trod_int Tryd.underlying3 g0
      obtain ⟨t, e1, rfl, _⟩ := DataW.trod_string Tryd.underlying9 g1
      obtain ⟨nn, e2, rfl, w2⟩ := DataW.trod_int Tryd.underlying3 g2
      obtain ⟨a, e3, rfl, w3⟩ := DataW.trod_int Tryd.underlying22 q0
      obtain ⟨b, e4, rfl, _⟩ := DataW.trod_int Tryd.underlying3 q1
      injection e0 with e0
      injection e1 with e1
      injection e2 with e2
      injection e3 with e3
      injection e4 with e4
      subst e0 e1 e2 e3 e4
      have ha := bounds_u32 w3
      obtain ⟨a', rfl⟩ : ∃ a' : Nat, a = (a' : Int) := ⟨a.toNat, by omega⟩
      exact ⟨⟨kk, t, nn, a', b⟩, rfl, ⟨by show a' < _; omega, (bounds_i64 w2).1, (bounds_i64 w2).2⟩, rfl⟩
set_option maxRecDepth 100000 in
theorem open_set {H : Type} {enc : TypeId × Value → H} {W : World} {base : Nat} {v : Value} {d : DataW H} {p : List MemPlace} (hv : Value.okWide Tryd.prog W .any base 26 v)
    (h : DataW.Trod enc Tryd.prog W 0 (fun _ => true) true 26 v d p) : ∃ s : Bt.S, v = setV s ∧ SetBounds s ∧ d = setD s := by
  obtain ⟨cs, rfl, hsz⟩ := okWide_struct Tryd.underlying26 hv
  obtain ⟨fuel, hf⟩ := h
  have hl : cs.toList.length = 5 := by rw [Array.length_toList, hsz, cells_set]
  obtain ⟨s, e, hb, hd⟩ := open_set5 hl (by simpa [Value.cells] using hf)
  refine ⟨s, ?_, hb, hd⟩
  have : cs = (Bt.setC s).toArray := by rw [← e]
  rw [this]
  rfl
set_option maxRecDepth 100000 in
theorem open_sets {H : Type} {enc : TypeId × Value → H} {W : World} {a : Option Addr} {len cap : Nat} {d : DataW H} {p : List MemPlace}
    (h : DataW.Trod enc Tryd.prog W 0 (fun _ => true) true 35 (.slice a len cap) d p) :
    ∃ l : List Bt.S, SetsAt W W.heap.size a len l ∧ len ≤ cap ∧ (∀ s ∈ l, SetBounds s) ∧ ((d = .nil ∧ l = []) ∨ ∃ sp, d = .slice (l.map setD) sp) := by
  obtain ⟨fuel, hf⟩ := h
  rcases open_slice Tryd.underlying35 hf with ⟨hcs, hx⟩ | ⟨x, l, c, m, n, D, Pl, hcs, _, hl, hm, hmm, hx, hall⟩
  · simp [Value.cells] at hcs
    obtain ⟨rfl, rfl, rfl⟩ := hcs
    simp only [Prod.mk.injEq] at hx
    exact ⟨[], ⟨rfl, fun h => absurd h (by omega)⟩, Nat.le_refl _, fun _ h => (by cases h), .inl ⟨hx.1, rfl⟩⟩
  · simp [Value.cells] at hcs
    obtain ⟨rfl, rfl, rfl⟩ := hcs
    simp only [Prod.mk.injEq] at hx
    rw [if_pos rfl] at hmm
    subst hmm
    rw [cells_set] at hall
    have each : ∀ i, i < m → ∃ s : Bt.S, (∀ j, j < 5 → W.cell? (x.add (i * 5 + j)) = (Bt.setC s)[j]?) ∧ SetBounds s ∧ D i = setD s := by
      intro i hi
      obtain ⟨cs', h1, h2⟩ := hall i hi
      obtain ⟨_, hlen, hcell⟩ := World.cells?_some h1
      obtain ⟨s, rfl, hb, hd⟩ := open_set5 hlen h2
      exact ⟨s, fun j hj => by rw [← add_add]; exact hcell j hj, hb, hd⟩
    obtain ⟨q, hq⟩ := choose_lt each
    refine ⟨(List.range len).map q, ⟨by simp, fun hpos => ?_⟩, hl, ?_, .inr ⟨(List.range (m - len)).map fun j => D (len + j), ?_⟩⟩
    · obtain ⟨b, off, spot⟩ := x
      have h0 := (hq 0 (by omega)).1 0 (by omega)
      have hspot : spot = none := by simpa [Addr.add] using World.cell?_spot h0
      subst hspot
      have hc : ∀ i (_ : i < len) j (_ : j < 5), W.cell? ⟨b, off + i * 5 + j, none⟩ = (Bt.setC (q i))[j]? := by
        intro i hi j hj
        rw [← (hq i (by omega)).1 j hj, Addr.add_lit, Nat.add_assoc]
      refine ⟨b, off, rfl, lt_of_cell (a := ⟨b, off + 0 * 5 + 0, none⟩) (hc 0 hpos 0 (by omega)), fun i hi => ?_⟩
      have hi' : i < len := by simpa using hi
      rw [List.getElem_map, List.getElem_range]
      exact ⟨hc i hi' 0 (by omega), hc i hi' 1 (by omega), hc i hi' 2 (by omega), hc i hi' 3 (by omega), hc i hi' 4 (by omega)⟩
    · intro s hs
      obtain ⟨i, hi, rfl⟩ := List.mem_map.1 hs
      exact (hq i (by have := List.mem_range.1 hi; omega)).2.1
    · rw [hx.1, List.map_map]
      congr 1
      apply List.map_congr_left
      intro i hi
      exact (hq i (by have := List.mem_range.1 hi; omega)).2.2
theorem bulk_mem {H : Type} {d : DataW H} : ∀ {l : List (DataW H)}, d ∈ l → Rows.uptoBulk d ≤ Rows.uptoBulkAll l
  | x :: r, h => by
    rw [Rows.uptoBulkAll]
    rcases List.mem_cons.1 h with rfl | h
    · omega
    · have := bulk_mem h; omega
theorem bulk_set {H : Type} (s : Bt.S) : s.t.size + 1 ≤ Rows.uptoBulk (setD (H := H) s) := by
  unfold setD
  simp only [Rows.uptoBulk, Rows.uptoBulkAll]
  have : s.t.data.toList.length = s.t.size := by simp
  omega
theorem bulk_len {H : Type} : ∀ (l : List Bt.S), l.length ≤ Rows.uptoBulkAll (l.map (setD (H := H)))
  | [] => Nat.zero_le _
  | s :: r => by
    rw [List.map_cons, Rows.uptoBulkAll, List.length_cons]
    have h1 := bulk_set (H := H) s
    have h2 := bulk_len (H := H) r
    omega
/-- What the narrowed rows say of a list of settings. -/
theorem sets_small {H : Type} {d : DataW H} {l : List Bt.S} (hd : (d = .nil ∧ l = []) ∨ ∃ sp, d = .slice (l.map setD) sp) (h : Rows.uptoBulk d ≤ 1048576) : (∀ s ∈ l, s.t.size ≤ 1048576) ∧ l.length ≤ 1048576 := by
  rcases hd with ⟨_, rfl⟩ | ⟨sp, rfl⟩
  · exact ⟨fun _ h => (by cases h), Nat.zero_le _⟩
  · rw [Rows.uptoBulk] at h
    refine ⟨fun s hs => ?_, ?_⟩
    · have h1 := bulk_mem (List.mem_map_of_mem (f := setD (H := H)) hs)
      have h2 := bulk_set (H := H) s
      omega
    · have := bulk_len (H := H) l
      omega
theorem set_small {H : Type} {d : DataW H} {s : Bt.S} (hd : d = setD s) (h : Rows.uptoBulk d ≤ 1048576) : s.t.size ≤ 1048576 := by
  have := bulk_set (H := H) s
  rw [hd] at h
  omega
end Go.Proofs.YthlagpmacnijfaaDoor

namespace Go.Proofs.YthlagpmacnijfaaDoor
open Go.RowKit

set_option maxRecDepth 20000 in
set_option maxHeartbeats 4000000 in
theorem law_BatchChecks (x : Bt.S) (w : World) (bd : SetBounds x) (u : x.t.size ≤ 1048576) (hT : ATabs w) :
    Calls Tryd.prog 3 #[setV x] w fun e w' => e = .returned (.bool true) ∧ Below w.heap.size w w' := by
  obtain ⟨b1, b2, b3⟩ := bd
  have H1 := Lib.hid (fun W hW => batch_Check x W u b1 (hT.code.below hW))
  have H2 := Lib.hid (fun W hW => batch_Line x W u b1 b2 b3 (hT.code.below hW))
  have H3 := Lib.hid (fun W hW => ref_SettingFault x W u b1 (hT.1.below hW))
  have H4 := Lib.hid (fun W hW => ref_SettingLine x W u b1 b2 b3 (hT.1.below hW))
  clear hT u b1 b2 b3
  generalize Bt.err x = r at *
  generalize Bt.line x = L at *
  obtain ⟨X, Y⟩ := L
  obtain ⟨sk, st, sn, sa, sb⟩ := x
  unfold setV at H1 H2 H3 H4 ⊢
  unfold lineV at H2 H4
  obtain ⟨w1, hw1⟩ : ∃ w1, w1 = w.alloc (.cells #[.int .i64 sk, .string st, .int .i64 sn, .int .u32 (sa : Int), .int .i64 sb] 26) := ⟨_, rfl⟩
  have HA := Lib.hid (show Below w.heap.size w w1 by rw [hw1]; exact (Below.refl _ _).alloc (Nat.le_refl _) _)
  have HG := Lib.hid (show Blk w1 w.heap.size 26 [.int .i64 sk, .string st, .int .i64 sn, .int .u32 (sa : Int), .int .i64 sb] by rw [hw1]; exact Blk.new _ _ _)
  go_enter Tryd.func3, Tryd.ntmps3
  go_wp2_with fail
  rw [← hw1]
  clear hw1
  refine (H1.out w1 HA.out).mono ?_
  rintro e w2 ⟨rfl, hb2⟩
  have HG2 := Lib.hid (HG.out.kept hb2)
  have HA2 := Lib.hid (HA.out.trans (hb2.mono HA.out.size))
  obtain ⟨g0, g1, g2, g3, g4⟩ := HG2.out.facts5.1
  clear hb2 H1
  go_wp2_with fail
  refine (H2.out w2 HA2.out).mono ?_
  rintro e w3 ⟨rfl, hb3⟩
  obtain ⟨w4, hw4⟩ : ∃ w4, w4 = w3.alloc (.cells #[.string X, .string Y] 30) := ⟨_, rfl⟩
  have hA4 : Below w3.heap.size w3 w4 := by rw [hw4]; exact (Below.refl _ _).alloc (Nat.le_refl _) _
  have HM4 := Lib.hid (show Blk w4 w3.heap.size 30 [.string X, .string Y] by rw [hw4]; exact Blk.new _ _ _)
  have hB24 := hb3.trans (hA4.mono hb3.size)
  have HG4 := Lib.hid (HG2.out.kept hB24)
  have HA4 := Lib.hid (HA2.out.trans (hB24.mono HA2.out.size))
  clear hA4 hB24 hb3 H2 g0 g1 g2 g3 g4
  obtain ⟨g0, g1, g2, g3, g4⟩ := HG4.out.facts5.1
  go_upto_region 3 with fail
  rw [← hw4]
  clear hw4
  go_wp2_with fail
  refine (H3.out w4 HA4.out).mono ?_
  rintro e w5 ⟨rfl, hb5⟩
  have HG5 := Lib.hid (HG4.out.kept hb5)
  have HM5 := Lib.hid (HM4.out.kept hb5)
  have HA5 := Lib.hid (HA4.out.trans (hb5.mono HA4.out.size))
  clear hb5 H3 g0 g1 g2 g3 g4
  obtain ⟨g0, g1, g2, g3, g4⟩ := HG5.out.facts5.1
  go_wp2_with fail
  refine (H4.out w5 HA5.out).mono ?_
  rintro e w6 ⟨rfl, hb6⟩
  obtain ⟨w7, hw7⟩ : ∃ w7, w7 = w6.alloc (.cells #[.string X, .string Y] 30) := ⟨_, rfl⟩
  have hA7 : Below w6.heap.size w6 w7 := by rw [hw7]; exact (Below.refl _ _).alloc (Nat.le_refl _) _
  have hM := show Blk w7 w6.heap.size 30 [.string X, .string Y] by rw [hw7]; exact Blk.new _ _ _
  have hB57 := hb6.trans (hA7.mono hb6.size)
  have hM5 := HM5.out.kept hB57
  have HA7 := Lib.hid (HA5.out.trans (hB57.mono HA5.out.size))
  have m0 := hM.cell 0 rfl
  have m1 := hM.cell 1 rfl
  have k0 := hM5.cell 0 rfl
  have k1 := hM5.cell 1 rfl
  clear hA7 hM hB57 hM5 hb6 g0 g1 g2 g3 g4 H4
  go_upto_region 5 with fail
  rw [← hw7]
  clear hw7
  go_wp2
  go_ret
  exact ⟨rfl, HA7.out⟩
end Go.Proofs.YthlagpmacnijfaaDoor

namespace Go.Proofs.YthlagpmacnijfaaDoor
open Go.ChangeShapes Go.WideShapes Go.ChangeAt Go.RowKit

theorem gPow : Tryd.prog.globalNamed "internal/strconv.uint64pow10" = some 2 := by kernel_rfl
theorem gPowType : (Tryd.prog.globals[2]?).map (·.type) = some 151 := by kernel_rfl
theorem cellsPow : Tryd.prog.cellsOf 151 = 20 := by kernel_rfl
theorem cellsU64 : Tryd.prog.cellsOf 127 = 1 := by kernel_rfl
theorem gRange : Tryd.prog.globalNamed "strconv.ErrRange" = some 4 := by kernel_rfl
theorem gRangeType : (Tryd.prog.globals[4]?).map (·.type) = some 85 := by kernel_rfl
theorem gSyntax : Tryd.prog.globalNamed "strconv.ErrSyntax" = some 3 := by kernel_rfl
theorem gSyntaxType : (Tryd.prog.globals[3]?).map (·.type) = some 85 := by kernel_rfl
theorem cellsErr : Tryd.prog.cellsOf 167 = 1 := by kernel_rfl
theorem cellsStr : Tryd.prog.cellsOf 9 = 1 := by kernel_rfl
theorem star_err : "*" ++ "errors.errorString" = "*errors.errorString" := by decide
theorem row_err (u : TypeId) (h : Tryd.prog.typeName? 3 u = some "*errors.errorString") : u = 165 :=
  typeName_ptr_named (nm := "errors.errorString") (by rw [star_err]; kernel_rfl) (by kernel_rfl) (by decide) u (by rw [star_err]; exact h)
theorem pow_of_head {W : World} {r : List (String × DataW Unit)} (h : laidMet Tryd.prog (("internal/strconv.uint64pow10", Rows.laid_internal_strconv_uint64pow10) :: r) W) : PowTab W :=
  Lib.tabIs_of_head (k := .u64) (zs := Lib.pow10Tab) gPow gPowType Tryd.underlying151 Tryd.underlying127 cellsU64 cellsPow h
theorem err_of_head {W : World} {n : String} {g : Nat} {text : List UInt8} {r : List (String × DataW Unit)} (hg : Tryd.prog.globalNamed n = some g) (ht : (Tryd.prog.globals[g]?).map (·.type) = some 85)
    (h : laidMet Tryd.prog ((n, .iface "*errors.errorString" (.ptr (.agg [.lit (.string text)]))) :: r) W) : ∃ t p, W.cell? ⟨g, 0, none⟩ = some (.iface t p) := by
  obtain ⟨a, s, hv, _⟩ := laid_sentinel h hg ht Tryd.underlying85 row_err Tryd.underlying165 Tryd.underlying167 rfl rfl Tryd.underlying9 cellsErr cellsStr
  exact ⟨_, _, World.var?_cell hg hv 0⟩
theorem max_of_shaped {W : World} (h : W.ShapedOpen Tryd.prog) : MaxTab W := Tryd.laysM145.s1_3 W h

/-- The cells of a datum. -/
def flat : Nat → DataW Unit → List Value
  | n + 1, .agg ps => ps.flatMap (flat n)
  | _, .lit (.int k z) => [.int k z]
  | _, .lit (.string s) => [.string ⟨s.toArray⟩]
  | _, _ => []
/-- A block's cells anew. -/
def put (vs : List Value) : Obj → Obj
  | .cells _ t frozen => .cells vs.toArray t frozen
  | o => o
noncomputable def low : Nat := (World.holding Tryd.prog default ⟨#[], #[], []⟩).heap.size
abbrev rangeS : ByteArray := ⟨#[118, 97, 108, 117, 101, 32, 111, 117, 116, 32, 111, 102, 32, 114, 97, 110, 103, 101]⟩
abbrev syntaxS : ByteArray := ⟨#[105, 110, 118, 97, 108, 105, 100, 32, 115, 121, 110, 116, 97, 120]⟩
end Go.Proofs.YthlagpmacnijfaaDoor

namespace Go.Proofs.YthlagpmacnijfaaDoor
open Go.ChangeShapes Go.WideShapes Go.ChangeAt Go.RowKit

theorem gShapes : Tryd.prog.globalNamed "cattlecreep/batch.shapes" = some 0 := by kernel_rfl
theorem gShapesType : (Tryd.prog.globals[0]?).map (·.type) = some 55 := by kernel_rfl
theorem cellsShapes : Tryd.prog.cellsOf 55 = 22 := by kernel_rfl
theorem cellsShape : Tryd.prog.cellsOf 54 = 2 := by kernel_rfl
/-- The table as the row lists it. -/
theorem shapes_list : (Rows.laid_cattlecreep_batch_shapes : DataW Unit) = .agg ((List.range 11).map fun k => .agg [.lit (.string (Bt.nameOf k).data.toList), .lit (.int .i64 (Bt.fld (k : Int) : Int))]) := by kernel_rfl
set_option maxRecDepth 100000 in
theorem shape_cells {W : World} {base : Nat} {sp : Nat → Bool} {held : Bool} {n : Nat} {cs : List Value} {x : DataW Unit × List MemPlace} {s : ByteArray} {z : Int} {enc : TypeId × Value → Unit} (hl : cs.length = 2)
    (h : DataW.trod enc Tryd.prog W base sp held n 54 cs = some x) (hx : x.1 = .agg [.lit (.string s.data.toList), .lit (.int .i64 z)]) : cs = [.string s, .int .i64 z] := by
  obtain ⟨xs, m, _, ex, _, hxl, hf⟩ := DataW.trod_struct Tryd.underlying54 h
  match xs, hxl, cs, hl with
  | [y0, y1], _, [v0, v1], _ =>
    have g0 := hf 0 _ rfl
    have g1 := hf 1 _ rfl
    change DataW.trod enc Tryd.prog W base sp held m 9 [v0] = some y0 at g0
    change DataW.trod enc Tryd.prog W base sp held m 3 [v1] = some y1 at g1
    obtain ⟨k, e0, d0, _⟩ := DataW.trod_string Tryd.underlying9 g0
    obtain ⟨a, e1, d1, _⟩ := DataW.trod_int Tryd.underlying3 g1
    injection e0 with e0
    injection e1 with e1
    subst e0 e1
    rw [ex] at hx
    simp only [List.map_cons, List.map_nil, DataW.agg.injEq, List.cons.injEq, and_true] at hx
    obtain ⟨h0, h1⟩ := hx
    rw [d0] at h0
    rw [d1] at h1
    injection h0 with h0
    injection h0 with h0
    injection h1 with h1
    injection h1 with _ h1
    rw [h1, show k = s from WideShapes.bytes_inj (by exact h0)]
set_option maxRecDepth 100000 in
theorem shapes_of_head {W : World} {r : List (String × DataW Unit)} (h : laidMet Tryd.prog (("cattlecreep/batch.shapes", Rows.laid_cattlecreep_batch_shapes) :: r) W) : ShapeTab W := by
  obtain ⟨ps, ⟨g', t', csa, fuel, p, q, hg', ht', hvar, hd, _, _⟩, _⟩ := h
  obtain rfl := Option.some.inj (gShapes.symm.trans hg')
  obtain rfl := Option.some.inj (gShapesType.symm.trans ht')
  rw [shapes_list] at hd
  obtain ⟨cs, hcs⟩ : ∃ cs, cs = csa.toList := ⟨_, rfl⟩
  rw [← hcs] at hd
  obtain ⟨xs, m, _, ex, hcl, hxl, hf⟩ := DataW.trod_array Tryd.underlying55 hd
  rw [cellsShapes] at hcl
  rw [cellsShape] at hf
  have e3 := (DataW.agg.inj (Prod.mk.inj ex).1).symm
  have key : ∀ k, k < 11 → (cs.drop (k * 2)).take 2 = [.string (Bt.nameOf k), .int .i64 (Bt.fld (k : Int) : Int)] := by
    intro k hk
    have hE := hf k hk
    rw [List.getElem?_eq_getElem (by omega)] at hE
    refine shape_cells (by rw [List.length_take, List.length_drop]; omega) hE ?_
    have e4 := congrArg (·[k]?) e3
    simp only [List.getElem?_map] at e4
    rw [List.getElem?_eq_getElem (by omega), List.getElem?_eq_getElem (by rw [List.length_range]; omega)] at e4
    simpa using e4
  have hc : ∀ i, i < 22 → W.cell? ⟨0, i, none⟩ = cs[i]? := by
    intro i hi
    have := World.var?_cell gShapes hvar i
    rw [hcs]
    simpa using this
  have hat : ∀ k, k < 11 → W.cell? ⟨0, k * 2, none⟩ = some (.string (Bt.nameOf k)) ∧ W.cell? ⟨0, k * 2 + 1, none⟩ = some (.int .i64 (Bt.fld (k : Int) : Int)) := by
    intro k hk
    have hk2 := key k hk
    have a0 := congrArg (·[0]?) hk2
    have a1 := congrArg (·[1]?) hk2
    simp only [List.getElem?_take, List.getElem?_drop] at a0 a1
    rw [hc _ (by omega), hc _ (by omega)]
    exact ⟨by simpa using a0, by simpa using a1⟩
  exact ⟨lt_of_cell (hat 0 (by decide)).1, hat⟩

/-- A WORLD FOR THE WITNESS: the settled one, the listed variables holding what their initialisers lay. -/
noncomputable def laidWorld (os : Os) : World :=
  let w0 := World.holding Tryd.prog os ⟨#[.cells #[.string rangeS] 167, .cells #[.string syntaxS] 167], #[], []⟩
  let h1 := w0.heap.modify 5 (put (flat 4 Rows.laid_math_bits_deBruijn32tab))
  let h2 := h1.modify 6 (put (flat 4 Rows.laid_math_bits_deBruijn64tab))
  let h3 := h2.modify 2 (put (flat 4 Rows.laid_internal_strconv_uint64pow10))
  let h4 := h3.modify 8 (put (flat 4 Rows.laid_unicode_utf8_acceptRanges))
  let h5 := h4.modify 4 (put [.iface 165 (.pointer (some ⟨low, 0, none⟩))])
  let h6 := h5.modify 3 (put [.iface 165 (.pointer (some ⟨low + 1, 0, none⟩))])
  let h7 := h6.modify 7 (put (flat 4 Rows.laid_unicode_utf8_first))
  let h8 := h7.modify 0 (put (flat 4 Rows.laid_cattlecreep_batch_shapes))
  { w0 with heap := h8 }
abbrev laid8 : List (String × DataW Unit) := [("math/bits.deBruijn32tab", Rows.laid_math_bits_deBruijn32tab), ("math/bits.deBruijn64tab", Rows.laid_math_bits_deBruijn64tab), ("internal/strconv.uint64pow10", Rows.laid_internal_strconv_uint64pow10), ("unicode/utf8.acceptRanges", Rows.laid_unicode_utf8_acceptRanges), ("strconv.ErrRange", Rows.laid_strconv_ErrRange), ("strconv.ErrSyntax", Rows.laid_strconv_ErrSyntax), ("cattlecreep/batch.shapes", Rows.laid_cattlecreep_batch_shapes), ("unicode/utf8.first", Rows.laid_unicode_utf8_first)]
/-- WHAT THE ROWS' LISTS GIVE. -/
theorem tabs8 {W : World} (h : laidMetH Tryd.prog laid8 W) (hs : W.ShapedOpen Tryd.prog) : ATabs W := by
  rw [MakeChecks.laidMetH_plain _ _ _ (by kernel_rfl)] at h
  exact ⟨⟨pow_of_head h.tail.tail, ⟨err_of_head gSyntax gSyntaxType h.tail.tail.tail.tail.tail, err_of_head gRange gRangeType h.tail.tail.tail.tail⟩, max_of_shaped hs⟩, shapes_of_head h.tail.tail.tail.tail.tail.tail⟩
theorem laid8_met (os : Os) (args : Array Value) : laidMet Tryd.prog laid8 ((laidWorld os).forCall (fun _ _ => 0) ⟨#[], args, []⟩).memory :=
  laidMet_of_run3 300 (by kernel_rfl) (by kernel_rfl) (by kernel_rfl)
end Go.Proofs.YthlagpmacnijfaaDoor
