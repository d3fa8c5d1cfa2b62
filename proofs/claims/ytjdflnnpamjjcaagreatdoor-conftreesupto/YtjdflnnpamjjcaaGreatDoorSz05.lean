/- What the functions that read bytes out of digits hand back. -/
import Derived.Test.YtjdflnnpamjjcaaGreatDoorSz04
import Derived.Shelf.Strings.Repeat
import Derived.Test.YtjdflnnpamjjcaaGreatDoorProg
import Derived.Test.YtjdflnnpamjjcaaGreatDoorBatchBits
import Derived.Test.YtjdflnnpamjjcaaGreatDoorSz02
namespace Go.Proofs.YtjdflnnpamjjcaaGreatDoor
open Go.RowKit

theorem PeersAt.take {w : World} {B n : Nat} {a : Option Addr} {l : List Cf.P} (h : PeersAt w B a n l) {k : Nat} (hk : k ≤ n) : PeersAt w B a k (l.take k) := by
  refine ⟨by rw [List.length_take, h.1]; omega, fun h0 => ?_⟩
  obtain ⟨b, off, e, hb, hc⟩ := h.2 (by omega)
  refine ⟨b, off, e, hb, fun i hi => ?_⟩
  rw [List.length_take] at hi
  rw [List.getElem_take]
  exact hc i (by omega)
set_option maxRecDepth 20000 in
set_option maxHeartbeats 16000000 in
theorem conf_Check (x : Cf.C) (a : Option Addr) (c : Nat) (w : World) (h : PeersAt w w.heap.size a x.ps.length x.ps) (hcap : x.ps.length ≤ c) (hk : x.k.size ≤ 1048576) (hs : ∀ p ∈ x.ps, PeerSmall p) (hb : ∀ p ∈ x.ps, PeerBounds p) (hT : CodeTabs w) :
    Calls Tryz.prog 5 #[confV x a c] w fun e w' => e = .returned (.int .i64 (Cf.err x : Int)) ∧ Below w.heap.size w w' := by
  have E1 := Lib.hid (fun h1 h2 => conf_key (x := x) h1 h2)
  have E2 := Lib.hid (fun h1 h2 => conf_port (x := x) h1 h2)
  have E3 := Lib.hid (fun h1 h2 h3 => conf_many (x := x) h1 h2 h3)
  have E4 := Lib.hid (fun h1 h2 h3 => conf_peers (x := x) h1 h2 h3)
  obtain ⟨R, hR⟩ : ∃ R, R = Cf.err x := ⟨_, rfl⟩
  rw [← hR] at E1 E2 E3 E4 ⊢
  clear hR
  have HK := Lib.hid (fun W => hex_Check x.k W (by unfold maxLen; omega))
  have HP := Lib.hid (fun (p : Cf.P) (hp : p ∈ x.ps) a' c' W (hW : Below w.heap.size w W) (hn : NetsAt W W.heap.size a' p.ns.length p.ns) => conf_Right p a' c' W hn (hs p hp) (hb p hp).1 (hb p hp).2.2.2 (hT.below hW))
  have HNb := Lib.hid (fun p hp => (hb p hp).2.2.2)
  obtain ⟨ck, cp, l⟩ := x
  simp only at h hcap hk hs hb E1 E2 E3 E4 HK HP HNb
  have H := Lib.hid h
  obtain ⟨n, hn⟩ : ∃ n, n = l.length := ⟨_, rfl⟩
  unfold confV
  simp only
  rw [← hn] at H E3 E4 hcap ⊢
  have Hn := Lib.hid hn
  clear h hk hs hb hT hn
  have e1 : Cf.keyErr ck = Hx.checkErr ck.data.toList := rfl
  rw [e1] at E1 E2 E3 E4
  clear e1
  generalize Hx.checkErr ck.data.toList = rk at *
  have se := empty_size ck
  obtain ⟨w1, hw1⟩ : ∃ w1, w1 = w.alloc (.cells #[.string ck, .int .i64 cp, .slice a n c] 24) := ⟨_, rfl⟩
  have HA := Lib.hid (show Below w.heap.size w w1 by rw [hw1]; exact (Below.refl _ _).alloc (Nat.le_refl _) _)
  have HG := Lib.hid (show Blk w1 w.heap.size 24 [.string ck, .int .i64 cp, .slice a n c] by rw [hw1]; exact Blk.new _ _ _)
  have hgl := HG.out.lt
  have g0 := HG.out.cell 0 rfl
  have g1 := HG.out.cell 1 rfl
  have g2 := HG.out.cell 2 rfl
  go_enter Tryz.func5, Tryz.ntmps5
  go_upto_region 1 with fail
  rw [← hw1]
  clear hw1
  by_cases h0 : ck.size = 0
  · rw [decide_eq_true h0] at se
    have Hsk : Hid (ck.size = 0 ∨ rk = 0) := Lib.hid (.inl h0)
    clear h0
    by_cases hv1 : cp < 0
    · have d1 : decide (cp < 0) = true := decide_eq_true hv1
      have Hr := Lib.hid (E2.out Hsk.out (.inl hv1))
      clear hv1
      go_wp2
      go_ret
      exact ⟨by rw [Hr.out]; rfl, HA.out⟩
    have d1 : decide (cp < 0) = false := decide_eq_false hv1
    by_cases hv2 : 65535 < cp
    · have d2 : decide (65535 < cp) = true := decide_eq_true hv2
      have Hr := Lib.hid (E2.out Hsk.out (.inr hv2))
      clear hv1 hv2
      go_wp2
      go_ret
      exact ⟨by rw [Hr.out]; rfl, HA.out⟩
    have d2 : decide (65535 < cp) = false := decide_eq_false hv2
    by_cases hn6 : 6 < n
    · have d3 : (6 : Int) < (n : Int) := by omega
      have Hr := Lib.hid (E3.out Hsk.out (by omega) hn6)
      clear hv1 hv2
      go_wp2
      go_ret
      exact ⟨by rw [Hr.out]; rfl, HA.out⟩
    have d3 : ¬ (6 : Int) < (n : Int) := by omega
    have d4 : decide ((6 : Int) < (n : Int)) = false := decide_eq_false d3
    have Hr0 := Lib.hid (E4.out Hsk.out (by omega) (by omega))
    have hn7 : n ≤ 6 := by omega
    clear hv1 hv2 E1 E2 E3 E4 hn6 Hsk HK
    go_wp2
    go_loopw [31] (fun i wr => ∃ k : Nat, k ≤ n ∧ i = .int .i64 (k : Int) ∧ Hid (R = Cf.pFrom ck l k) ∧ Hid (Below w1.heap.size w1 wr)) (fun i _ => n - (intOf i).toNat)
    case atStart => exact ⟨0, Nat.zero_le _, rfl, Hr0, Lib.hid (Below.refl _ _)⟩
    case round =>
      obtain ⟨k, hk, rfl, Ha, HBr⟩ := hrel
      obtain ⟨wo, hwo⟩ : ∃ wo, wo = wr := ⟨_, rfl⟩
      subst hwo
      have hsz := HBr.out.size
      have HBo := Lib.hid (HA.out.trans (HBr.out.mono HA.out.size))
      by_cases hlt : k < n
      · have hll : k < l.length := by have := Hn.out; omega
        obtain ⟨b, off, rfl, hbl, hc⟩ := (H.out.below HBo.out).2 (by omega)
        obtain ⟨c0, c1, c2, c3, xa, cc, c4, hnets⟩ := hc k hll
        have HP1 := Lib.hid (HP.out (l[k]'hll) (List.getElem_mem hll))
        have hpm := HNb.out (l[k]'hll) (List.getElem_mem hll)
        have F1 := Lib.hid (fun hr => Cf.pFrom_right (key := ck) hll hr)
        have F2 := Lib.hid (fun hr ho => Cf.pFrom_order (key := ck) hll hr ho)
        have F3 := Lib.hid (fun hr ho => Cf.pFrom_has (key := ck) hll hr ho)
        have F5 : Hid (k = 0 → Cf.lastOf l k = ⟨#[]⟩) := Lib.hid (fun h0 => by unfold Cf.lastOf; rw [if_pos h0])
        have F6 : Hid (∀ h0 : 0 < k, wo.cell? ⟨b, off + (k - 1) * 5, none⟩ = some (.string (Cf.lastOf l k))) := Lib.hid (fun h0 => by
          have e := Cf.last_next l (k - 1) (by omega)
          rw [Nat.sub_add_cancel h0] at e
          rw [e]
          exact (hc (k - 1) (by omega)).1)
        have HPt := Lib.hid ((H.out.take (k := k) (Nat.le_of_lt hlt)))
        have HAll := Lib.hid (fun p (hp : p ∈ l.take k) => HNb.out p (List.mem_of_mem_take hp))
        clear hc
        have Hro := Lib.hid (fun hr => Cf.right_keyErr (p := l[k]'hll) hr)
        have HFL := Lib.hid (fun hr => Cf.first_less (Cf.right_keyErr (p := l[k]'hll) hr))
        generalize l[k]'hll = p at *
        generalize hL0 : Cf.lastOf l k = L at *
        generalize l.take k = tk at *
        have Hnt := Lib.hid hnets
        clear hnets
        generalize Cf.right p = rp at *
        obtain ⟨pk, ps, pe, pv, ns⟩ := p
        simp only at c0 c1 c2 c3 c4 F2 F3 HFL hpm Hnt
        unfold peerV at HP1
        simp only at HP1
        obtain ⟨m, hm⟩ : ∃ m, m = ns.length := ⟨_, rfl⟩
        rw [← hm] at c4 HP1 hpm Hnt
        clear hm hL0 Hro
        obtain ⟨w5, hw5⟩ : ∃ w5, w5 = wo.alloc (.cells #[.string pk, .string ps, .string pe, .int .i64 pv, .slice xa m cc] 41) := ⟨_, rfl⟩
        have hA5 : Below wo.heap.size wo w5 := by rw [hw5]; exact (Below.refl _ _).alloc (Nat.le_refl _) _
        have HS5 := Lib.hid (show Blk w5 wo.heap.size 41 [.string pk, .string ps, .string pe, .int .i64 pv, .slice xa m cc] by rw [hw5]; exact Blk.new _ _ _)
        have HBo5 := Lib.hid (HBo.out.trans (hA5.mono HBo.out.size))
        have HA5 := Lib.hid hA5
        have HN5 := Lib.hid ((Hnt.out.below (hA5.mono HBo.out.size)).more (Nat.le_trans HBo.out.size hA5.size))
        obtain ⟨s0, s1, s2, s3, s4⟩ := HS5.out.facts5.1
        have i1 : (k : Int) < (n : Int) := by omega
        clear hA5
        go_upto_region 12 with fail
        rw [← hw5]
        clear hw5 c0 c1 c2 c3 c4
        go_wp2_with fail
        refine (HP1.out xa cc w5 HBo5.out HN5.out).mono ?_
        rintro e w6 ⟨rfl, hb6⟩
        have HA6 := Lib.hid (HA5.out.trans (hb6.mono HA5.out.size))
        have HS6 := Lib.hid (HS5.out.kept hb6)
        have HB6 := Lib.hid (HBr.out.trans (HA6.out.mono hsz))
        have HBo6 := Lib.hid (HBo.out.trans (HA6.out.mono HBo.out.size))
        have hz6 := HS6.out.lt
        clear s0 s1 s2 s3 s4 hb6 HN5 HP1
        obtain ⟨s0, s1, s2, s3, s4⟩ := HS6.out.facts5.1
        have gc0 := (HG.out.kept HB6.out).cell 0 rfl
        have gc2 := (HG.out.kept HB6.out).cell 2 rfl
        by_cases hr : rp = 0
        rotate_left
        · have hnr : ((rp : Int) != 0) = true := by simpa using hr
          have Hr := Lib.hid (Ha.out.trans (F1.out hr))
          clear hr
          go_wp2
          go_ret
          exact ⟨by rw [Hr.out]; rfl, HBo6.out⟩
        have HR := Lib.hid hr
        have HFL2 := Lib.hid (HFL.out hr)
        subst hr
        clear F1 HFL
        rcases text_eq pk ck with hpk | hpq
        · have Hr := Lib.hid (Ha.out.trans (F2.out HR.out (.inr hpk)))
          have hpq : (pk.toList == ck.toList) = true := by rw [hpk]; simp
          clear hpk
          go_wp2_with fail
          go_quiet (fail)
          go_wp2
          go_ret
          exact ⟨by rw [Hr.out]; rfl, below_drewN HBo6.out _⟩
        have Hpn : Hid (pk ≠ ck) := Lib.hid (fun e => by rw [e] at hpq; simp at hpq)
        by_cases hk0 : k = 0
        · have q1 : decide ((0 : Int) < (k : Int)) = false := decide_eq_false (by omega)
          have q0 : ¬ 0 < k := by omega
          have Hnx := Lib.hid (F3.out HR.out (by
            rw [F5.out hk0, HFL2.out]
            rintro (hh | hh)
            · cases hh
            · exact Hpn.out hh))
          clear F2 F3 F6 F5 HFL2 hk0
          go_wp2_with fail
          go_quiet (fail)
          clear q0 q1
          obtain ⟨w7, hw7⟩ : ∃ w7, w7 = w6.drewN nq := ⟨_, rfl⟩
          have HA7 := Lib.hid (show Below w6.heap.size w6 w7 by rw [hw7]; exact below_drewN (Below.refl _ _) _)
          rw [← hw7]
          clear hw7 s0 s1 s2 s3 s4 gc0 gc2
          have HS7 := Lib.hid (HS6.out.kept HA7.out)
          have HB7 := Lib.hid (HB6.out.trans (HA7.out.mono HB6.out.size))
          have HBo7 := Lib.hid (HBo6.out.trans (HA7.out.mono HBo6.out.size))
          have gc2 := (HG.out.kept HB7.out).cell 2 rfl
          have s4 := HS7.out.cell 4 rfl
          have HSS : Hid (∀ W, Below w7.heap.size w7 W → W.cell? ⟨w.heap.size, 2, none⟩ = some (.slice (some ⟨b, off, none⟩) n c) ∧ W.cell? ⟨wo.heap.size, 4, none⟩ = some (.slice xa m cc) ∧ Below w7.heap.size w7 W) :=
            Lib.hid fun W hW => ⟨(HG.out.kept (HB7.out.trans (hW.mono HB7.out.size))).cell 2 rfl, (HS7.out.kept hW).cell 4 rfl, hW⟩
          have HAV : Hid (∀ W, (W.cell? ⟨w.heap.size, 2, none⟩ = some (.slice (some ⟨b, off, none⟩) n c) ∧ W.cell? ⟨wo.heap.size, 4, none⟩ = some (.slice xa m cc) ∧ Below w7.heap.size w7 W) →
              Calls Tryz.prog 16 #[.slice (some ⟨b, off, none⟩) k c, .slice xa m cc] W fun e W' => e = .returned (.bool (Cf.has tk ns)) ∧ (W'.cell? ⟨w.heap.size, 2, none⟩ = some (.slice (some ⟨b, off, none⟩) n c) ∧ W'.cell? ⟨wo.heap.size, 4, none⟩ = some (.slice xa m cc) ∧ Below w7.heap.size w7 W')) :=
            Lib.hid fun W hW => by
              have hWw := HBo7.out.trans (hW.2.2.mono HBo7.out.size)
              have hWo := HA6.out.trans ((HA7.out.trans (hW.2.2.mono HA7.out.size)).mono HA6.out.size)
              exact (conf_haveAny _ xa k c m cc tk ns W ((HPt.out.below hWw).more hWw.size) (by unfold maxLen; omega) ((Hnt.out.below (hWo.mono HBo.out.size)).more (Nat.le_trans HBo.out.size hWo.size)) hpm HAll.out).mono fun e W' ⟨he, hb⟩ => ⟨he, HSS.out W' (hW.2.2.trans (hb.mono hW.2.2.size))⟩
          have hkc : k ≤ c := by omega
          have hkc2 : ((k : Nat) : Int) ≤ (c : Int) := by omega
          have hk00 : (0 : Int) ≤ ((k : Nat) : Int) := by omega
          generalize Cf.has tk ns = hv at *
          cases hv with
          | true =>
            have Hr := Lib.hid (Ha.out.trans (Hnx.out.trans (if_pos rfl)))
            clear Hnx
            go_upto_region 17 with fail
            go_region_held3 (fun W => W.cell? ⟨w.heap.size, 2, none⟩ = some (.slice (some ⟨b, off, none⟩) n c) ∧ W.cell? ⟨wo.heap.size, 4, none⟩ = some (.slice xa m cc) ∧ Below w7.heap.size w7 W) (first | assumption | (exact ⟨gc2, s4, (Below.refl _ _).drew⟩))
              (first | (go_at_call 16; refine (HAV.out _ (by first | assumption | exact ⟨gc2, s4, (Below.refl _ _).drew⟩)).mono ?_; rintro e w9 ⟨rfl, hS9⟩))
            have HB9 := Lib.hid (HBo7.out.trans (hS9.2.2.mono HBo7.out.size))
            clear hS9
            go_wp2
            go_ret
            exact ⟨by rw [Hr.out]; rfl, HB9.out⟩
          | false =>
            have Hr := Lib.hid (Ha.out.trans (Hnx.out.trans (if_neg (fun h => Bool.noConfusion h))))
            clear Hnx
            go_upto_region 17 with fail
            go_region_held3 (fun W => W.cell? ⟨w.heap.size, 2, none⟩ = some (.slice (some ⟨b, off, none⟩) n c) ∧ W.cell? ⟨wo.heap.size, 4, none⟩ = some (.slice xa m cc) ∧ Below w7.heap.size w7 W) (first | assumption | (exact ⟨gc2, s4, (Below.refl _ _).drew⟩))
              (first | (go_at_call 16; refine (HAV.out _ (by first | assumption | exact ⟨gc2, s4, (Below.refl _ _).drew⟩)).mono ?_; rintro e w9 ⟨rfl, hS9⟩))
            have HB9 := Lib.hid (HB7.out.trans (hS9.2.2.mono HB7.out.size))
            clear hS9
            go_wp2
            go_roundw
            case rel => exact ⟨k + 1, by omega, by go_num, Hr, HB9⟩
            case measure => simp [intOf]; omega
        · have q1 : decide ((0 : Int) < (k : Int)) = true := decide_eq_true (by omega)
          have q0 : 0 < k := by omega
          have p0 := cell_below HA6.out (F6.out q0)
          obtain ⟨i, hik⟩ : ∃ i, k - 1 = i := ⟨_, rfl⟩
          rw [hik] at p0
          have i2 : (i : Int) < (n : Int) := by omega
          have i4 : (0 : Int) ≤ (i : Int) := by omega
          have i5 : (i : Int) ≤ 6 := by omega
          have i7 : IntKind.i64.wrap ((k : Int) - 1) = (i : Int) := by rw [IntKind.wrap_i64]; omega
          have i9 : IntKind.i64.wrap (i : Int) = (i : Int) := by rw [IntKind.wrap_i64]; omega
          have i3 : (k : Int) - 1 = (i : Int) := by omega
          clear hik hk0
          rcases key_order pk L with ⟨k1, k3⟩ | ⟨k1, k2, k3⟩ | ⟨k1, k2, k3⟩
          · have Hr := Lib.hid (Ha.out.trans (F2.out HR.out (.inl k3)))
            clear k3
            go_wp2_with fail
            go_quiet (fail)
            go_wp2
            go_ret
            exact ⟨by rw [Hr.out]; rfl, below_drewN HBo6.out _⟩
          · have Hr := Lib.hid (Ha.out.trans (F2.out HR.out (.inl k3)))
            clear k3
            go_wp2_with fail
            go_quiet (fail)
            go_wp2
            go_ret
            exact ⟨by rw [Hr.out]; rfl, below_drewN HBo6.out _⟩
          · have Hnx := Lib.hid (F3.out HR.out (by
              rintro (hh | hh)
              · rw [k3] at hh; cases hh
              · exact Hpn.out hh))
            clear F2 F3 F6 F5 HFL2 k3
            go_wp2_with fail
            go_quiet (fail)
            clear i2 i4 i5 i7 i9 i3 p0 k1 k2 q0 q1
            obtain ⟨w7, hw7⟩ : ∃ w7, w7 = w6.drewN nq := ⟨_, rfl⟩
            have HA7 := Lib.hid (show Below w6.heap.size w6 w7 by rw [hw7]; exact below_drewN (Below.refl _ _) _)
            rw [← hw7]
            clear hw7 s0 s1 s2 s3 s4 gc0 gc2
            have HS7 := Lib.hid (HS6.out.kept HA7.out)
            have HB7 := Lib.hid (HB6.out.trans (HA7.out.mono HB6.out.size))
            have HBo7 := Lib.hid (HBo6.out.trans (HA7.out.mono HBo6.out.size))
            have gc2 := (HG.out.kept HB7.out).cell 2 rfl
            have s4 := HS7.out.cell 4 rfl
            have HSS : Hid (∀ W, Below w7.heap.size w7 W → W.cell? ⟨w.heap.size, 2, none⟩ = some (.slice (some ⟨b, off, none⟩) n c) ∧ W.cell? ⟨wo.heap.size, 4, none⟩ = some (.slice xa m cc) ∧ Below w7.heap.size w7 W) :=
              Lib.hid fun W hW => ⟨(HG.out.kept (HB7.out.trans (hW.mono HB7.out.size))).cell 2 rfl, (HS7.out.kept hW).cell 4 rfl, hW⟩
            have HAV : Hid (∀ W, (W.cell? ⟨w.heap.size, 2, none⟩ = some (.slice (some ⟨b, off, none⟩) n c) ∧ W.cell? ⟨wo.heap.size, 4, none⟩ = some (.slice xa m cc) ∧ Below w7.heap.size w7 W) →
                Calls Tryz.prog 16 #[.slice (some ⟨b, off, none⟩) k c, .slice xa m cc] W fun e W' => e = .returned (.bool (Cf.has tk ns)) ∧ (W'.cell? ⟨w.heap.size, 2, none⟩ = some (.slice (some ⟨b, off, none⟩) n c) ∧ W'.cell? ⟨wo.heap.size, 4, none⟩ = some (.slice xa m cc) ∧ Below w7.heap.size w7 W')) :=
              Lib.hid fun W hW => by
                have hWw := HBo7.out.trans (hW.2.2.mono HBo7.out.size)
                have hWo := HA6.out.trans ((HA7.out.trans (hW.2.2.mono HA7.out.size)).mono HA6.out.size)
                exact (conf_haveAny _ xa k c m cc tk ns W ((HPt.out.below hWw).more hWw.size) (by unfold maxLen; omega) ((Hnt.out.below (hWo.mono HBo.out.size)).more (Nat.le_trans HBo.out.size hWo.size)) hpm HAll.out).mono fun e W' ⟨he, hb⟩ => ⟨he, HSS.out W' (hW.2.2.trans (hb.mono hW.2.2.size))⟩
            have hkc : k ≤ c := by omega
            have hkc2 : ((k : Nat) : Int) ≤ (c : Int) := by omega
            have hk00 : (0 : Int) ≤ ((k : Nat) : Int) := by omega
            generalize Cf.has tk ns = hv at *
            cases hv with
            | true =>
              have Hr := Lib.hid (Ha.out.trans (Hnx.out.trans (if_pos rfl)))
              clear Hnx
              go_upto_region 17 with fail
              go_region_held3 (fun W => W.cell? ⟨w.heap.size, 2, none⟩ = some (.slice (some ⟨b, off, none⟩) n c) ∧ W.cell? ⟨wo.heap.size, 4, none⟩ = some (.slice xa m cc) ∧ Below w7.heap.size w7 W) (first | assumption | (exact ⟨gc2, s4, (Below.refl _ _).drew⟩))
                (first | (go_at_call 16; refine (HAV.out _ (by first | assumption | exact ⟨gc2, s4, (Below.refl _ _).drew⟩)).mono ?_; rintro e w9 ⟨rfl, hS9⟩))
              have HB9 := Lib.hid (HBo7.out.trans (hS9.2.2.mono HBo7.out.size))
              clear hS9
              go_wp2
              go_ret
              exact ⟨by rw [Hr.out]; rfl, HB9.out⟩
            | false =>
              have Hr := Lib.hid (Ha.out.trans (Hnx.out.trans (if_neg (fun h => Bool.noConfusion h))))
              clear Hnx
              go_upto_region 17 with fail
              go_region_held3 (fun W => W.cell? ⟨w.heap.size, 2, none⟩ = some (.slice (some ⟨b, off, none⟩) n c) ∧ W.cell? ⟨wo.heap.size, 4, none⟩ = some (.slice xa m cc) ∧ Below w7.heap.size w7 W) (first | assumption | (exact ⟨gc2, s4, (Below.refl _ _).drew⟩))
                (first | (go_at_call 16; refine (HAV.out _ (by first | assumption | exact ⟨gc2, s4, (Below.refl _ _).drew⟩)).mono ?_; rintro e w9 ⟨rfl, hS9⟩))
              have HB9 := Lib.hid (HB7.out.trans (hS9.2.2.mono HB7.out.size))
              clear hS9
              go_wp2
              go_roundw
              case rel => exact ⟨k + 1, by omega, by go_num, Hr, HB9⟩
              case measure => simp [intOf]; omega
      · obtain rfl : k = n := by omega
        have Hr := Lib.hid (Ha.out.trans (Cf.pFrom_end ck l k (by have := Hn.out; omega)))
        go_wp2
        go_ret
        exact ⟨by rw [Hr.out]; rfl, HBo.out⟩
  · rw [decide_eq_false h0] at se
    by_cases h1 : rk = 0
    · have Hsk : Hid (ck.size = 0 ∨ rk = 0) := Lib.hid (.inr h1)
      rw [h1] at HK
      clear h0 h1
      go_wp2_with fail
      refine (HK.out w1).mono ?_
      rintro e w2 ⟨rfl, rfl⟩
      by_cases hv1 : cp < 0
      · have d1 : decide (cp < 0) = true := decide_eq_true hv1
        have Hr := Lib.hid (E2.out Hsk.out (.inl hv1))
        clear hv1
        go_wp2
        go_ret
        exact ⟨by rw [Hr.out]; rfl, HA.out⟩
      have d1 : decide (cp < 0) = false := decide_eq_false hv1
      by_cases hv2 : 65535 < cp
      · have d2 : decide (65535 < cp) = true := decide_eq_true hv2
        have Hr := Lib.hid (E2.out Hsk.out (.inr hv2))
        clear hv1 hv2
        go_wp2
        go_ret
        exact ⟨by rw [Hr.out]; rfl, HA.out⟩
      have d2 : decide (65535 < cp) = false := decide_eq_false hv2
      by_cases hn6 : 6 < n
      · have d3 : (6 : Int) < (n : Int) := by omega
        have Hr := Lib.hid (E3.out Hsk.out (by omega) hn6)
        clear hv1 hv2
        go_wp2
        go_ret
        exact ⟨by rw [Hr.out]; rfl, HA.out⟩
      have d3 : ¬ (6 : Int) < (n : Int) := by omega
      have d4 : decide ((6 : Int) < (n : Int)) = false := decide_eq_false d3
      have Hr0 := Lib.hid (E4.out Hsk.out (by omega) (by omega))
      have hn7 : n ≤ 6 := by omega
      clear hv1 hv2 E1 E2 E3 E4 hn6 Hsk HK
      go_wp2
      go_loopw [31] (fun i wr => ∃ k : Nat, k ≤ n ∧ i = .int .i64 (k : Int) ∧ Hid (R = Cf.pFrom ck l k) ∧ Hid (Below w1.heap.size w1 wr)) (fun i _ => n - (intOf i).toNat)
      case atStart => exact ⟨0, Nat.zero_le _, rfl, Hr0, Lib.hid (Below.refl _ _)⟩
      case round =>
        obtain ⟨k, hk, rfl, Ha, HBr⟩ := hrel
        obtain ⟨wo, hwo⟩ : ∃ wo, wo = wr := ⟨_, rfl⟩
        subst hwo
        have hsz := HBr.out.size
        have HBo := Lib.hid (HA.out.trans (HBr.out.mono HA.out.size))
        by_cases hlt : k < n
        · have hll : k < l.length := by have := Hn.out; omega
          obtain ⟨b, off, rfl, hbl, hc⟩ := (H.out.below HBo.out).2 (by omega)
          obtain ⟨c0, c1, c2, c3, xa, cc, c4, hnets⟩ := hc k hll
          have HP1 := Lib.hid (HP.out (l[k]'hll) (List.getElem_mem hll))
          have hpm := HNb.out (l[k]'hll) (List.getElem_mem hll)
          have F1 := Lib.hid (fun hr => Cf.pFrom_right (key := ck) hll hr)
          have F2 := Lib.hid (fun hr ho => Cf.pFrom_order (key := ck) hll hr ho)
          have F3 := Lib.hid (fun hr ho => Cf.pFrom_has (key := ck) hll hr ho)
          have F5 : Hid (k = 0 → Cf.lastOf l k = ⟨#[]⟩) := Lib.hid (fun h0 => by unfold Cf.lastOf; rw [if_pos h0])
          have F6 : Hid (∀ h0 : 0 < k, wo.cell? ⟨b, off + (k - 1) * 5, none⟩ = some (.string (Cf.lastOf l k))) := Lib.hid (fun h0 => by
            have e := Cf.last_next l (k - 1) (by omega)
            rw [Nat.sub_add_cancel h0] at e
            rw [e]
            exact (hc (k - 1) (by omega)).1)
          have HPt := Lib.hid ((H.out.take (k := k) (Nat.le_of_lt hlt)))
          have HAll := Lib.hid (fun p (hp : p ∈ l.take k) => HNb.out p (List.mem_of_mem_take hp))
          clear hc
          have Hro := Lib.hid (fun hr => Cf.right_keyErr (p := l[k]'hll) hr)
          have HFL := Lib.hid (fun hr => Cf.first_less (Cf.right_keyErr (p := l[k]'hll) hr))
          generalize l[k]'hll = p at *
          generalize hL0 : Cf.lastOf l k = L at *
          generalize l.take k = tk at *
          have Hnt := Lib.hid hnets
          clear hnets
          generalize Cf.right p = rp at *
          obtain ⟨pk, ps, pe, pv, ns⟩ := p
          simp only at c0 c1 c2 c3 c4 F2 F3 HFL hpm Hnt
          unfold peerV at HP1
          simp only at HP1
          obtain ⟨m, hm⟩ : ∃ m, m = ns.length := ⟨_, rfl⟩
          rw [← hm] at c4 HP1 hpm Hnt
          clear hm hL0 Hro
          obtain ⟨w5, hw5⟩ : ∃ w5, w5 = wo.alloc (.cells #[.string pk, .string ps, .string pe, .int .i64 pv, .slice xa m cc] 41) := ⟨_, rfl⟩
          have hA5 : Below wo.heap.size wo w5 := by rw [hw5]; exact (Below.refl _ _).alloc (Nat.le_refl _) _
          have HS5 := Lib.hid (show Blk w5 wo.heap.size 41 [.string pk, .string ps, .string pe, .int .i64 pv, .slice xa m cc] by rw [hw5]; exact Blk.new _ _ _)
          have HBo5 := Lib.hid (HBo.out.trans (hA5.mono HBo.out.size))
          have HA5 := Lib.hid hA5
          have HN5 := Lib.hid ((Hnt.out.below (hA5.mono HBo.out.size)).more (Nat.le_trans HBo.out.size hA5.size))
          obtain ⟨s0, s1, s2, s3, s4⟩ := HS5.out.facts5.1
          have i1 : (k : Int) < (n : Int) := by omega
          clear hA5
          go_upto_region 12 with fail
          rw [← hw5]
          clear hw5 c0 c1 c2 c3 c4
          go_wp2_with fail
          refine (HP1.out xa cc w5 HBo5.out HN5.out).mono ?_
          rintro e w6 ⟨rfl, hb6⟩
          have HA6 := Lib.hid (HA5.out.trans (hb6.mono HA5.out.size))
          have HS6 := Lib.hid (HS5.out.kept hb6)
          have HB6 := Lib.hid (HBr.out.trans (HA6.out.mono hsz))
          have HBo6 := Lib.hid (HBo.out.trans (HA6.out.mono HBo.out.size))
          have hz6 := HS6.out.lt
          clear s0 s1 s2 s3 s4 hb6 HN5 HP1
          obtain ⟨s0, s1, s2, s3, s4⟩ := HS6.out.facts5.1
          have gc0 := (HG.out.kept HB6.out).cell 0 rfl
          have gc2 := (HG.out.kept HB6.out).cell 2 rfl
          by_cases hr : rp = 0
          rotate_left
          · have hnr : ((rp : Int) != 0) = true := by simpa using hr
            have Hr := Lib.hid (Ha.out.trans (F1.out hr))
            clear hr
            go_wp2
            go_ret
            exact ⟨by rw [Hr.out]; rfl, HBo6.out⟩
          have HR := Lib.hid hr
          have HFL2 := Lib.hid (HFL.out hr)
          subst hr
          clear F1 HFL
          rcases text_eq pk ck with hpk | hpq
          · have Hr := Lib.hid (Ha.out.trans (F2.out HR.out (.inr hpk)))
            have hpq : (pk.toList == ck.toList) = true := by rw [hpk]; simp
            clear hpk
            go_wp2_with fail
            go_quiet (fail)
            go_wp2
            go_ret
            exact ⟨by rw [Hr.out]; rfl, below_drewN HBo6.out _⟩
          have Hpn : Hid (pk ≠ ck) := Lib.hid (fun e => by rw [e] at hpq; simp at hpq)
          by_cases hk0 : k = 0
          · have q1 : decide ((0 : Int) < (k : Int)) = false := decide_eq_false (by omega)
            have q0 : ¬ 0 < k := by omega
            have Hnx := Lib.hid (F3.out HR.out (by
              rw [F5.out hk0, HFL2.out]
              rintro (hh | hh)
              · cases hh
              · exact Hpn.out hh))
            clear F2 F3 F6 F5 HFL2 hk0
            go_wp2_with fail
            go_quiet (fail)
            clear q0 q1
            obtain ⟨w7, hw7⟩ : ∃ w7, w7 = w6.drewN nq := ⟨_, rfl⟩
            have HA7 := Lib.hid (show Below w6.heap.size w6 w7 by rw [hw7]; exact below_drewN (Below.refl _ _) _)
            rw [← hw7]
            clear hw7 s0 s1 s2 s3 s4 gc0 gc2
            have HS7 := Lib.hid (HS6.out.kept HA7.out)
            have HB7 := Lib.hid (HB6.out.trans (HA7.out.mono HB6.out.size))
            have HBo7 := Lib.hid (HBo6.out.trans (HA7.out.mono HBo6.out.size))
            have gc2 := (HG.out.kept HB7.out).cell 2 rfl
            have s4 := HS7.out.cell 4 rfl
            have HSS : Hid (∀ W, Below w7.heap.size w7 W → W.cell? ⟨w.heap.size, 2, none⟩ = some (.slice (some ⟨b, off, none⟩) n c) ∧ W.cell? ⟨wo.heap.size, 4, none⟩ = some (.slice xa m cc) ∧ Below w7.heap.size w7 W) :=
              Lib.hid fun W hW => ⟨(HG.out.kept (HB7.out.trans (hW.mono HB7.out.size))).cell 2 rfl, (HS7.out.kept hW).cell 4 rfl, hW⟩
            have HAV : Hid (∀ W, (W.cell? ⟨w.heap.size, 2, none⟩ = some (.slice (some ⟨b, off, none⟩) n c) ∧ W.cell? ⟨wo.heap.size, 4, none⟩ = some (.slice xa m cc) ∧ Below w7.heap.size w7 W) →
                Calls Tryz.prog 16 #[.slice (some ⟨b, off, none⟩) k c, .slice xa m cc] W fun e W' => e = .returned (.bool (Cf.has tk ns)) ∧ (W'.cell? ⟨w.heap.size, 2, none⟩ = some (.slice (some ⟨b, off, none⟩) n c) ∧ W'.cell? ⟨wo.heap.size, 4, none⟩ = some (.slice xa m cc) ∧ Below w7.heap.size w7 W')) :=
              Lib.hid fun W hW => by
                have hWw := HBo7.out.trans (hW.2.2.mono HBo7.out.size)
                have hWo := HA6.out.trans ((HA7.out.trans (hW.2.2.mono HA7.out.size)).mono HA6.out.size)
                exact (conf_haveAny _ xa k c m cc tk ns W ((HPt.out.below hWw).more hWw.size) (by unfold maxLen; omega) ((Hnt.out.below (hWo.mono HBo.out.size)).more (Nat.le_trans HBo.out.size hWo.size)) hpm HAll.out).mono fun e W' ⟨he, hb⟩ => ⟨he, HSS.out W' (hW.2.2.trans (hb.mono hW.2.2.size))⟩
            have hkc : k ≤ c := by omega
            have hkc2 : ((k : Nat) : Int) ≤ (c : Int) := by omega
            have hk00 : (0 : Int) ≤ ((k : Nat) : Int) := by omega
            generalize Cf.has tk ns = hv at *
            cases hv with
            | true =>
              have Hr := Lib.hid (Ha.out.trans (Hnx.out.trans (if_pos rfl)))
              clear Hnx
              go_upto_region 17 with fail
              go_region_held3 (fun W => W.cell? ⟨w.heap.size, 2, none⟩ = some (.slice (some ⟨b, off, none⟩) n c) ∧ W.cell? ⟨wo.heap.size, 4, none⟩ = some (.slice xa m cc) ∧ Below w7.heap.size w7 W) (first | assumption | (exact ⟨gc2, s4, (Below.refl _ _).drew⟩))
                (first | (go_at_call 16; refine (HAV.out _ (by first | assumption | exact ⟨gc2, s4, (Below.refl _ _).drew⟩)).mono ?_; rintro e w9 ⟨rfl, hS9⟩))
              have HB9 := Lib.hid (HBo7.out.trans (hS9.2.2.mono HBo7.out.size))
              clear hS9
              go_wp2
              go_ret
              exact ⟨by rw [Hr.out]; rfl, HB9.out⟩
            | false =>
              have Hr := Lib.hid (Ha.out.trans (Hnx.out.trans (if_neg (fun h => Bool.noConfusion h))))
              clear Hnx
              go_upto_region 17 with fail
              go_region_held3 (fun W => W.cell? ⟨w.heap.size, 2, none⟩ = some (.slice (some ⟨b, off, none⟩) n c) ∧ W.cell? ⟨wo.heap.size, 4, none⟩ = some (.slice xa m cc) ∧ Below w7.heap.size w7 W) (first | assumption | (exact ⟨gc2, s4, (Below.refl _ _).drew⟩))
                (first | (go_at_call 16; refine (HAV.out _ (by first | assumption | exact ⟨gc2, s4, (Below.refl _ _).drew⟩)).mono ?_; rintro e w9 ⟨rfl, hS9⟩))
              have HB9 := Lib.hid (HB7.out.trans (hS9.2.2.mono HB7.out.size))
              clear hS9
              go_wp2
              go_roundw
              case rel => exact ⟨k + 1, by omega, by go_num, Hr, HB9⟩
              case measure => simp [intOf]; omega
          · have q1 : decide ((0 : Int) < (k : Int)) = true := decide_eq_true (by omega)
            have q0 : 0 < k := by omega
            have p0 := cell_below HA6.out (F6.out q0)
            obtain ⟨i, hik⟩ : ∃ i, k - 1 = i := ⟨_, rfl⟩
            rw [hik] at p0
            have i2 : (i : Int) < (n : Int) := by omega
            have i4 : (0 : Int) ≤ (i : Int) := by omega
            have i5 : (i : Int) ≤ 6 := by omega
            have i7 : IntKind.i64.wrap ((k : Int) - 1) = (i : Int) := by rw [IntKind.wrap_i64]; omega
            have i9 : IntKind.i64.wrap (i : Int) = (i : Int) := by rw [IntKind.wrap_i64]; omega
            have i3 : (k : Int) - 1 = (i : Int) := by omega
            clear hik hk0
            rcases key_order pk L with ⟨k1, k3⟩ | ⟨k1, k2, k3⟩ | ⟨k1, k2, k3⟩
            · have Hr := Lib.hid (Ha.out.trans (F2.out HR.out (.inl k3)))
              clear k3
              go_wp2_with fail
              go_quiet (fail)
              go_wp2
              go_ret
              exact ⟨by rw [Hr.out]; rfl, below_drewN HBo6.out _⟩
            · have Hr := Lib.hid (Ha.out.trans (F2.out HR.out (.inl k3)))
              clear k3
              go_wp2_with fail
              go_quiet (fail)
              go_wp2
              go_ret
              exact ⟨by rw [Hr.out]; rfl, below_drewN HBo6.out _⟩
            · have Hnx := Lib.hid (F3.out HR.out (by
                rintro (hh | hh)
                · rw [k3] at hh; cases hh
                · exact Hpn.out hh))
              clear F2 F3 F6 F5 HFL2 k3
              go_wp2_with fail
              go_quiet (fail)
              clear i2 i4 i5 i7 i9 i3 p0 k1 k2 q0 q1
              obtain ⟨w7, hw7⟩ : ∃ w7, w7 = w6.drewN nq := ⟨_, rfl⟩
              have HA7 := Lib.hid (show Below w6.heap.size w6 w7 by rw [hw7]; exact below_drewN (Below.refl _ _) _)
              rw [← hw7]
              clear hw7 s0 s1 s2 s3 s4 gc0 gc2
              have HS7 := Lib.hid (HS6.out.kept HA7.out)
              have HB7 := Lib.hid (HB6.out.trans (HA7.out.mono HB6.out.size))
              have HBo7 := Lib.hid (HBo6.out.trans (HA7.out.mono HBo6.out.size))
              have gc2 := (HG.out.kept HB7.out).cell 2 rfl
              have s4 := HS7.out.cell 4 rfl
              have HSS : Hid (∀ W, Below w7.heap.size w7 W → W.cell? ⟨w.heap.size, 2, none⟩ = some (.slice (some ⟨b, off, none⟩) n c) ∧ W.cell? ⟨wo.heap.size, 4, none⟩ = some (.slice xa m cc) ∧ Below w7.heap.size w7 W) :=
                Lib.hid fun W hW => ⟨(HG.out.kept (HB7.out.trans (hW.mono HB7.out.size))).cell 2 rfl, (HS7.out.kept hW).cell 4 rfl, hW⟩
              have HAV : Hid (∀ W, (W.cell? ⟨w.heap.size, 2, none⟩ = some (.slice (some ⟨b, off, none⟩) n c) ∧ W.cell? ⟨wo.heap.size, 4, none⟩ = some (.slice xa m cc) ∧ Below w7.heap.size w7 W) →
                  Calls Tryz.prog 16 #[.slice (some ⟨b, off, none⟩) k c, .slice xa m cc] W fun e W' => e = .returned (.bool (Cf.has tk ns)) ∧ (W'.cell? ⟨w.heap.size, 2, none⟩ = some (.slice (some ⟨b, off, none⟩) n c) ∧ W'.cell? ⟨wo.heap.size, 4, none⟩ = some (.slice xa m cc) ∧ Below w7.heap.size w7 W')) :=
                Lib.hid fun W hW => by
                  have hWw := HBo7.out.trans (hW.2.2.mono HBo7.out.size)
                  have hWo := HA6.out.trans ((HA7.out.trans (hW.2.2.mono HA7.out.size)).mono HA6.out.size)
                  exact (conf_haveAny _ xa k c m cc tk ns W ((HPt.out.below hWw).more hWw.size) (by unfold maxLen; omega) ((Hnt.out.below (hWo.mono HBo.out.size)).more (Nat.le_trans HBo.out.size hWo.size)) hpm HAll.out).mono fun e W' ⟨he, hb⟩ => ⟨he, HSS.out W' (hW.2.2.trans (hb.mono hW.2.2.size))⟩
              have hkc : k ≤ c := by omega
              have hkc2 : ((k : Nat) : Int) ≤ (c : Int) := by omega
              have hk00 : (0 : Int) ≤ ((k : Nat) : Int) := by omega
              generalize Cf.has tk ns = hv at *
              cases hv with
              | true =>
                have Hr := Lib.hid (Ha.out.trans (Hnx.out.trans (if_pos rfl)))
                clear Hnx
                go_upto_region 17 with fail
                go_region_held3 (fun W => W.cell? ⟨w.heap.size, 2, none⟩ = some (.slice (some ⟨b, off, none⟩) n c) ∧ W.cell? ⟨wo.heap.size, 4, none⟩ = some (.slice xa m cc) ∧ Below w7.heap.size w7 W) (first | assumption | (exact ⟨gc2, s4, (Below.refl _ _).drew⟩))
                  (first | (go_at_call 16; refine (HAV.out _ (by first | assumption | exact ⟨gc2, s4, (Below.refl _ _).drew⟩)).mono ?_; rintro e w9 ⟨rfl, hS9⟩))
                have HB9 := Lib.hid (HBo7.out.trans (hS9.2.2.mono HBo7.out.size))
                clear hS9
                go_wp2
                go_ret
                exact ⟨by rw [Hr.out]; rfl, HB9.out⟩
              | false =>
                have Hr := Lib.hid (Ha.out.trans (Hnx.out.trans (if_neg (fun h => Bool.noConfusion h))))
                clear Hnx
                go_upto_region 17 with fail
                go_region_held3 (fun W => W.cell? ⟨w.heap.size, 2, none⟩ = some (.slice (some ⟨b, off, none⟩) n c) ∧ W.cell? ⟨wo.heap.size, 4, none⟩ = some (.slice xa m cc) ∧ Below w7.heap.size w7 W) (first | assumption | (exact ⟨gc2, s4, (Below.refl _ _).drew⟩))
                  (first | (go_at_call 16; refine (HAV.out _ (by first | assumption | exact ⟨gc2, s4, (Below.refl _ _).drew⟩)).mono ?_; rintro e w9 ⟨rfl, hS9⟩))
                have HB9 := Lib.hid (HB7.out.trans (hS9.2.2.mono HB7.out.size))
                clear hS9
                go_wp2
                go_roundw
                case rel => exact ⟨k + 1, by omega, by go_num, Hr, HB9⟩
                case measure => simp [intOf]; omega
        · obtain rfl : k = n := by omega
          have Hr := Lib.hid (Ha.out.trans (Cf.pFrom_end ck l k (by have := Hn.out; omega)))
          go_wp2
          go_ret
          exact ⟨by rw [Hr.out]; rfl, HBo.out⟩
    · have hn1 : ((rk : Int) != 0) = true := by simpa using h1
      have Hr := Lib.hid (E1.out h0 h1)
      clear h0 h1
      go_wp2_with fail
      refine (HK.out w1).mono ?_
      rintro e w2 ⟨rfl, rfl⟩
      go_wp2
      go_ret
      exact ⟨by rw [Hr.out]; rfl, HA.out⟩
end Go.Proofs.YtjdflnnpamjjcaaGreatDoor

namespace Go.Proofs
open Go.Shelf
def Tryz.lays105_ren : Go.Shelf.Ren := ⟨fun | 105 => 48 | 212 => 69 | 99 => 70 | 165 => 71 | 166 => 72 | 170 => 73 | 169 => 74 | 263 => 91 | 264 => 92 | 206 => 93 | 240 => 94 | 241 => 95 | 276 => 106 | 277 => 107 | n => n, fun | 9 => 9 | 3 => 3 | 4 => 4 | 20 => 20 | 0 => 0 | 46 => 96 | 109 => 97 | 5 => 5 | 72 => 102 | 76 => 106 | 51 => 45 | 146 => 119 | 53 => 121 | 148 => 122 | 70 => 100 | 37 => 58 | 75 => 105 | 127 => 124 | 164 => 130 | 80 => 61 | n => n, fun | n => n⟩
theorem Tryz.lays105 : Go.Proofs.Lays.n105 Tryz.prog Tryz.lays105_ren := {
  mixed := by kernel_rfl
  f99 := Tryz.func70.trans (congrArg some (by kernel_rfl))
  f105 := Tryz.func48.trans (congrArg some (by kernel_rfl))
  f165 := Tryz.func71.trans (congrArg some (by kernel_rfl))
  f166 := Tryz.func72.trans (congrArg some (by kernel_rfl))
  f169 := Tryz.func74.trans (congrArg some (by kernel_rfl))
  f170 := Tryz.func73.trans (congrArg some (by kernel_rfl))
  f206 := Tryz.func93.trans (congrArg some (by kernel_rfl))
  f212 := Tryz.func69.trans (congrArg some (by kernel_rfl))
  f240 := Tryz.func94.trans (congrArg some (by kernel_rfl))
  f241 := Tryz.func95.trans (congrArg some (by kernel_rfl))
  f263 := Tryz.func91.trans (congrArg some (by kernel_rfl))
  f264 := Tryz.func92.trans (congrArg some (by kernel_rfl))
  f276 := Tryz.func106.trans (congrArg some (by kernel_rfl))
  f277 := Tryz.func107.trans (congrArg some (by kernel_rfl))
  t0 := Tryz.underlying0
  a0 := Tryz.isAgg0
  z0 := Tryz.sizeOf0
  v0 := Tryz.zeroValue0
  t3 := Tryz.underlying3
  a3 := Tryz.isAgg3
  z3 := Tryz.sizeOf3
  v3 := Tryz.zeroValue3
  t4 := Tryz.underlying4
  a4 := Tryz.isAgg4
  z4 := Tryz.sizeOf4
  v4 := Tryz.zeroValue4
  t5 := Tryz.underlying5
  a5 := Tryz.isAgg5
  z5 := Tryz.sizeOf5
  v5 := Tryz.zeroValue5
  t9 := Tryz.underlying9
  a9 := Tryz.isAgg9
  z9 := Tryz.sizeOf9
  v9 := Tryz.zeroValue9
  t20 := Tryz.underlying20
  a20 := Tryz.isAgg20
  z20 := Tryz.sizeOf20
  v20 := Tryz.zeroValue20
  t37 := Tryz.underlying58
  a37 := Tryz.isAgg58
  z37 := Tryz.sizeOf58
  v37 := Tryz.zeroValue58
  t46 := Tryz.underlying96
  a46 := Tryz.isAgg96
  z46 := Tryz.sizeOf96
  v46 := Tryz.zeroValue96
  t51 := Tryz.underlying45
  a51 := Tryz.isAgg45
  z51 := Tryz.sizeOf45
  v51 := Tryz.zeroValue45
  t53 := Tryz.underlying121
  a53 := Tryz.isAgg121
  z53 := Tryz.sizeOf121
  v53 := Tryz.zeroValue121
  t70 := Tryz.underlying100
  a70 := Tryz.isAgg100
  z70 := Tryz.sizeOf100
  v70 := Tryz.zeroValue100
  t72 := Tryz.underlying102
  a72 := Tryz.isAgg102
  z72 := Tryz.sizeOf102
  v72 := Tryz.zeroValue102
  t75 := Tryz.underlying105
  a75 := Tryz.isAgg105
  z75 := Tryz.sizeOf105
  v75 := Tryz.zeroValue105
  t76 := Tryz.underlying106
  a76 := Tryz.isAgg106
  z76 := Tryz.sizeOf106
  v76 := Tryz.zeroValue106
  t109 := Tryz.underlying97
  a109 := Tryz.isAgg97
  z109 := Tryz.sizeOf97
  v109 := Tryz.zeroValue97
  t127 := Tryz.underlying124
  a127 := Tryz.isAgg124
  z127 := Tryz.sizeOf124
  v127 := Tryz.zeroValue124
  t146 := Tryz.underlying119
  a146 := Tryz.isAgg119
  z146 := Tryz.sizeOf119
  v146 := Tryz.zeroValue119
  t148 := Tryz.underlying122
  a148 := Tryz.isAgg122
  z148 := Tryz.sizeOf122
  v148 := Tryz.zeroValue122
  t164 := Tryz.underlying130
  a164 := Tryz.isAgg130
  z164 := Tryz.sizeOf130
  v164 := Tryz.zeroValue130 }
theorem Tryz.Builder_Extra_105 : Builder.Extra Tryz.prog Tryz.lays105_ren := {
  sizeBuilder := by kernel_rfl
  liesBuilder := by kernel_rfl
  t5 := Tryz.underlying5
  a5 := Tryz.isAgg5
  z5 := Tryz.sizeOf5
  v5 := Tryz.zeroValue5
  infoByte := by kernel_rfl
  cellsByte := by kernel_rfl
  sizeByte := by kernel_rfl
  neB5 := by decide }
open Go.RowKit Go.Lib in
theorem Tryz.strings_Repeat (s : ByteArray) (c : Nat) (w : World) (hc : c ≤ 9223372036854775807) (hlen : s.size * c ≤ 140737488355328) :
    Calls Tryz.prog 48 #[.string s, .int .i64 c] w fun e w' => e = .returned (.string ⟨(Lib.repeatL s.data.toList c).toArray⟩) ∧ Below w.heap.size w w' := Any.strings_Repeat Tryz.lays105 Tryz.Builder_Extra_105 s c w hc hlen
end Go.Proofs

namespace Go.Proofs.YtjdflnnpamjjcaaGreatDoor
open Go.RowKit

theorem ref_zeros (w : World) : Calls Tryz.prog 31 #[] w fun e w' => e = .returned (.string Bt.zeros) ∧ Below w.heap.size w w' := by
  have H := Lib.hid (Tryz.strings_Repeat ⟨#[48]⟩ 64 w (by decide) (by decide))
  go_enter Tryz.func31, Tryz.ntmps31
  go_wp2_with fail
  refine H.out.mono ?_
  rintro e w1 ⟨rfl, hb⟩
  go_wp2
  go_ret
  exact ⟨rfl, hb⟩
end Go.Proofs.YtjdflnnpamjjcaaGreatDoor

namespace Go.Proofs.YtjdflnnpamjjcaaGreatDoor
open Go.RowKit

def BytesPost (s : ByteArray) (w : World) (e : Ending) (w' : World) : Prop :=
  ∃ a n c, e = .returned (.tuple #[.slice a n c, .int .i64 (Hx.bytesErr s.data.toList : Int)]) ∧
    w'.ownsRow w.heap.size 5 1 (.slice a n c) (Hx.bytes s.data.toList).length (bcells (Hx.bytes s.data.toList)) ∧ Below w.heap.size w w'

theorem allD_berr (s : ByteArray) : Hx.bytesErr s.data.toList = if 2000 < s.size then 1 else if s.size % 2 = 1 ∨ allD s = false then 3 else 0 := by
  simp [Hx.bytesErr, allD]
theorem bytesPost_err {s : ByteArray} {w wr : World} {r : Nat} (h : Hx.bytesErr s.data.toList = r) (h0 : r ≠ 0) (hb : Below w.heap.size w wr) : BytesPost s w (.returned (.tuple #[.slice none 0 0, .int .i64 (r : Int)])) wr := by
  refine ⟨none, 0, 0, by rw [h], ?_, hb⟩
  rw [Hx.bytes_err _ (by rw [h]; exact h0)]
  exact World.ownsRow_nil _ _ _ _
end Go.Proofs.YtjdflnnpamjjcaaGreatDoor
