/- What the listed variables of Go's library give where a law reads texts alone (two tables of unicode/utf8 and bytealg's limit), and a world for the witness. -/
import Derived.Test.YtjdflnnpamjjcaaDoorSF03
import Derived.Test.YtjdflnnpamjjcaaDoorSF04
import Derived.Test.YtjdflnnpamjjcaaDoorSF15
import Derived.Test.YtjdflnnpamjjcaaDoorSF07
import Derived.Test.YtjdflnnpamjjcaaDoorCards
import Derived.Test.YtjdflnnpamjjcaaDoorTie
import Derived.Test.YtjdflnnpamjjcaaDoorLibText
import Derived.Deep.DeepHandedRow
import Derived.Deep.DeepLaidRun
import Derived.Lib.LaidTab
import Derived.MakeChecks
import Derived.Stop.LaidErr
namespace Go.Proofs.YtjdflnnpamjjcaaDoor
open Go.RowKit

theorem PeersAt.take {w : World} {B n : Nat} {a : Option Addr} {l : List Cf.P} (h : PeersAt w B a n l) {k : Nat} (hk : k ≤ n) : PeersAt w B a k (l.take k) := by
  refine ⟨by rw [List.length_take, h.1]; omega, fun h0 => ?_⟩
  obtain ⟨b, off, e, hb, hc⟩ := h.2 (by omega)
  refine ⟨b, off, e, hb, fun i hi => ?_⟩
  rw [List.length_take] at hi
  rw [List.getElem_take]
  exact hc i (by omega)
set_option maxRecDepth 20000 in
set_option maxHeartbeats 16000000 in
theorem conf_Check0 (x : Cf.C) (a : Option Addr) (c : Nat) (w : World) (h : PeersAt w w.heap.size a x.ps.length x.ps) (hcap : x.ps.length ≤ c) (hk : x.k.size ≤ 1048576) (hs : ∀ p ∈ x.ps, PeerSmall p) (hb : ∀ p ∈ x.ps, PeerBounds p) (hT : MaxTab w) :
    Calls Tryd.prog 9 #[confV x a c] w fun e w' => e = .returned (.int .i64 (Cf.err x : Int)) ∧ Below w.heap.size w w' := by
  have E1 := Lib.hid (fun h1 h2 => conf_key (x := x) h1 h2)
  have E2 := Lib.hid (fun h1 h2 => conf_port (x := x) h1 h2)
  have E3 := Lib.hid (fun h1 h2 h3 => conf_many (x := x) h1 h2 h3)
  have E4 := Lib.hid (fun h1 h2 h3 => conf_peers (x := x) h1 h2 h3)
  obtain ⟨R, hR⟩ : ∃ R, R = Cf.err x := ⟨_, rfl⟩
  rw [← hR] at E1 E2 E3 E4 ⊢
  clear hR
  have HK := Lib.hid (fun W => hex_Check x.k W (by unfold maxLen; omega))
  have HP := Lib.hid (fun (p : Cf.P) (hp : p ∈ x.ps) a' c' W (hW : Below w.heap.size w W) (hn : NetsAt W W.heap.size a' p.ns.length p.ns) => conf_Right0 p a' c' W hn (hs p hp) (hb p hp).1 (hb p hp).2.2.2 (hT.below hW))
  have HNb := Lib.hid (fun p hp => (hb p hp).2.2.2)
  obtain ⟨ck, cp, l⟩ := x
  simp only at h hcap hk hs hb E1 E2 E3 E4 HK HP HNb
  have H := Lib.hid h
  obtain ⟨n, hn⟩ : ∃ n, n = l.length := ⟨_, rfl⟩
  unfold confV
  simp only
  rw [← hn] at H E3 E4 hcap ⊢
  have Hn := Lib.hid hn
  clear h hk hs hb hT hn
  have e1 : Cf.keyErr ck = Hx.checkErr ck.data.toList := rfl
  rw [e1] at E1 E2 E3 E4
  clear e1
  generalize Hx.checkErr ck.data.toList = rk at *
  have se := empty_size ck
  obtain ⟨w1, hw1⟩ : ∃ w1, w1 = w.alloc (.cells #[.string ck, .int .i64 cp, .slice a n c] 31) := ⟨_, rfl⟩
  have HA := Lib.hid (show Below w.heap.size w w1 by rw [hw1]; exact (Below.refl _ _).alloc (Nat.le_refl _) _)
  have HG := Lib.hid (show Blk w1 w.heap.size 31 [.string ck, .int .i64 cp, .slice a n c] by rw [hw1]; exact Blk.new _ _ _)
  have hgl := HG.out.lt
  have g0 := HG.out.cell 0 rfl
  have g1 := HG.out.cell 1 rfl
  have g2 := HG.out.cell 2 rfl
  go_enter Tryd.func9, Tryd.ntmps9
  go_upto_region 1 with fail
  rw [← hw1]
  clear hw1
  by_cases h0 : ck.size = 0
  · rw [decide_eq_true h0] at se
    have Hsk : Hid (ck.size = 0 ∨ rk = 0) := Lib.hid (.inl h0)
    clear h0
    by_cases hv1 : cp < 0
    · have d1 : decide (cp < 0) = true := decide_eq_true hv1
      have Hr := Lib.hid (E2.out Hsk.out (.inl hv1))
      clear hv1
      go_wp2
      go_ret
      exact ⟨by rw [Hr.out]; rfl, HA.out⟩
    have d1 : decide (cp < 0) = false := decide_eq_false hv1
    by_cases hv2 : 65535 < cp
    · have d2 : decide (65535 < cp) = true := decide_eq_true hv2
      have Hr := Lib.hid (E2.out Hsk.out (.inr hv2))
      clear hv1 hv2
      go_wp2
      go_ret
      exact ⟨by rw [Hr.out]; rfl, HA.out⟩
    have d2 : decide (65535 < cp) = false := decide_eq_false hv2
    by_cases hn6 : 6 < n
    · have d3 : (6 : Int) < (n : Int) := by omega
      have Hr := Lib.hid (E3.out Hsk.out (by omega) hn6)
      clear hv1 hv2
      go_wp2
      go_ret
      exact ⟨by rw [Hr.out]; rfl, HA.out⟩
    have d3 : ¬ (6 : Int) < (n : Int) := by omega
    have d4 : decide ((6 : Int) < (n : Int)) = false := decide_eq_false d3
    have Hr0 := Lib.hid (E4.out Hsk.out (by omega) (by omega))
    have hn7 : n ≤ 6 := by omega
    clear hv1 hv2 E1 E2 E3 E4 hn6 Hsk HK
    go_wp2
    go_loopw [31] (fun i wr => ∃ k : Nat, k ≤ n ∧ i = .int .i64 (k : Int) ∧ Hid (R = Cf.pFrom ck l k) ∧ Hid (Below w1.heap.size w1 wr)) (fun i _ => n - (intOf i).toNat)
    case atStart => exact ⟨0, Nat.zero_le _, rfl, Hr0, Lib.hid (Below.refl _ _)⟩
    case round =>
      obtain ⟨k, hk, rfl, Ha, HBr⟩ := hrel
      obtain ⟨wo, hwo⟩ : ∃ wo, wo = wr := ⟨_, rfl⟩
      subst hwo
      have hsz := HBr.out.size
      have HBo := Lib.hid (HA.out.trans (HBr.out.mono HA.out.size))
      by_cases hlt : k < n
      · have hll : k < l.length := by have := Hn.out; omega
        obtain ⟨b, off, rfl, hbl, hc⟩ := (H.out.below HBo.out).2 (by omega)
        obtain ⟨c0, c1, c2, c3, xa, cc, c4, hnets⟩ := hc k hll
        have HP1 := Lib.hid (HP.out (l[k]'hll) (List.getElem_mem hll))
        have hpm := HNb.out (l[k]'hll) (List.getElem_mem hll)
        have F1 := Lib.hid (fun hr => Cf.pFrom_right (key := ck) hll hr)
        have F2 := Lib.hid (fun hr ho => Cf.pFrom_order (key := ck) hll hr ho)
        have F3 := Lib.hid (fun hr ho => Cf.pFrom_has (key := ck) hll hr ho)
        have F5 : Hid (k = 0 → Cf.lastOf l k = ⟨#[]⟩) := Lib.hid (fun h0 => by unfold Cf.lastOf; rw [if_pos h0])
        have F6 : Hid (∀ h0 : 0 < k, wo.cell? ⟨b, off + (k - 1) * 5, none⟩ = some (.string (Cf.lastOf l k))) := Lib.hid (fun h0 => by
          have e := Cf.last_next l (k - 1) (by omega)
          rw [Nat.sub_add_cancel h0] at e
          rw [e]
          exact (hc (k - 1) (by omega)).1)
        have HPt := Lib.hid ((H.out.take (k := k) (Nat.le_of_lt hlt)))
        have HAll := Lib.hid (fun p (hp : p ∈ l.take k) => HNb.out p (List.mem_of_mem_take hp))
        clear hc
        have Hro := Lib.hid (fun hr => Cf.right_keyErr (p := l[k]'hll) hr)
        have HFL := Lib.hid (fun hr => Cf.first_less (Cf.right_keyErr (p := l[k]'hll) hr))
        generalize l[k]'hll = p at *
        generalize hL0 : Cf.lastOf l k = L at *
        generalize l.take k = tk at *
        have Hnt := Lib.hid hnets
        clear hnets
        generalize Cf.right p = rp at *
        obtain ⟨pk, ps, pe, pv, ns⟩ := p
        simp only at c0 c1 c2 c3 c4 F2 F3 HFL hpm Hnt
        unfold peerV at HP1
        simp only at HP1
        obtain ⟨m, hm⟩ : ∃ m, m = ns.length := ⟨_, rfl⟩
        rw [← hm] at c4 HP1 hpm Hnt
        clear hm hL0 Hro
        obtain ⟨w5, hw5⟩ : ∃ w5, w5 = wo.alloc (.cells #[.string pk, .string ps, .string pe, .int .i64 pv, .slice xa m cc] 24) := ⟨_, rfl⟩
        have hA5 : Below wo.heap.size wo w5 := by rw [hw5]; exact (Below.refl _ _).alloc (Nat.le_refl _) _
        have HS5 := Lib.hid (show Blk w5 wo.heap.size 24 [.string pk, .string ps, .string pe, .int .i64 pv, .slice xa m cc] by rw [hw5]; exact Blk.new _ _ _)
        have HBo5 := Lib.hid (HBo.out.trans (hA5.mono HBo.out.size))
        have HA5 := Lib.hid hA5
        have HN5 := Lib.hid ((Hnt.out.below (hA5.mono HBo.out.size)).more (Nat.le_trans HBo.out.size hA5.size))
        obtain ⟨s0, s1, s2, s3, s4⟩ := HS5.out.facts5.1
        have i1 : (k : Int) < (n : Int) := by omega
        clear hA5
        go_upto_region 12 with fail
        rw [← hw5]
        clear hw5 c0 c1 c2 c3 c4
        go_wp2_with fail
        refine (HP1.out xa cc w5 HBo5.out HN5.out).mono ?_
        rintro e w6 ⟨rfl, hb6⟩
        have HA6 := Lib.hid (HA5.out.trans (hb6.mono HA5.out.size))
        have HS6 := Lib.hid (HS5.out.kept hb6)
        have HB6 := Lib.hid (HBr.out.trans (HA6.out.mono hsz))
        have HBo6 := Lib.hid (HBo.out.trans (HA6.out.mono HBo.out.size))
        have hz6 := HS6.out.lt
        clear s0 s1 s2 s3 s4 hb6 HN5 HP1
        obtain ⟨s0, s1, s2, s3, s4⟩ := HS6.out.facts5.1
        have gc0 := (HG.out.kept HB6.out).cell 0 rfl
        have gc2 := (HG.out.kept HB6.out).cell 2 rfl
        by_cases hr : rp = 0
        rotate_left
        · have hnr : ((rp : Int) != 0) = true := by simpa using hr
          have Hr := Lib.hid (Ha.out.trans (F1.out hr))
          clear hr
          go_wp2
          go_ret
          exact ⟨by rw [Hr.out]; rfl, HBo6.out⟩
        have HR := Lib.hid hr
        have HFL2 := Lib.hid (HFL.out hr)
        subst hr
        clear F1 HFL
        rcases text_eq pk ck with hpk | hpq
        · have Hr := Lib.hid (Ha.out.trans (F2.out HR.out (.inr hpk)))
          have hpq : (pk.toList == ck.toList) = true := by rw [hpk]; simp
          clear hpk
          go_wp2_with fail
          go_quiet (fail)
          go_wp2
          go_ret
          exact ⟨by rw [Hr.out]; rfl, below_drewN HBo6.out _⟩
        have Hpn : Hid (pk ≠ ck) := Lib.hid (fun e => by rw [e] at hpq; simp at hpq)
        by_cases hk0 : k = 0
        · have q1 : decide ((0 : Int) < (k : Int)) = false := decide_eq_false (by omega)
          have q0 : ¬ 0 < k := by omega
          have Hnx := Lib.hid (F3.out HR.out (by
            rw [F5.out hk0, HFL2.out]
            rintro (hh | hh)
            · cases hh
            · exact Hpn.out hh))
          clear F2 F3 F6 F5 HFL2 hk0
          go_wp2_with fail
          go_quiet (fail)
          clear q0 q1
          obtain ⟨w7, hw7⟩ : ∃ w7, w7 = w6.drewN nq := ⟨_, rfl⟩
          have HA7 := Lib.hid (show Below w6.heap.size w6 w7 by rw [hw7]; exact below_drewN (Below.refl _ _) _)
          rw [← hw7]
          clear hw7 s0 s1 s2 s3 s4 gc0 gc2
          have HS7 := Lib.hid (HS6.out.kept HA7.out)
          have HB7 := Lib.hid (HB6.out.trans (HA7.out.mono HB6.out.size))
          have HBo7 := Lib.hid (HBo6.out.trans (HA7.out.mono HBo6.out.size))
          have gc2 := (HG.out.kept HB7.out).cell 2 rfl
          have s4 := HS7.out.cell 4 rfl
          have HSS : Hid (∀ W, Below w7.heap.size w7 W → W.cell? ⟨w.heap.size, 2, none⟩ = some (.slice (some ⟨b, off, none⟩) n c) ∧ W.cell? ⟨wo.heap.size, 4, none⟩ = some (.slice xa m cc) ∧ Below w7.heap.size w7 W) :=
            Lib.hid fun W hW => ⟨(HG.out.kept (HB7.out.trans (hW.mono HB7.out.size))).cell 2 rfl, (HS7.out.kept hW).cell 4 rfl, hW⟩
          have HAV : Hid (∀ W, (W.cell? ⟨w.heap.size, 2, none⟩ = some (.slice (some ⟨b, off, none⟩) n c) ∧ W.cell? ⟨wo.heap.size, 4, none⟩ = some (.slice xa m cc) ∧ Below w7.heap.size w7 W) →
              Calls Tryd.prog 28 #[.slice (some ⟨b, off, none⟩) k c, .slice xa m cc] W fun e W' => e = .returned (.bool (Cf.has tk ns)) ∧ (W'.cell? ⟨w.heap.size, 2, none⟩ = some (.slice (some ⟨b, off, none⟩) n c) ∧ W'.cell? ⟨wo.heap.size, 4, none⟩ = some (.slice xa m cc) ∧ Below w7.heap.size w7 W')) :=
            Lib.hid fun W hW => by
              have hWw := HBo7.out.trans (hW.2.2.mono HBo7.out.size)
              have hWo := HA6.out.trans ((HA7.out.trans (hW.2.2.mono HA7.out.size)).mono HA6.out.size)
              exact (conf_haveAny _ xa k c m cc tk ns W ((HPt.out.below hWw).more hWw.size) (by unfold maxLen; omega) ((Hnt.out.below (hWo.mono HBo.out.size)).more (Nat.le_trans HBo.out.size hWo.size)) hpm HAll.out).mono fun e W' ⟨he, hb⟩ => ⟨he, HSS.out W' (hW.2.2.trans (hb.mono hW.2.2.size))⟩
          have hkc : k ≤ c := by omega
          have hkc2 : ((k : Nat) : Int) ≤ (c : Int) := by omega
          have hk00 : (0 : Int) ≤ ((k : Nat) : Int) := by omega
          generalize Cf.has tk ns = hv at *
          cases hv with
          | true =>
            have Hr := Lib.hid (Ha.out.trans (Hnx.out.trans (if_pos rfl)))
            clear Hnx
            go_upto_region 17 with fail
            go_region_held3 (fun W => W.cell? ⟨w.heap.size, 2, none⟩ = some (.slice (some ⟨b, off, none⟩) n c) ∧ W.cell? ⟨wo.heap.size, 4, none⟩ = some (.slice xa m cc) ∧ Below w7.heap.size w7 W) (first | assumption | (exact ⟨gc2, s4, (Below.refl _ _).drew⟩))
              (first | (go_at_call 28; refine (HAV.out _ (by first | assumption | exact ⟨gc2, s4, (Below.refl _ _).drew⟩)).mono ?_; rintro e w9 ⟨rfl, hS9⟩))
            have HB9 := Lib.hid (HBo7.out.trans (hS9.2.2.mono HBo7.out.size))
            clear hS9
            go_wp2
            go_ret
            exact ⟨by rw [Hr.out]; rfl, HB9.out⟩
          | false =>
            have Hr := Lib.hid (Ha.out.trans (Hnx.out.trans (if_neg (fun h => Bool.noConfusion h))))
            clear Hnx
            go_upto_region 17 with fail
            go_region_held3 (fun W => W.cell? ⟨w.heap.size, 2, none⟩ = some (.slice (some ⟨b, off, none⟩) n c) ∧ W.cell? ⟨wo.heap.size, 4, none⟩ = some (.slice xa m cc) ∧ Below w7.heap.size w7 W) (first | assumption | (exact ⟨gc2, s4, (Below.refl _ _).drew⟩))
              (first | (go_at_call 28; refine (HAV.out _ (by first | assumption | exact ⟨gc2, s4, (Below.refl _ _).drew⟩)).mono ?_; rintro e w9 ⟨rfl, hS9⟩))
            have HB9 := Lib.hid (HB7.out.trans (hS9.2.2.mono HB7.out.size))
            clear hS9
            go_wp2
            go_roundw
            case rel => exact ⟨k + 1, by omega, by go_num, Hr, HB9⟩
            case measure => simp [intOf]; omega
        · have q1 : decide ((0 : Int) < (k : Int)) = true := decide_eq_true (by omega)
          have q0 : 0 < k := by omega
          have p0 := cell_below HA6.out (F6.out q0)
          obtain ⟨i, hik⟩ : ∃ i, k - 1 = i := ⟨_, rfl⟩
          rw [hik] at p0
          have i2 : (i : Int) < (n : Int) := by omega
          have i4 : (0 : Int) ≤ (i : Int) := by omega
          have i5 : (i : Int) ≤ 6 := by omega
          have i7 : IntKind.i64.wrap ((k : Int) - 1) = (i : Int) := by rw [IntKind.wrap_i64]; omega
          have i9 : IntKind.i64.wrap (i : Int) = (i : Int) := by rw [IntKind.wrap_i64]; omega
          have i3 : (k : Int) - 1 = (i : Int) := by omega
          clear hik hk0
          rcases key_order pk L with ⟨k1, k3⟩ | ⟨k1, k2, k3⟩ | ⟨k1, k2, k3⟩
          · have Hr := Lib.hid (Ha.out.trans (F2.out HR.out (.inl k3)))
            clear k3
            go_wp2_with fail
            go_quiet (fail)
            go_wp2
            go_ret
            exact ⟨by rw [Hr.out]; rfl, below_drewN HBo6.out _⟩
          · have Hr := Lib.hid (Ha.out.trans (F2.out HR.out (.inl k3)))
            clear k3
            go_wp2_with fail
            go_quiet (fail)
            go_wp2
            go_ret
            exact ⟨by rw [Hr.out]; rfl, below_drewN HBo6.out _⟩
          · have Hnx := Lib.hid (F3.out HR.out (by
              rintro (hh | hh)
              · rw [k3] at hh; cases hh
              · exact Hpn.out hh))
            clear F2 F3 F6 F5 HFL2 k3
            go_wp2_with fail
            go_quiet (fail)
            clear i2 i4 i5 i7 i9 i3 p0 k1 k2 q0 q1
            obtain ⟨w7, hw7⟩ : ∃ w7, w7 = w6.drewN nq := ⟨_, rfl⟩
            have HA7 := Lib.hid (show Below w6.heap.size w6 w7 by rw [hw7]; exact below_drewN (Below.refl _ _) _)
            rw [← hw7]
            clear hw7 s0 s1 s2 s3 s4 gc0 gc2
            have HS7 := Lib.hid (HS6.out.kept HA7.out)
            have HB7 := Lib.hid (HB6.out.trans (HA7.out.mono HB6.out.size))
            have HBo7 := Lib.hid (HBo6.out.trans (HA7.out.mono HBo6.out.size))
            have gc2 := (HG.out.kept HB7.out).cell 2 rfl
            have s4 := HS7.out.cell 4 rfl
            have HSS : Hid (∀ W, Below w7.heap.size w7 W → W.cell? ⟨w.heap.size, 2, none⟩ = some (.slice (some ⟨b, off, none⟩) n c) ∧ W.cell? ⟨wo.heap.size, 4, none⟩ = some (.slice xa m cc) ∧ Below w7.heap.size w7 W) :=
              Lib.hid fun W hW => ⟨(HG.out.kept (HB7.out.trans (hW.mono HB7.out.size))).cell 2 rfl, (HS7.out.kept hW).cell 4 rfl, hW⟩
            have HAV : Hid (∀ W, (W.cell? ⟨w.heap.size, 2, none⟩ = some (.slice (some ⟨b, off, none⟩) n c) ∧ W.cell? ⟨wo.heap.size, 4, none⟩ = some (.slice xa m cc) ∧ Below w7.heap.size w7 W) →
                Calls Tryd.prog 28 #[.slice (some ⟨b, off, none⟩) k c, .slice xa m cc] W fun e W' => e = .returned (.bool (Cf.has tk ns)) ∧ (W'.cell? ⟨w.heap.size, 2, none⟩ = some (.slice (some ⟨b, off, none⟩) n c) ∧ W'.cell? ⟨wo.heap.size, 4, none⟩ = some (.slice xa m cc) ∧ Below w7.heap.size w7 W')) :=
              Lib.hid fun W hW => by
                have hWw := HBo7.out.trans (hW.2.2.mono HBo7.out.size)
                have hWo := HA6.out.trans ((HA7.out.trans (hW.2.2.mono HA7.out.size)).mono HA6.out.size)
                exact (conf_haveAny _ xa k c m cc tk ns W ((HPt.out.below hWw).more hWw.size) (by unfold maxLen; omega) ((Hnt.out.below (hWo.mono HBo.out.size)).more (Nat.le_trans HBo.out.size hWo.size)) hpm HAll.out).mono fun e W' ⟨he, hb⟩ => ⟨he, HSS.out W' (hW.2.2.trans (hb.mono hW.2.2.size))⟩
            have hkc : k ≤ c := by omega
            have hkc2 : ((k : Nat) : Int) ≤ (c : Int) := by omega
            have hk00 : (0 : Int) ≤ ((k : Nat) : Int) := by omega
            generalize Cf.has tk ns = hv at *
            cases hv with
            | true =>
              have Hr := Lib.hid (Ha.out.trans (Hnx.out.trans (if_pos rfl)))
              clear Hnx
              go_upto_region 17 with fail
              go_region_held3 (fun W => W.cell? ⟨w.heap.size, 2, none⟩ = some (.slice (some ⟨b, off, none⟩) n c) ∧ W.cell? ⟨wo.heap.size, 4, none⟩ = some (.slice xa m cc) ∧ Below w7.heap.size w7 W) (first | assumption | (exact ⟨gc2, s4, (Below.refl _ _).drew⟩))
                (first | (go_at_call 28; refine (HAV.out _ (by first | assumption | exact ⟨gc2, s4, (Below.refl _ _).drew⟩)).mono ?_; rintro e w9 ⟨rfl, hS9⟩))
              have HB9 := Lib.hid (HBo7.out.trans (hS9.2.2.mono HBo7.out.size))
              clear hS9
              go_wp2
              go_ret
              exact ⟨by rw [Hr.out]; rfl, HB9.out⟩
            | false =>
              have Hr := Lib.hid (Ha.out.trans (Hnx.out.trans (if_neg (fun h => Bool.noConfusion h))))
              clear Hnx
              go_upto_region 17 with fail
              go_region_held3 (fun W => W.cell? ⟨w.heap.size, 2, none⟩ = some (.slice (some ⟨b, off, none⟩) n c) ∧ W.cell? ⟨wo.heap.size, 4, none⟩ = some (.slice xa m cc) ∧ Below w7.heap.size w7 W) (first | assumption | (exact ⟨gc2, s4, (Below.refl _ _).drew⟩))
                (first | (go_at_call 28; refine (HAV.out _ (by first | assumption | exact ⟨gc2, s4, (Below.refl _ _).drew⟩)).mono ?_; rintro e w9 ⟨rfl, hS9⟩))
              have HB9 := Lib.hid (HB7.out.trans (hS9.2.2.mono HB7.out.size))
              clear hS9
              go_wp2
              go_roundw
              case rel => exact ⟨k + 1, by omega, by go_num, Hr, HB9⟩
              case measure => simp [intOf]; omega
      · obtain rfl : k = n := by omega
        have Hr := Lib.hid (Ha.out.trans (Cf.pFrom_end ck l k (by have := Hn.out; omega)))
        go_wp2
        go_ret
        exact ⟨by rw [Hr.out]; rfl, HBo.out⟩
  · rw [decide_eq_false h0] at se
    by_cases h1 : rk = 0
    · have Hsk : Hid (ck.size = 0 ∨ rk = 0) := Lib.hid (.inr h1)
      rw [h1] at HK
      clear h0 h1
      go_wp2_with fail
      refine (HK.out w1).mono ?_
      rintro e w2 ⟨rfl, rfl⟩
      by_cases hv1 : cp < 0
      · have d1 : decide (cp < 0) = true := decide_eq_true hv1
        have Hr := Lib.hid (E2.out Hsk.out (.inl hv1))
        clear hv1
        go_wp2
        go_ret
        exact ⟨by rw [Hr.out]; rfl, HA.out⟩
      have d1 : decide (cp < 0) = false := decide_eq_false hv1
      by_cases hv2 : 65535 < cp
      · have d2 : decide (65535 < cp) = true := decide_eq_true hv2
        have Hr := Lib.hid (E2.out Hsk.out (.inr hv2))
        clear hv1 hv2
        go_wp2
        go_ret
        exact ⟨by rw [Hr.out]; rfl, HA.out⟩
      have d2 : decide (65535 < cp) = false := decide_eq_false hv2
      by_cases hn6 : 6 < n
      · have d3 : (6 : Int) < (n : Int) := by omega
        have Hr := Lib.hid (E3.out Hsk.out (by omega) hn6)
        clear hv1 hv2
        go_wp2
        go_ret
        exact ⟨by rw [Hr.out]; rfl, HA.out⟩
      have d3 : ¬ (6 : Int) < (n : Int) := by omega
      have d4 : decide ((6 : Int) < (n : Int)) = false := decide_eq_false d3
      have Hr0 := Lib.hid (E4.out Hsk.out (by omega) (by omega))
      have hn7 : n ≤ 6 := by omega
      clear hv1 hv2 E1 E2 E3 E4 hn6 Hsk HK
      go_wp2
      go_loopw [31] (fun i wr => ∃ k : Nat, k ≤ n ∧ i = .int .i64 (k : Int) ∧ Hid (R = Cf.pFrom ck l k) ∧ Hid (Below w1.heap.size w1 wr)) (fun i _ => n - (intOf i).toNat)
      case atStart => exact ⟨0, Nat.zero_le _, rfl, Hr0, Lib.hid (Below.refl _ _)⟩
      case round =>
        obtain ⟨k, hk, rfl, Ha, HBr⟩ := hrel
        obtain ⟨wo, hwo⟩ : ∃ wo, wo = wr := ⟨_, rfl⟩
        subst hwo
        have hsz := HBr.out.size
        have HBo := Lib.hid (HA.out.trans (HBr.out.mono HA.out.size))
        by_cases hlt : k < n
        · have hll : k < l.length := by have := Hn.out; omega
          obtain ⟨b, off, rfl, hbl, hc⟩ := (H.out.below HBo.out).2 (by omega)
          obtain ⟨c0, c1, c2, c3, xa, cc, c4, hnets⟩ := hc k hll
          have HP1 := Lib.hid (HP.out (l[k]'hll) (List.getElem_mem hll))
          have hpm := HNb.out (l[k]'hll) (List.getElem_mem hll)
          have F1 := Lib.hid (fun hr => Cf.pFrom_right (key := ck) hll hr)
          have F2 := Lib.hid (fun hr ho => Cf.pFrom_order (key := ck) hll hr ho)
          have F3 := Lib.hid (fun hr ho => Cf.pFrom_has (key := ck) hll hr ho)
          have F5 : Hid (k = 0 → Cf.lastOf l k = ⟨#[]⟩) := Lib.hid (fun h0 => by unfold Cf.lastOf; rw [if_pos h0])
          have F6 : Hid (∀ h0 : 0 < k, wo.cell? ⟨b, off + (k - 1) * 5, none⟩ = some (.string (Cf.lastOf l k))) := Lib.hid (fun h0 => by
            have e := Cf.last_next l (k - 1) (by omega)
            rw [Nat.sub_add_cancel h0] at e
            rw [e]
            exact (hc (k - 1) (by omega)).1)
          have HPt := Lib.hid ((H.out.take (k := k) (Nat.le_of_lt hlt)))
          have HAll := Lib.hid (fun p (hp : p ∈ l.take k) => HNb.out p (List.mem_of_mem_take hp))
          clear hc
          have Hro := Lib.hid (fun hr => Cf.right_keyErr (p := l[k]'hll) hr)
          have HFL := Lib.hid (fun hr => Cf.first_less (Cf.right_keyErr (p := l[k]'hll) hr))
          generalize l[k]'hll = p at *
          generalize hL0 : Cf.lastOf l k = L at *
          generalize l.take k = tk at *
          have Hnt := Lib.hid hnets
          clear hnets
          generalize Cf.right p = rp at *
          obtain ⟨pk, ps, pe, pv, ns⟩ := p
          simp only at c0 c1 c2 c3 c4 F2 F3 HFL hpm Hnt
          unfold peerV at HP1
          simp only at HP1
          obtain ⟨m, hm⟩ : ∃ m, m = ns.length := ⟨_, rfl⟩
          rw [← hm] at c4 HP1 hpm Hnt
          clear hm hL0 Hro
          obtain ⟨w5, hw5⟩ : ∃ w5, w5 = wo.alloc (.cells #[.string pk, .string ps, .string pe, .int .i64 pv, .slice xa m cc] 24) := ⟨_, rfl⟩
          have hA5 : Below wo.heap.size wo w5 := by rw [hw5]; exact (Below.refl _ _).alloc (Nat.le_refl _) _
          have HS5 := Lib.hid (show Blk w5 wo.heap.size 24 [.string pk, .string ps, .string pe, .int .i64 pv, .slice xa m cc] by rw [hw5]; exact Blk.new _ _ _)
          have HBo5 := Lib.hid (HBo.out.trans (hA5.mono HBo.out.size))
          have HA5 := Lib.hid hA5
          have HN5 := Lib.hid ((Hnt.out.below (hA5.mono HBo.out.size)).more (Nat.le_trans HBo.out.size hA5.size))
          obtain ⟨s0, s1, s2, s3, s4⟩ := HS5.out.facts5.1
          have i1 : (k : Int) < (n : Int) := by omega
          clear hA5
          go_upto_region 12 with fail
          rw [← hw5]
          clear hw5 c0 c1 c2 c3 c4
          go_wp2_with fail
          refine (HP1.out xa cc w5 HBo5.out HN5.out).mono ?_
          rintro e w6 ⟨rfl, hb6⟩
          have HA6 := Lib.hid (HA5.out.trans (hb6.mono HA5.out.size))
          have HS6 := Lib.hid (HS5.out.kept hb6)
          have HB6 := Lib.hid (HBr.out.trans (HA6.out.mono hsz))
          have HBo6 := Lib.hid (HBo.out.trans (HA6.out.mono HBo.out.size))
          have hz6 := HS6.out.lt
          clear s0 s1 s2 s3 s4 hb6 HN5 HP1
          obtain ⟨s0, s1, s2, s3, s4⟩ := HS6.out.facts5.1
          have gc0 := (HG.out.kept HB6.out).cell 0 rfl
          have gc2 := (HG.out.kept HB6.out).cell 2 rfl
          by_cases hr : rp = 0
          rotate_left
          · have hnr : ((rp : Int) != 0) = true := by simpa using hr
            have Hr := Lib.hid (Ha.out.trans (F1.out hr))
            clear hr
            go_wp2
            go_ret
            exact ⟨by rw [Hr.out]; rfl, HBo6.out⟩
          have HR := Lib.hid hr
          have HFL2 := Lib.hid (HFL.out hr)
          subst hr
          clear F1 HFL
          rcases text_eq pk ck with hpk | hpq
          · have Hr := Lib.hid (Ha.out.trans (F2.out HR.out (.inr hpk)))
            have hpq : (pk.toList == ck.toList) = true := by rw [hpk]; simp
            clear hpk
            go_wp2_with fail
            go_quiet (fail)
            go_wp2
            go_ret
            exact ⟨by rw [Hr.out]; rfl, below_drewN HBo6.out _⟩
          have Hpn : Hid (pk ≠ ck) := Lib.hid (fun e => by rw [e] at hpq; simp at hpq)
          by_cases hk0 : k = 0
          · have q1 : decide ((0 : Int) < (k : Int)) = false := decide_eq_false (by omega)
            have q0 : ¬ 0 < k := by omega
            have Hnx := Lib.hid (F3.out HR.out (by
              rw [F5.out hk0, HFL2.out]
              rintro (hh | hh)
              · cases hh
              · exact Hpn.out hh))
            clear F2 F3 F6 F5 HFL2 hk0
            go_wp2_with fail
            go_quiet (fail)
            clear q0 q1
            obtain ⟨w7, hw7⟩ : ∃ w7, w7 = w6.drewN nq := ⟨_, rfl⟩
            have HA7 := Lib.hid (show Below w6.heap.size w6 w7 by rw [hw7]; exact below_drewN (Below.refl _ _) _)
            rw [← hw7]
            clear hw7 s0 s1 s2 s3 s4 gc0 gc2
            have HS7 := Lib.hid (HS6.out.kept HA7.out)
            have HB7 := Lib.hid (HB6.out.trans (HA7.out.mono HB6.out.size))
            have HBo7 := Lib.hid (HBo6.out.trans (HA7.out.mono HBo6.out.size))
            have gc2 := (HG.out.kept HB7.out).cell 2 rfl
            have s4 := HS7.out.cell 4 rfl
            have HSS : Hid (∀ W, Below w7.heap.size w7 W → W.cell? ⟨w.heap.size, 2, none⟩ = some (.slice (some ⟨b, off, none⟩) n c) ∧ W.cell? ⟨wo.heap.size, 4, none⟩ = some (.slice xa m cc) ∧ Below w7.heap.size w7 W) :=
              Lib.hid fun W hW => ⟨(HG.out.kept (HB7.out.trans (hW.mono HB7.out.size))).cell 2 rfl, (HS7.out.kept hW).cell 4 rfl, hW⟩
            have HAV : Hid (∀ W, (W.cell? ⟨w.heap.size, 2, none⟩ = some (.slice (some ⟨b, off, none⟩) n c) ∧ W.cell? ⟨wo.heap.size, 4, none⟩ = some (.slice xa m cc) ∧ Below w7.heap.size w7 W) →
                Calls Tryd.prog 28 #[.slice (some ⟨b, off, none⟩) k c, .slice xa m cc] W fun e W' => e = .returned (.bool (Cf.has tk ns)) ∧ (W'.cell? ⟨w.heap.size, 2, none⟩ = some (.slice (some ⟨b, off, none⟩) n c) ∧ W'.cell? ⟨wo.heap.size, 4, none⟩ = some (.slice xa m cc) ∧ Below w7.heap.size w7 W')) :=
              Lib.hid fun W hW => by
                have hWw := HBo7.out.trans (hW.2.2.mono HBo7.out.size)
                have hWo := HA6.out.trans ((HA7.out.trans (hW.2.2.mono HA7.out.size)).mono HA6.out.size)
                exact (conf_haveAny _ xa k c m cc tk ns W ((HPt.out.below hWw).more hWw.size) (by unfold maxLen; omega) ((Hnt.out.below (hWo.mono HBo.out.size)).more (Nat.le_trans HBo.out.size hWo.size)) hpm HAll.out).mono fun e W' ⟨he, hb⟩ => ⟨he, HSS.out W' (hW.2.2.trans (hb.mono hW.2.2.size))⟩
            have hkc : k ≤ c := by omega
            have hkc2 : ((k : Nat) : Int) ≤ (c : Int) := by omega
            have hk00 : (0 : Int) ≤ ((k : Nat) : Int) := by omega
            generalize Cf.has tk ns = hv at *
            cases hv with
            | true =>
              have Hr := Lib.hid (Ha.out.trans (Hnx.out.trans (if_pos rfl)))
              clear Hnx
              go_upto_region 17 with fail
              go_region_held3 (fun W => W.cell? ⟨w.heap.size, 2, none⟩ = some (.slice (some ⟨b, off, none⟩) n c) ∧ W.cell? ⟨wo.heap.size, 4, none⟩ = some (.slice xa m cc) ∧ Below w7.heap.size w7 W) (first | assumption | (exact ⟨gc2, s4, (Below.refl _ _).drew⟩))
                (first | (go_at_call 28; refine (HAV.out _ (by first | assumption | exact ⟨gc2, s4, (Below.refl _ _).drew⟩)).mono ?_; rintro e w9 ⟨rfl, hS9⟩))
              have HB9 := Lib.hid (HBo7.out.trans (hS9.2.2.mono HBo7.out.size))
              clear hS9
              go_wp2
              go_ret
              exact ⟨by rw [Hr.out]; rfl, HB9.out⟩
            | false =>
              have Hr := Lib.hid (Ha.out.trans (Hnx.out.trans (if_neg (fun h => Bool.noConfusion h))))
              clear Hnx
              go_upto_region 17 with fail
              go_region_held3 (fun W => W.cell? ⟨w.heap.size, 2, none⟩ = some (.slice (some ⟨b, off, none⟩) n c) ∧ W.cell? ⟨wo.heap.size, 4, none⟩ = some (.slice xa m cc) ∧ Below w7.heap.size w7 W) (first | assumption | (exact ⟨gc2, s4, (Below.refl _ _).drew⟩))
                (first | (go_at_call 28; refine (HAV.out _ (by first | assumption | exact ⟨gc2, s4, (Below.refl _ _).drew⟩)).mono ?_; rintro e w9 ⟨rfl, hS9⟩))
              have HB9 := Lib.hid (HB7.out.trans (hS9.2.2.mono HB7.out.size))
              clear hS9
              go_wp2
              go_roundw
              case rel => exact ⟨k + 1, by omega, by go_num, Hr, HB9⟩
              case measure => simp [intOf]; omega
          · have q1 : decide ((0 : Int) < (k : Int)) = true := decide_eq_true (by omega)
            have q0 : 0 < k := by omega
            have p0 := cell_below HA6.out (F6.out q0)
            obtain ⟨i, hik⟩ : ∃ i, k - 1 = i := ⟨_, rfl⟩
            rw [hik] at p0
            have i2 : (i : Int) < (n : Int) := by omega
            have i4 : (0 : Int) ≤ (i : Int) := by omega
            have i5 : (i : Int) ≤ 6 := by omega
            have i7 : IntKind.i64.wrap ((k : Int) - 1) = (i : Int) := by rw [IntKind.wrap_i64]; omega
            have i9 : IntKind.i64.wrap (i : Int) = (i : Int) := by rw [IntKind.wrap_i64]; omega
            have i3 : (k : Int) - 1 = (i : Int) := by omega
            clear hik hk0
            rcases key_order pk L with ⟨k1, k3⟩ | ⟨k1, k2, k3⟩ | ⟨k1, k2, k3⟩
            · have Hr := Lib.hid (Ha.out.trans (F2.out HR.out (.inl k3)))
              clear k3
              go_wp2_with fail
              go_quiet (fail)
              go_wp2
              go_ret
              exact ⟨by rw [Hr.out]; rfl, below_drewN HBo6.out _⟩
            · have Hr := Lib.hid (Ha.out.trans (F2.out HR.out (.inl k3)))
              clear k3
              go_wp2_with fail
              go_quiet (fail)
              go_wp2
              go_ret
              exact ⟨by rw [Hr.out]; rfl, below_drewN HBo6.out _⟩
            · have Hnx := Lib.hid (F3.out HR.out (by
                rintro (hh | hh)
                · rw [k3] at hh; cases hh
                · exact Hpn.out hh))
              clear F2 F3 F6 F5 HFL2 k3
              go_wp2_with fail
              go_quiet (fail)
              clear i2 i4 i5 i7 i9 i3 p0 k1 k2 q0 q1
              obtain ⟨w7, hw7⟩ : ∃ w7, w7 = w6.drewN nq := ⟨_, rfl⟩
              have HA7 := Lib.hid (show Below w6.heap.size w6 w7 by rw [hw7]; exact below_drewN (Below.refl _ _) _)
              rw [← hw7]
              clear hw7 s0 s1 s2 s3 s4 gc0 gc2
              have HS7 := Lib.hid (HS6.out.kept HA7.out)
              have HB7 := Lib.hid (HB6.out.trans (HA7.out.mono HB6.out.size))
              have HBo7 := Lib.hid (HBo6.out.trans (HA7.out.mono HBo6.out.size))
              have gc2 := (HG.out.kept HB7.out).cell 2 rfl
              have s4 := HS7.out.cell 4 rfl
              have HSS : Hid (∀ W, Below w7.heap.size w7 W → W.cell? ⟨w.heap.size, 2, none⟩ = some (.slice (some ⟨b, off, none⟩) n c) ∧ W.cell? ⟨wo.heap.size, 4, none⟩ = some (.slice xa m cc) ∧ Below w7.heap.size w7 W) :=
                Lib.hid fun W hW => ⟨(HG.out.kept (HB7.out.trans (hW.mono HB7.out.size))).cell 2 rfl, (HS7.out.kept hW).cell 4 rfl, hW⟩
              have HAV : Hid (∀ W, (W.cell? ⟨w.heap.size, 2, none⟩ = some (.slice (some ⟨b, off, none⟩) n c) ∧ W.cell? ⟨wo.heap.size, 4, none⟩ = some (.slice xa m cc) ∧ Below w7.heap.size w7 W) →
                  Calls Tryd.prog 28 #[.slice (some ⟨b, off, none⟩) k c, .slice xa m cc] W fun e W' => e = .returned (.bool (Cf.has tk ns)) ∧ (W'.cell? ⟨w.heap.size, 2, none⟩ = some (.slice (some ⟨b, off, none⟩) n c) ∧ W'.cell? ⟨wo.heap.size, 4, none⟩ = some (.slice xa m cc) ∧ Below w7.heap.size w7 W')) :=
                Lib.hid fun W hW => by
                  have hWw := HBo7.out.trans (hW.2.2.mono HBo7.out.size)
                  have hWo := HA6.out.trans ((HA7.out.trans (hW.2.2.mono HA7.out.size)).mono HA6.out.size)
                  exact (conf_haveAny _ xa k c m cc tk ns W ((HPt.out.below hWw).more hWw.size) (by unfold maxLen; omega) ((Hnt.out.below (hWo.mono HBo.out.size)).more (Nat.le_trans HBo.out.size hWo.size)) hpm HAll.out).mono fun e W' ⟨he, hb⟩ => ⟨he, HSS.out W' (hW.2.2.trans (hb.mono hW.2.2.size))⟩
              have hkc : k ≤ c := by omega
              have hkc2 : ((k : Nat) : Int) ≤ (c : Int) := by omega
              have hk00 : (0 : Int) ≤ ((k : Nat) : Int) := by omega
              generalize Cf.has tk ns = hv at *
              cases hv with
              | true =>
                have Hr := Lib.hid (Ha.out.trans (Hnx.out.trans (if_pos rfl)))
                clear Hnx
                go_upto_region 17 with fail
                go_region_held3 (fun W => W.cell? ⟨w.heap.size, 2, none⟩ = some (.slice (some ⟨b, off, none⟩) n c) ∧ W.cell? ⟨wo.heap.size, 4, none⟩ = some (.slice xa m cc) ∧ Below w7.heap.size w7 W) (first | assumption | (exact ⟨gc2, s4, (Below.refl _ _).drew⟩))
                  (first | (go_at_call 28; refine (HAV.out _ (by first | assumption | exact ⟨gc2, s4, (Below.refl _ _).drew⟩)).mono ?_; rintro e w9 ⟨rfl, hS9⟩))
                have HB9 := Lib.hid (HBo7.out.trans (hS9.2.2.mono HBo7.out.size))
                clear hS9
                go_wp2
                go_ret
                exact ⟨by rw [Hr.out]; rfl, HB9.out⟩
              | false =>
                have Hr := Lib.hid (Ha.out.trans (Hnx.out.trans (if_neg (fun h => Bool.noConfusion h))))
                clear Hnx
                go_upto_region 17 with fail
                go_region_held3 (fun W => W.cell? ⟨w.heap.size, 2, none⟩ = some (.slice (some ⟨b, off, none⟩) n c) ∧ W.cell? ⟨wo.heap.size, 4, none⟩ = some (.slice xa m cc) ∧ Below w7.heap.size w7 W) (first | assumption | (exact ⟨gc2, s4, (Below.refl _ _).drew⟩))
                  (first | (go_at_call 28; refine (HAV.out _ (by first | assumption | exact ⟨gc2, s4, (Below.refl _ _).drew⟩)).mono ?_; rintro e w9 ⟨rfl, hS9⟩))
                have HB9 := Lib.hid (HB7.out.trans (hS9.2.2.mono HB7.out.size))
                clear hS9
                go_wp2
                go_roundw
                case rel => exact ⟨k + 1, by omega, by go_num, Hr, HB9⟩
                case measure => simp [intOf]; omega
        · obtain rfl : k = n := by omega
          have Hr := Lib.hid (Ha.out.trans (Cf.pFrom_end ck l k (by have := Hn.out; omega)))
          go_wp2
          go_ret
          exact ⟨by rw [Hr.out]; rfl, HBo.out⟩
    · have hn1 : ((rk : Int) != 0) = true := by simpa using h1
      have Hr := Lib.hid (E1.out h0 h1)
      clear h0 h1
      go_wp2_with fail
      refine (HK.out w1).mono ?_
      rintro e w2 ⟨rfl, rfl⟩
      go_wp2
      go_ret
      exact ⟨by rw [Hr.out]; rfl, HA.out⟩
theorem conf_Check (x : Cf.C) (a : Option Addr) (c : Nat) (w : World) (h : PeersAt w w.heap.size a x.ps.length x.ps) (hcap : x.ps.length ≤ c) (hk : x.k.size ≤ 1048576) (hs : ∀ p ∈ x.ps, PeerSmall p) (hb : ∀ p ∈ x.ps, PeerBounds p) (hT : CodeTabs w) :
    Calls Tryd.prog 9 #[confV x a c] w fun e w' => e = .returned (.int .i64 (Cf.err x : Int)) ∧ Below w.heap.size w w' := conf_Check0 x a c w h hcap hk hs hb hT.2
end Go.Proofs.YtjdflnnpamjjcaaDoor

namespace Go.Proofs.YtjdflnnpamjjcaaDoor
open Go.RowKit

set_option maxRecDepth 20000 in
set_option maxHeartbeats 8000000 in
theorem walk_ConfFound (a : Option Addr) (n c : Nat) (l : List RawD) (w : World) (h : RawsAt w w.heap.size a n l) (hnc : n ≤ c) (hm : c ≤ maxLen) (hok : ∀ r ∈ l, r.ok) (hM : MaxTab w) :
    Calls Tryd.prog 4 #[.slice a n c] w fun e w' => e = .returned (.bool true) ∧ Below w.heap.size w w' := by
  have H1 := Lib.hid (keep_ConfAt a n c l w h (by omega) hok)
  obtain ⟨s1, s2, s3, s4⟩ := Cf.raw_small l
  have F1 := Lib.hid (fun i hi => Cf.raw_found l (i := i) hi)
  have F2 := Lib.hid (Cf.raw_none l ⟨#[110, 111, 110, 101]⟩ (by decide))
  have F4 := Lib.hid (fun W (hW : Below w.heap.size w W) => conf_Right0 ⟨⟨#[120]⟩, ⟨#[]⟩, ⟨#[]⟩, 0, []⟩ none 0 W ⟨rfl, fun h => absurd h (by decide)⟩ ⟨by decide, by decide, by decide⟩ (fun n hn => by cases hn) (Nat.zero_le _) (hM.below hW))
  have F6 := Lib.hid (fun xa xc W (hW : Below w.heap.size w W) (hP : PeersAt W W.heap.size xa (Cf.rawC l).ps.length (Cf.rawC l).ps) hcap => conf_Check0 (Cf.rawC l) xa xc W hP hcap s1 s3 s4 (hM.below hW))
  have F7 := Lib.hid (fun xa xc key W (hP : PeersAt W W.heap.size xa (Cf.rawC l).ps.length (Cf.rawC l).ps) => conf_Find (Cf.rawC l) xa xc key W hP (by unfold maxLen; omega))
  rw [Cf.right_x] at F4
  rw [Cf.rawC_ok l] at F6
  clear h hok hM s1 s3 s4 hnc hm
  unfold confV at H1 F6 F7
  unfold peerV at F4
  generalize Cf.rawC l = X at *
  obtain ⟨ck, cp, ps⟩ := X
  simp only at H1 F1 F2 F6 F7 s2
  simp only [List.length_nil] at F4
  obtain ⟨m, hmm⟩ : ∃ m, m = ps.length := ⟨_, rfl⟩
  rw [← hmm] at H1 F6 F7 s2
  have Hm := Lib.hid hmm
  clear hmm
  go_enter Tryd.func4, Tryd.ntmps4
  go_wp2_with fail
  refine H1.out.mono ?_
  rintro e w1 ⟨⟨xa, xc, rfl, hcap, hat⟩, hb1⟩
  clear H1
  have hw1 := hb1.size
  obtain ⟨w2, hw2⟩ : ∃ w2, w2 = w1.alloc (.cells #[.string ck, .int .i64 cp, .slice xa m xc] 31) := ⟨_, rfl⟩
  have hA2 : Below w1.heap.size w1 w2 := by rw [hw2]; exact (Below.refl _ _).alloc (Nat.le_refl _) _
  have HG := Lib.hid (show Blk w2 w1.heap.size 31 [.string ck, .int .i64 cp, .slice xa m xc] by rw [hw2]; exact Blk.new _ _ _)
  have HB2 := Lib.hid (hb1.trans (hA2.mono hw1))
  have HP2 := Lib.hid (hat.kept hA2)
  have Hcap := Lib.hid hcap
  obtain ⟨bc, hbc⟩ : ∃ bc, bc = w1.heap.size := ⟨_, rfl⟩
  rw [← hbc] at HG
  have g2 := HG.out.cell 2 rfl
  clear hb1 hA2 hat hcap
  go_upto_region 2 with fail
  rw [← hw2, ← hbc]
  clear hw2 hbc hw1
  go_wp2
  go_loopw [15] (fun i wr => ∃ k : Nat, k ≤ m ∧ i = .int .i64 (k : Int) ∧ Hid (Below w2.heap.size w2 wr)) (fun i _ => m - (intOf i).toNat)
  case atStart => exact ⟨0, Nat.zero_le _, rfl, Lib.hid (Below.refl _ _)⟩
  case round =>
    obtain ⟨k, hk, rfl, HBr⟩ := hrel
    obtain ⟨wo, hwo⟩ : ∃ wo, wo = wr := ⟨_, rfl⟩
    subst hwo
    have hsz := HBr.out.size
    have HBo := Lib.hid (HB2.out.trans (HBr.out.mono HB2.out.size))
    have HGo := Lib.hid (HG.out.kept HBr.out)
    have HPo := Lib.hid (HP2.out.kept HBr.out)
    by_cases hlt : k < m
    · have hll : k < ps.length := by have := Hm.out; omega
      obtain ⟨b, off, rfl, hbl, hc⟩ := (HP2.out.below HBr.out).2 (by omega)
      obtain ⟨c0, c1, c2, c3, xb, cc, c4, hnets⟩ := hc k hll
      obtain ⟨f1, f2⟩ := F1.out k hll
      have HFd0 := fun W hP => F7.out (some ⟨b, off, none⟩) xc ps[k].k W hP
      rw [f1, f2, show ((0 : Nat) : Int) = 0 from rfl] at HFd0
      have HFd := Lib.hid HFd0
      clear hc hnets f1 f2 HFd0
      generalize ps[k] = p at *
      obtain ⟨pk, pps, pe, pv, ns⟩ := p
      simp only at c0 c1 c2 c3 c4 HFd
      generalize ns.length = q at *
      have i1 : (k : Int) < (m : Int) := by omega
      obtain ⟨w5, hw5⟩ : ∃ w5, w5 = wo.alloc (.cells #[.string pk, .string pps, .string pe, .int .i64 pv, .slice xb q cc] 24) := ⟨_, rfl⟩
      have hA5 : Below wo.heap.size wo w5 := by rw [hw5]; exact (Below.refl _ _).alloc (Nat.le_refl _) _
      have HS5 := Lib.hid (show Blk w5 wo.heap.size 24 [.string pk, .string pps, .string pe, .int .i64 pv, .slice xb q cc] by rw [hw5]; exact Blk.new _ _ _)
      have HB5 := Lib.hid (HBr.out.trans (hA5.mono hsz))
      have HP5 := Lib.hid (HPo.out.kept hA5)
      have HG5 := HGo.out.kept hA5
      have s0 := HS5.out.cell 0 rfl
      have g0 := HG5.cell 0 rfl
      have g1 := HG5.cell 1 rfl
      have g2' := HG5.cell 2 rfl
      clear hA5 HG5
      go_upto_region 5 with fail
      rw [← hw5]
      clear hw5 c0 c1 c2 c3 c4 g2
      go_wp2_with fail
      refine (HFd.out w5 HP5.out).mono ?_
      rintro e w6 ⟨rfl, hb6⟩
      have HB6 := Lib.hid (HB5.out.trans (hb6.mono HB5.out.size))
      clear hb6 s0 g0 g1 g2'
      go_wp2
      go_roundw
      case rel => exact ⟨k + 1, by omega, by go_num, HB6⟩
      case measure => simp [intOf]; omega
    · obtain rfl : k = m := by omega
      have HFd0 := F7.out xa xc ⟨#[110, 111, 110, 101]⟩ wo HPo.out
      rw [F2.out, show ((5 : Nat) : Int) = 5 from rfl] at HFd0
      have HFd := Lib.hid HFd0
      have g0 := HGo.out.cell 0 rfl
      have g1 := HGo.out.cell 1 rfl
      have g2' := HGo.out.cell 2 rfl
      clear HFd0 g2
      go_wp2_with fail
      refine HFd.out.mono ?_
      rintro e w6 ⟨rfl, hb6⟩
      have HB6 := Lib.hid (HBo.out.trans (hb6.mono HBo.out.size))
      have HP6 := Lib.hid (HPo.out.kept hb6)
      have HG6 := Lib.hid (HGo.out.kept hb6)
      clear hb6 g0 g1 g2'
      go_wp2_with fail
      refine (F4.out w6 HB6.out).mono ?_
      rintro e w7 ⟨rfl, hb7⟩
      have HB7 := Lib.hid (HB6.out.trans (hb7.mono HB6.out.size))
      have HP7 := Lib.hid (HP6.out.kept hb7)
      have HG7 := HG6.out.kept hb7
      have g0 := HG7.cell 0 rfl
      have g1 := HG7.cell 1 rfl
      have g2' := HG7.cell 2 rfl
      clear hb7 HG7
      go_wp2_with fail
      refine (F6.out xa xc w7 HB7.out HP7.out Hcap.out).mono ?_
      rintro e w8 ⟨rfl, hb8⟩
      have HB8 := Lib.hid (HB7.out.trans (hb8.mono HB7.out.size))
      clear hb8
      go_wp2
      go_ret
      exact ⟨rfl, HB8.out⟩
end Go.Proofs.YtjdflnnpamjjcaaDoor

namespace Go.Proofs.YtjdflnnpamjjcaaDoor
open Go.ChangeShapes Go.WideShapes Go.ChangeAt Go.RowKit

theorem max_of_shaped {W : World} (h : W.ShapedOpen Tryd.prog) : MaxTab W := Tryd.laysM145.s1_3 W h
abbrev laid2 : List (String × DataW Unit) := [("unicode/utf8.acceptRanges", Rows.laid_unicode_utf8_acceptRanges), ("unicode/utf8.first", Rows.laid_unicode_utf8_first)]
theorem tabs2 {W : World} (_ : laidMetH Tryd.prog laid2 W) (hs : W.ShapedOpen Tryd.prog) : MaxTab W := max_of_shaped hs
/-- The cells of a datum. -/
def flat : Nat → DataW Unit → List Value
  | n + 1, .agg ps => ps.flatMap (flat n)
  | _, .lit (.int k z) => [.int k z]
  | _, _ => []
/-- A block's cells anew. -/
def put (vs : List Value) : Obj → Obj
  | .cells _ t frozen => .cells vs.toArray t frozen
  | o => o
/-- A WORLD FOR THE WITNESS: the settled one, the listed variables holding what their initialisers lay. -/
noncomputable def laidWorld (os : Os) : World :=
  let w0 := World.holding Tryd.prog os ⟨#[], #[], []⟩
  let h1 := w0.heap.modify 5 (put (flat 4 Rows.laid_unicode_utf8_acceptRanges))
  let h2 := h1.modify 4 (put (flat 4 Rows.laid_unicode_utf8_first))
  { w0 with heap := h2 }
theorem laid2_met (os : Os) (args : Array Value) : laidMet Tryd.prog laid2 ((laidWorld os).forCall (fun _ _ => 0) ⟨#[], args, []⟩).memory :=
  laidMet_of_run3 300 (by kernel_rfl) (by kernel_rfl) (by kernel_rfl)
end Go.Proofs.YtjdflnnpamjjcaaDoor
