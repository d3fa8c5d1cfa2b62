/- The contract of the reference's PeerFault. -/
import Derived.Test.YtjdflnnpamjjcaaDoorNetMem
import Derived.Laws.StructEq
import Derived.Test.YtjdflnnpamjjcaaDoorConfMem
import Derived.Test.YtjdflnnpamjjcaaDoorConfPlain3
import Derived.Test.YtjdflnnpamjjcaaDoorConfArgs
import Derived.Test.YtjdflnnpamjjcaaDoorStructMem
import Derived.Test.YtjdflnnpamjjcaaDoorBatchBits
import Derived.Test.YtjdflnnpamjjcaaDoorTextEq
import Derived.Test.YtjdflnnpamjjcaaDoorRefZeros
import Derived.Test.YtjdflnnpamjjcaaDoorSd01
import Derived.Test.YtjdflnnpamjjcaaDoorAddrRef4
import Derived.Test.YtjdflnnpamjjcaaDoorNumTabs
import Derived.Deep.RegionHeld3
import Derived.Deep.DeepCutAuto
import Derived.BigQuiet
import Derived.Laws.BitsLemmas
namespace Go.Proofs.YtjdflnnpamjjcaaDoor
open Go.RowKit

theorem order_cases (a : Nat) (b : Int) (c : Nat) (d : Int) : (a < c ∧ Nt.order a b c d = -1) ∨ (a = c ∧ b < d ∧ Nt.order a b c d = -1) ∨ (a = c ∧ b = d ∧ Nt.order a b c d = 0) ∨ (a = c ∧ d < b ∧ Nt.order a b c d = 1) ∨ (c < a ∧ Nt.order a b c d = 1) := by
  unfold Nt.order
  by_cases h1 : a < c
  · rw [if_pos (.inl h1)]; exact .inl ⟨h1, rfl⟩
  · by_cases h2 : a = c
    · by_cases h3 : b < d
      · rw [if_pos (.inr ⟨h2, h3⟩)]; exact .inr (.inl ⟨h2, h3, rfl⟩)
      · rw [if_neg (by omega)]
        by_cases h4 : b = d
        · rw [if_pos ⟨h2, h4⟩]; exact .inr (.inr (.inl ⟨h2, h4, rfl⟩))
        · rw [if_neg (by omega)]; exact .inr (.inr (.inr (.inl ⟨h2, by omega, rfl⟩)))
    · rw [if_neg (by omega), if_neg (by omega)]; exact .inr (.inr (.inr (.inr ⟨by omega, rfl⟩)))
set_option maxHeartbeats 800000 in
theorem ref_NetOrder (a : Nat) (b : Int) (c : Nat) (d : Int) (w : World) :
    Calls Tryd.prog 18 #[netV a b, netV c d] w fun e w' => e = .returned (.int .i64 (Nt.order a b c d)) ∧ Below w.heap.size w w' := by
  have h2 := two_nets w (.int .u32 (a : Int)) (.int .i64 b) (.int .u32 (c : Int)) (.int .i64 d)
  have hA := h2.1
  clear h2
  unfold netV
  rcases order_cases a b c d with ⟨h, hr⟩ | ⟨rfl, h, hr⟩ | ⟨rfl, rfl, hr⟩ | ⟨rfl, h, hr⟩ | ⟨h, hr⟩
  · have Hr := Lib.hid hr
    clear hr
    have q1 : decide ((a : Int) < (c : Int)) = true := decide_eq_true (by omega)
    go_enter Tryd.func18, Tryd.ntmps18
    go_wp2
    go_ret
    exact ⟨by rw [Hr.out]; rfl, hA⟩
  · have Hr := Lib.hid hr
    clear hr
    have q2 : decide (b < d) = true := decide_eq_true h
    go_enter Tryd.func18, Tryd.ntmps18
    go_wp2
    go_ret
    exact ⟨by rw [Hr.out]; rfl, hA⟩
  · have Hr := Lib.hid hr
    clear hr
    go_enter Tryd.func18, Tryd.ntmps18
    go_wp2
    go_ret
    exact ⟨by rw [Hr.out]; rfl, hA⟩
  · have Hr := Lib.hid hr
    clear hr
    have q2 : decide (b < d) = false := decide_eq_false (by omega)
    have q3 : (b == d) = false := by simp; omega
    go_enter Tryd.func18, Tryd.ntmps18
    go_wp2
    go_ret
    exact ⟨by rw [Hr.out]; rfl, hA⟩
  · have Hr := Lib.hid hr
    clear hr
    have q1 : decide ((a : Int) < (c : Int)) = false := decide_eq_false (by omega)
    have q3 : ((a : Int) == (c : Int)) = false := by simp; omega
    go_enter Tryd.func18, Tryd.ntmps18
    go_wp2
    go_ret
    exact ⟨by rw [Hr.out]; rfl, hA⟩
end Go.Proofs.YtjdflnnpamjjcaaDoor

namespace Go.Proofs.YtjdflnnpamjjcaaDoor
open Go.RowKit

set_option maxRecDepth 20000 in
set_option maxHeartbeats 16000000 in
theorem ref_PeerFault (p : Cf.P) (a : Option Addr) (c : Nat) (w : World) (h : NetsAt w w.heap.size a p.ns.length p.ns) (hs : PeerSmall p) (hb : ∀ n ∈ p.ns, NetBounds n) (hT : AllTabs w) :
    Calls Tryd.prog 6 #[peerV p a c] w fun e w' => e = .returned (.int .i64 (Cf.right p : Int)) ∧ Below w.heap.size w w' := by
  have R1 := Lib.hid (fun h => Cf.right_key (p := p) h)
  have R2 := Lib.hid (fun h1 h2 h3 => Cf.right_shared (p := p) h1 h2 h3)
  have R3 := Lib.hid (fun h1 h2 h3 => Cf.right_zeros (p := p) h1 h2 h3)
  have R4 := Lib.hid (fun h1 h2 h3 => Cf.right_end (p := p) h1 h2 h3)
  have R5 := Lib.hid (fun h1 h2 h3 => Cf.right_alive (p := p) h1 h2 h3)
  have R6 := Lib.hid (fun h1 h2 h3 h4 => Cf.right_many (p := p) h1 h2 h3 h4)
  have R7 := Lib.hid (fun h1 h2 h3 h4 => Cf.right_nets (p := p) h1 h2 h3 h4)
  obtain ⟨R, hR⟩ : ∃ R, R = Cf.right p := ⟨_, rfl⟩
  rw [← hR] at R1 R2 R3 R4 R5 R6 R7 ⊢
  clear hR
  have HK := Lib.hid (fun W => ref_HexFault p.k W (by have := hs.1; unfold maxLen; omega))
  have HS := Lib.hid (fun W => ref_HexFault p.s W (by have := hs.2.1; unfold maxLen; omega))
  have HE := Lib.hid (fun W (hW : Below w.heap.size w W) => ref_EndOf p.e W hs.2.2 (hT.1.below hW) (hT.2.1.below hW) (hT.2.2.below hW))
  have HF := Lib.hid (fun (n : Nat × Int) (hn : n ∈ p.ns) W => ref_NetFault n.1 n.2 W (hb n hn).1)
  unfold Cf.sOk at R4 R5 R6 R7
  obtain ⟨pk, ps, pe, pv, ns⟩ := p
  simp only at h hs hb R1 R2 R3 R4 R5 R6 R7 HK HS HE HF
  have H := Lib.hid h
  obtain ⟨n, hn⟩ : ∃ n, n = ns.length := ⟨_, rfl⟩
  unfold peerV
  simp only
  rw [← hn] at H R6 R7 ⊢
  have Hn := Lib.hid hn
  clear h hs hb hT hn
  have e1 : Cf.keyErr pk = Hx.checkErr pk.data.toList := rfl
  have e2 : Cf.keyErr ps = Hx.checkErr ps.data.toList := rfl
  have e3 : Cf.endErr pe = Ad.endErr pe.data.toList := rfl
  rw [e1, e2] at R2 R3
  rw [e1] at R1
  rw [e1, e2, e3] at R4 R5 
  rw [e1, e2, e3] at R7
  rw [e1, e2, e3] at R6
  clear e1 e2 e3
  generalize Hx.checkErr pk.data.toList = rk at *
  generalize Hx.checkErr ps.data.toList = rs at *
  generalize Ad.endErr pe.data.toList = re at *
  generalize Ad.endAddr pe.data.toList = re1 at *
  generalize Ad.endPort pe.data.toList = re2 at *
  obtain ⟨w1, hw1⟩ : ∃ w1, w1 = w.alloc (.cells #[.string pk, .string ps, .string pe, .int .i64 pv, .slice a n c] 24) := ⟨_, rfl⟩
  have HA := Lib.hid (show Below w.heap.size w w1 by rw [hw1]; exact (Below.refl _ _).alloc (Nat.le_refl _) _)
  have HG := Lib.hid (show Blk w1 w.heap.size 24 [.string pk, .string ps, .string pe, .int .i64 pv, .slice a n c] by rw [hw1]; exact Blk.new _ _ _)
  obtain ⟨q, hq⟩ : ∃ q : Bool, q = decide (ps.size ≠ 0 ∧ rs ≠ 0) := ⟨_, rfl⟩
  have HQ := Lib.hid hq
  obtain ⟨q2, hq2⟩ : ∃ q2 : Bool, q2 = decide (pe.size ≠ 0 ∧ re ≠ 0) := ⟨_, rfl⟩
  have HQ2 := Lib.hid hq2
  have HZ := Lib.hid (fun W => ref_zeros W)
  have HO := Lib.hid (fun (x y : Nat × Int) W => ref_NetOrder x.1 x.2 y.1 y.2 W)
  clear hq hq2
  go_enter Tryd.func6, Tryd.ntmps6
  go_wp2_with fail
  rw [← hw1]
  clear hw1
  refine (HK.out w1).mono ?_
  rintro e w2 ⟨rfl, hb2⟩
  have HG2 := Lib.hid (HG.out.kept hb2)
  have HA2 := Lib.hid (HA.out.trans (hb2.mono HA.out.size))
  clear hb2 HG HA HK
  by_cases h1 : rk = 0
  rotate_left
  · have hn1 : ((rk : Int) != 0) = true := by simpa using h1
    have Hr := Lib.hid (R1.out h1)
    clear h1
    go_wp2
    go_ret
    exact ⟨by rw [Hr.out]; rfl, HA2.out⟩
  have H1 := Lib.hid h1
  subst h1
  have se := empty_size ps
  obtain ⟨g0, g1, g2, g3, g4⟩ := HG2.out.facts5.1
  go_upto_region 4 with fail
  go_cut [24] (fun v wx => v = .bool q ∧ Hid (Blk wx w.heap.size 24 [.string pk, .string ps, .string pe, .int .i64 pv, .slice a n c] ∧ Below w.heap.size w wx))
  case first =>
    by_cases h0 : ps.size = 0
    · rw [decide_eq_true h0] at se
      have hf : q = false := by rw [HQ.out]; exact decide_eq_false (fun h => h.1 h0)
      have Hf := Lib.hid hf
      clear h0 hf
      go_wp2_with fail
      go_meet
      case rel => exact ⟨congrArg Value.bool Hf.out.symm, Lib.hid ⟨HG2.out, HA2.out⟩⟩
    · rw [decide_eq_false h0] at se
      go_wp2_with fail
      refine (HS.out w2).mono ?_
      rintro e w3 ⟨rfl, hb3⟩
      have HD3 : Hid (Blk w3 w.heap.size 24 [.string pk, .string ps, .string pe, .int .i64 pv, .slice a n c] ∧ Below w.heap.size w w3) := Lib.hid ⟨HG2.out.kept hb3, HA2.out.trans (hb3.mono HA2.out.size)⟩
      clear hb3
      by_cases h2 : rs = 0
      · have Hf : Hid (q = false) := Lib.hid (by rw [HQ.out]; exact decide_eq_false (fun h => h.2 h2))
        have hn2 : ((rs : Int) != 0) = false := by simpa using h2
        clear h0 h2
        go_wp2_with fail
        go_meet
        case rel => exact ⟨congrArg Value.bool Hf.out.symm, HD3⟩
      · have Hf : Hid (q = true) := Lib.hid (by rw [HQ.out]; exact decide_eq_true ⟨h0, h2⟩)
        have hn2 : ((rs : Int) != 0) = true := by simpa using h2
        clear h0 h2
        go_wp2_with fail
        go_meet
        case rel => exact ⟨congrArg Value.bool Hf.out.symm, HD3⟩
  case rest =>
    obtain ⟨rfl, HC⟩ := hcut
    obtain ⟨wb, hwb⟩ : ∃ wb, wb = wc := ⟨_, rfl⟩
    subst hwb
    clear se g0 g1 g2 g3 g4 HG2 HA2
    have HGc := Lib.hid HC.out.1
    have HAc := Lib.hid HC.out.2
    clear HC
    obtain ⟨g0, g1, g2, g3, g4⟩ := HGc.out.facts5.1
    have hgl := HGc.out.lt
    cases q with
    | true =>
      have hq := of_decide_eq_true HQ.out.symm
      have Hr := Lib.hid (R2.out (by trivial) hq.1 hq.2)
      clear hq
      go_wp2_with fail
      refine (HS.out wb).mono ?_
      rintro e w4 ⟨rfl, hb4⟩
      have HA4 := Lib.hid (HAc.out.trans (hb4.mono HAc.out.size))
      clear hb4
      go_wp2
      go_ret
      exact ⟨by rw [Hr.out]; rfl, HA4.out⟩
    | false =>
      have Hsk : Hid (ps.size = 0 ∨ rs = 0) := Lib.hid (by
        have hq := of_decide_eq_false HQ.out.symm
        by_cases h : ps.size = 0
        · exact .inl h
        · by_cases h' : rs = 0
          · exact .inr h'
          · exact absurd ⟨h, h'⟩ hq)
      have HSS : Hid (∀ W, Below wb.heap.size wb W → W.cell? ⟨w.heap.size, 1, none⟩ = some (.string ps) ∧ Below wb.heap.size wb W) := Lib.hid fun W hW => ⟨(HGc.out.kept hW).cell 1 rfl, hW⟩
      have HZZ : Hid (∀ W, (W.cell? ⟨w.heap.size, 1, none⟩ = some (.string ps) ∧ Below wb.heap.size wb W) → Calls Tryd.prog 15 #[] W fun e W' => e = .returned (.string Bt.zeros) ∧ (W'.cell? ⟨w.heap.size, 1, none⟩ = some (.string ps) ∧ Below wb.heap.size wb W')) :=
        Lib.hid fun W hW => (HZ.out W).mono fun e W' ⟨he, hb⟩ => ⟨he, HSS.out W' (hW.2.trans (hb.mono hW.2.size))⟩
      have Hz3 := Lib.hid (fun hz => R3.out (by trivial) Hsk.out hz)
      have Hzt := text_eq ps Bt.zeros
      have Hzn : Hid ((ps.toList == Bt.zeros.toList) = false → ps ≠ Bt.zeros) := Lib.hid (fun hq e => by rw [e] at hq; simp at hq)
      clear HZ
      generalize Bt.zeros = Z at *
      rcases Hzt with hz | hzq
      · have dz : (ps.toList == Z.toList) = true := by rw [hz]; simp
        have Hr := Lib.hid (Hz3.out hz)
        clear Hz3 Hzn hz
        go_upto_region 6 with fail
        go_region_held3 (fun W => W.cell? ⟨w.heap.size, 1, none⟩ = some (.string ps) ∧ Below wb.heap.size wb W) (first | assumption | (exact ⟨g1, (Below.refl _ _).drew⟩))
          (first | (go_at_call 15; refine (HZZ.out _ (by first | assumption | exact ⟨g1, (Below.refl _ _).drew⟩)).mono ?_; rintro e w5 ⟨rfl, hS5⟩))
        have HB5 := Lib.hid (HAc.out.trans (hS5.2.mono HAc.out.size))
        have HG5 := Lib.hid (HGc.out.kept hS5.2)
        clear hS5 HSS HZZ HGc HAc g0 g1 g2 g3 g4 hgl
        go_wp2
        go_ret
        exact ⟨by rw [Hr.out]; rfl, HB5.out⟩
      · have Hne := Lib.hid (Hzn.out hzq)
        have Q4 := Lib.hid (fun h2 h3 => R4.out (by first | exact ⟨by trivial, Hsk.out, Hne.out⟩ | exact ⟨Hsk.out, Hne.out⟩) h2 h3)
        have Q5 := Lib.hid (fun h2 h3 => R5.out (by first | exact ⟨by trivial, Hsk.out, Hne.out⟩ | exact ⟨Hsk.out, Hne.out⟩) h2 h3)
        have Q6 := Lib.hid (fun h2 h3 h4 => R6.out (by first | exact ⟨by trivial, Hsk.out, Hne.out⟩ | exact ⟨Hsk.out, Hne.out⟩) h2 h3 h4)
        have Q7 := Lib.hid (fun h2 h3 h4 => R7.out (by first | exact ⟨by trivial, Hsk.out, Hne.out⟩ | exact ⟨Hsk.out, Hne.out⟩) h2 h3 h4)
        clear Hz3 Hzn R4 R5 R6 R7 Hne Hsk
        go_upto_region 6 with fail
        go_region_held3 (fun W => W.cell? ⟨w.heap.size, 1, none⟩ = some (.string ps) ∧ Below wb.heap.size wb W) (first | assumption | (exact ⟨g1, (Below.refl _ _).drew⟩))
          (first | (go_at_call 15; refine (HZZ.out _ (by first | assumption | exact ⟨g1, (Below.refl _ _).drew⟩)).mono ?_; rintro e w5 ⟨rfl, hS5⟩))
        have HB5 := Lib.hid (HAc.out.trans (hS5.2.mono HAc.out.size))
        have HG5 := Lib.hid (HGc.out.kept hS5.2)
        clear hS5 HSS HZZ HGc HAc g0 g1 g2 g3 g4 hgl
        obtain ⟨g0, g1, g2, g3, g4⟩ := HG5.out.facts5.1
        have pe0 := empty_size pe
        go_wp2_with fail
        refine (HE.out w5 HB5.out).mono ?_
        rintro e w6 ⟨rfl, hb6⟩
        have HG6 := Lib.hid (HG5.out.kept hb6)
        have HB6 := Lib.hid (HB5.out.trans (hb6.mono HB5.out.size))
        clear hb6 g0 g1 g2 g3 g4 HG5 HB5
        obtain ⟨g0, g1, g2, g3, g4⟩ := HG6.out.facts5.1
        go_upto_region 9 with fail
        go_cut [45] (fun v wx => v = .bool q2 ∧ Hid (Blk wx w.heap.size 24 [.string pk, .string ps, .string pe, .int .i64 pv, .slice a n c] ∧ Below w.heap.size w wx))
        case first =>
          by_cases h0 : pe.size = 0
          · rw [decide_eq_true h0] at pe0
            have Hf : Hid (q2 = false) := Lib.hid (by rw [HQ2.out]; exact decide_eq_false (fun h => h.1 h0))
            clear h0
            go_wp2_with fail
            go_meet
            case rel => exact ⟨congrArg Value.bool Hf.out.symm, Lib.hid ⟨HG6.out, HB6.out⟩⟩
          · rw [decide_eq_false h0] at pe0
            by_cases h2 : re = 0
            · have Hf : Hid (q2 = false) := Lib.hid (by rw [HQ2.out]; exact decide_eq_false (fun h => h.2 h2))
              have hn2 : ((re : Int) != 0) = false := by simpa using h2
              clear h0 h2
              go_wp2_with fail
              go_meet
              case rel => exact ⟨congrArg Value.bool Hf.out.symm, Lib.hid ⟨HG6.out, HB6.out⟩⟩
            · have Hf : Hid (q2 = true) := Lib.hid (by rw [HQ2.out]; exact decide_eq_true ⟨h0, h2⟩)
              have hn2 : ((re : Int) != 0) = true := by simpa using h2
              clear h0 h2
              go_wp2_with fail
              go_meet
              case rel => exact ⟨congrArg Value.bool Hf.out.symm, Lib.hid ⟨HG6.out, HB6.out⟩⟩
        case rest =>
          obtain ⟨rfl, HC⟩ := hcut
          clear pe0 g0 g1 g2 g3 g4 HG6 HB6
          have HGc := Lib.hid HC.out.1
          have HAc := Lib.hid HC.out.2
          clear HC
          cases q2 with
          | true =>
            have hq := of_decide_eq_true HQ2.out.symm
            have Hr := Lib.hid (Q4.out hq.1 hq.2)
            clear hq
            go_wp2
            go_ret
            exact ⟨by rw [Hr.out]; rfl, HAc.out⟩
          | false =>
            have Hek : Hid (pe.size = 0 ∨ re = 0) := Lib.hid (by
              have hq := of_decide_eq_false HQ2.out.symm
              by_cases h : pe.size = 0
              · exact .inl h
              · by_cases h' : re = 0
                · exact .inr h'
                · exact absurd ⟨h, h'⟩ hq)
            obtain ⟨g0, g1, g2, g3, g4⟩ := HGc.out.facts5.1
            clear Q4
            by_cases hv1 : pv < 0
            · have d1 : decide (pv < 0) = true := decide_eq_true hv1
              have Hr := Lib.hid (Q5.out Hek.out (.inl hv1))
              clear hv1
              go_wp2
              go_ret
              exact ⟨by rw [Hr.out]; rfl, HAc.out⟩
            have d1 : decide (pv < 0) = false := decide_eq_false hv1
            by_cases hv2 : 65535 < pv
            · have d2 : decide (65535 < pv) = true := decide_eq_true hv2
              have Hr := Lib.hid (Q5.out Hek.out (.inr hv2))
              clear hv1 hv2
              go_wp2
              go_ret
              exact ⟨by rw [Hr.out]; rfl, HAc.out⟩
            have d2 : decide (65535 < pv) = false := decide_eq_false hv2
            by_cases hn8 : 8 < n
            · have d3 : (8 : Int) < (n : Int) := by omega
              have Hr := Lib.hid (Q6.out Hek.out (by omega) hn8)
              clear hv1 hv2
              go_wp2
              go_ret
              exact ⟨by rw [Hr.out]; rfl, HAc.out⟩
            have d3 : ¬ (8 : Int) < (n : Int) := by omega
            have d4 : decide ((8 : Int) < (n : Int)) = false := decide_eq_false d3
            have Hr0 := Lib.hid (Q7.out Hek.out (by omega) (by omega))
            have hn9 : n ≤ 8 := by omega
            clear hv1 hv2 Q5 Q6 Q7 hn8
            obtain ⟨w6, hw6⟩ : ∃ w6, w6 = wc := ⟨_, rfl⟩
            subst hw6
            go_wp2
            unfold netV at HF HO
            go_loopw [62] (fun i wr => ∃ j : Nat, j ≤ n ∧ i = .int .i64 (j : Int) ∧ Hid (R = Cf.from_ ns j) ∧ Hid (Below w6.heap.size w6 wr)) (fun i _ => n - (intOf i).toNat)
            case atStart => exact ⟨0, Nat.zero_le _, rfl, Hr0, Lib.hid (Below.refl _ _)⟩
            case round =>
              obtain ⟨j, hj, rfl, Ha, HBr⟩ := hrel
              obtain ⟨wo, hwo⟩ : ∃ wo, wo = wr := ⟨_, rfl⟩
              subst hwo
              have HBo := Lib.hid (HAc.out.trans (HBr.out.mono HAc.out.size))
              have hsz := HBo.out.size
              by_cases hlt : j < n
              · have hll : j < ns.length := by have := Hn.out; omega
                obtain ⟨b, off, rfl, hbl, hc⟩ := (H.out.below HBo.out).2 (by omega)
                obtain ⟨c0, c1⟩ := hc j hll
                have HF1 := Lib.hid (fun W => HF.out ns[j] (List.getElem_mem hll) W)
                have Hbad := Lib.hid (fun he => Cf.from_bad hll he)
                have Hone : Hid (j = 0 → Nt.err ns[j].1 ns[j].2 = 0 → Cf.from_ ns j = Cf.from_ ns (j + 1)) := Lib.hid (fun h0 he => by subst h0; exact Cf.from_first hll he)
                have Hord : Hid (∀ h0 : 0 < j, ∃ q : Nat × Int, wo.cell? ⟨b, off + (j - 1) * 2, none⟩ = some (.int .u32 (q.1 : Int)) ∧ wo.cell? ⟨b, off + (j - 1) * 2 + 1, none⟩ = some (.int .i64 q.2) ∧ (Nt.err ns[j].1 ns[j].2 = 0 → Nt.order ns[j].1 ns[j].2 q.1 q.2 = 1 → Cf.from_ ns j = Cf.from_ ns (j + 1)) ∧ (Nt.err ns[j].1 ns[j].2 = 0 → Nt.order ns[j].1 ns[j].2 q.1 q.2 ≠ 1 → Cf.from_ ns j = 6)) :=
                  Lib.hid (fun h0 => ⟨ns[j - 1], (hc (j - 1) (by omega)).1, (hc (j - 1) (by omega)).2, fun he ho => Cf.from_less hll h0 he ho, fun he ho => Cf.from_twice hll h0 he ho⟩)
                clear hc
                generalize ns[j] = x at *
                obtain ⟨na, nb⟩ := x
                simp only at c0 c1 HF1 Hbad Hone Hord
                obtain ⟨w7, hw7⟩ : ∃ w7, w7 = wo.alloc (.cells #[.int .u32 (na : Int), .int .i64 nb] 44) := ⟨_, rfl⟩
                have hA7 : Below wo.heap.size wo w7 := by rw [hw7]; exact (Below.refl _ _).alloc (Nat.le_refl _) _
                have HM7 := Lib.hid (show Blk w7 wo.heap.size 44 [.int .u32 (na : Int), .int .i64 nb] by rw [hw7]; exact Blk.new _ _ _)
                have HB7 := Lib.hid (HBr.out.trans (hA7.mono HBr.out.size))
                have HA7 := Lib.hid hA7
                have m0 := HM7.out.cell 0 rfl
                have m1 := HM7.out.cell 1 rfl
                have gw4 := (HGc.out.kept HBr.out).cell 4 rfl
                clear hA7
                go_upto_region 18 with fail
                rw [← hw7]
                clear hw7
                go_wp2_with fail
                refine (HF1.out w7).mono ?_
                rintro e w8 ⟨rfl, hb8⟩
                have HM8 := Lib.hid (HM7.out.kept hb8)
                have HB8 := Lib.hid (HB7.out.trans (hb8.mono HB7.out.size))
                have HA8 := Lib.hid (HA7.out.trans (hb8.mono HA7.out.size))
                have HBf := Lib.hid (HAc.out.trans (HB8.out.mono HAc.out.size))
                clear hb8 m0 m1 HM7 HB7 HA7 c0 c1 gw4
                by_cases hr : Nt.err na nb = 0
                rotate_left
                · have hnr : ((Nt.err na nb : Int) != 0) = true := by simpa using hr
                  have Hr := Lib.hid (Ha.out.trans (Hbad.out hr))
                  clear hr
                  go_wp2
                  go_ret
                  exact ⟨by rw [Hr.out]; rfl, HBf.out⟩
                have HR := Lib.hid hr
                rw [hr]
                clear hr Hbad
                by_cases h0 : j = 0
                · have Hnx := Lib.hid (Ha.out.trans (Hone.out h0 HR.out))
                  have q0 : ¬ 0 < j := by omega
                  have q1 : decide ((0 : Int) < (j : Int)) = false := decide_eq_false (by omega)
                  clear Hone Hord h0
                  go_wp2_with fail
                  go_quiet (fail)
                  go_wp2
                  go_roundw
                  case rel => exact ⟨j + 1, by omega, by go_num, Hnx, Lib.hid (below_drewN HB8.out _)⟩
                  case measure => simp [intOf]; omega
                · obtain ⟨i, rfl⟩ : ∃ i, j = i + 1 := ⟨j - 1, by omega⟩
                  obtain ⟨⟨qa, qb⟩, p0, p1, Hless, Htw⟩ := Hord.out (by omega)
                  rw [Nat.add_sub_cancel] at p0 p1
                  simp only at p0 p1 Hless Htw
                  have Hle := Lib.hid (fun h => Ha.out.trans (Hless HR.out h))
                  have Hge := Lib.hid (fun h => Ha.out.trans (Htw HR.out h))
                  have q0 : 0 < i + 1 := by omega
                  have q1 : decide ((0 : Int) < ((i + 1 : Nat) : Int)) = true := decide_eq_true (by omega)
                  have HS8 : Hid (∀ W, Below w8.heap.size w8 W → W.cell? ⟨wo.heap.size, 0, none⟩ = some (.int .u32 (na : Int)) ∧ W.cell? ⟨wo.heap.size, 1, none⟩ = some (.int .i64 nb) ∧ W.cell? ⟨w.heap.size, 4, none⟩ = some (.slice (some ⟨b, off, none⟩) n c) ∧ W.cell? ⟨b, off + i * 2, none⟩ = some (.int .u32 (qa : Int)) ∧ W.cell? ⟨b, off + i * 2 + 1, none⟩ = some (.int .i64 qb) ∧ Below w8.heap.size w8 W) :=
                    Lib.hid fun W hW => by
                      have hWo : Below wo.heap.size wo W := HA8.out.trans (hW.mono HA8.out.size)
                      exact ⟨(HM8.out.kept hW).cell 0 rfl, (HM8.out.kept hW).cell 1 rfl, (HGc.out.kept (HB8.out.trans (hW.mono HB8.out.size))).cell 4 rfl, cell_below hWo p0, cell_below hWo p1, hW⟩
                  have HOO : Hid (∀ W, (W.cell? ⟨wo.heap.size, 0, none⟩ = some (.int .u32 (na : Int)) ∧ W.cell? ⟨wo.heap.size, 1, none⟩ = some (.int .i64 nb) ∧ W.cell? ⟨w.heap.size, 4, none⟩ = some (.slice (some ⟨b, off, none⟩) n c) ∧ W.cell? ⟨b, off + i * 2, none⟩ = some (.int .u32 (qa : Int)) ∧ W.cell? ⟨b, off + i * 2 + 1, none⟩ = some (.int .i64 qb) ∧ Below w8.heap.size w8 W) →
                      Calls Tryd.prog 18 #[.agg #[.int .u32 (na : Int), .int .i64 nb], .agg #[.int .u32 (qa : Int), .int .i64 qb]] W fun e W' => e = .returned (.int .i64 (Nt.order na nb qa qb)) ∧ (W'.cell? ⟨wo.heap.size, 0, none⟩ = some (.int .u32 (na : Int)) ∧ W'.cell? ⟨wo.heap.size, 1, none⟩ = some (.int .i64 nb) ∧ W'.cell? ⟨w.heap.size, 4, none⟩ = some (.slice (some ⟨b, off, none⟩) n c) ∧ W'.cell? ⟨b, off + i * 2, none⟩ = some (.int .u32 (qa : Int)) ∧ W'.cell? ⟨b, off + i * 2 + 1, none⟩ = some (.int .i64 qb) ∧ Below w8.heap.size w8 W')) :=
                    Lib.hid fun W hW => (HO.out (na, nb) (qa, qb) W).mono fun e W' ⟨he, hb⟩ => ⟨he, HS8.out W' (hW.2.2.2.2.2.trans (hb.mono hW.2.2.2.2.2.size))⟩
                  obtain ⟨y0, y1, y2, y3, y4, _⟩ := HS8.out w8 (Below.refl _ _)
                  clear p0 p1 Hless Htw Hone Hord
                  have i2 : (i : Int) < (n : Int) := by omega
                  have i4 : (0 : Int) ≤ (i : Int) := by omega
                  have i5 : (i : Int) ≤ 8 := by omega
                  have i7 : IntKind.i64.wrap (((i + 1 : Nat) : Int) - 1) = (i : Int) := by rw [IntKind.wrap_i64]; omega
                  have i8 : IntKind.i64.wrap ((i : Int) + 1 - 1) = (i : Int) := by rw [IntKind.wrap_i64]; omega
                  have i9 : IntKind.i64.wrap (i : Int) = (i : Int) := by rw [IntKind.wrap_i64]; omega
                  have i3 : ((i + 1 : Nat) : Int) - 1 = (i : Int) := by omega
                  generalize Nt.order na nb qa qb = od at *
                  by_cases ho : od = 1
                  · have ho1 : (od != 1) = false := by simpa using ho
                    have Hnx := Lib.hid (Hle.out ho)
                    clear ho Hle Hge
                    go_upto_region 21 with fail
                    go_region_held3 (fun W => W.cell? ⟨wo.heap.size, 0, none⟩ = some (.int .u32 (na : Int)) ∧ W.cell? ⟨wo.heap.size, 1, none⟩ = some (.int .i64 nb) ∧ W.cell? ⟨w.heap.size, 4, none⟩ = some (.slice (some ⟨b, off, none⟩) n c) ∧ W.cell? ⟨b, off + i * 2, none⟩ = some (.int .u32 (qa : Int)) ∧ W.cell? ⟨b, off + i * 2 + 1, none⟩ = some (.int .i64 qb) ∧ Below w8.heap.size w8 W) (first | assumption | (exact ⟨y0, y1, y2, y3, y4, (Below.refl _ _).drew⟩))
                      (first | (go_at_call 18; refine (HOO.out _ (by first | assumption | exact ⟨y0, y1, y2, y3, y4, (Below.refl _ _).drew⟩)).mono ?_; rintro e w9 ⟨rfl, hS9⟩))
                    have HB9 := Lib.hid (HB8.out.trans (hS9.2.2.2.2.2.mono HB8.out.size))
                    clear hS9 y0 y1 y2 y3 y4
                    go_wp2
                    go_roundw
                    case rel => exact ⟨i + 1 + 1, by omega, by go_num, Hnx, HB9⟩
                    case measure => simp [intOf]; omega
                  · have ho1 : (od != 1) = true := by simpa using ho
                    have Hnx := Lib.hid (Hge.out ho)
                    clear ho Hle Hge
                    go_upto_region 21 with fail
                    go_region_held3 (fun W => W.cell? ⟨wo.heap.size, 0, none⟩ = some (.int .u32 (na : Int)) ∧ W.cell? ⟨wo.heap.size, 1, none⟩ = some (.int .i64 nb) ∧ W.cell? ⟨w.heap.size, 4, none⟩ = some (.slice (some ⟨b, off, none⟩) n c) ∧ W.cell? ⟨b, off + i * 2, none⟩ = some (.int .u32 (qa : Int)) ∧ W.cell? ⟨b, off + i * 2 + 1, none⟩ = some (.int .i64 qb) ∧ Below w8.heap.size w8 W) (first | assumption | (exact ⟨y0, y1, y2, y3, y4, (Below.refl _ _).drew⟩))
                      (first | (go_at_call 18; refine (HOO.out _ (by first | assumption | exact ⟨y0, y1, y2, y3, y4, (Below.refl _ _).drew⟩)).mono ?_; rintro e w9 ⟨rfl, hS9⟩))
                    have HB9 := Lib.hid (HB8.out.trans (hS9.2.2.2.2.2.mono HB8.out.size))
                    have HBg := Lib.hid (HAc.out.trans (HB9.out.mono HAc.out.size))
                    clear hS9 y0 y1 y2 y3 y4
                    go_wp2
                    go_ret
                    exact ⟨by rw [Hnx.out]; rfl, HBg.out⟩
              · obtain rfl : j = n := by omega
                have Hr := Lib.hid (Ha.out.trans (Cf.from_end ns j (by have := Hn.out; omega)))
                go_wp2
                go_ret
                exact ⟨by rw [Hr.out]; rfl, HBo.out⟩
end Go.Proofs.YtjdflnnpamjjcaaDoor
