/- The contract of the landed code's Right (P13.1). -/
import Derived.Test.YtjdflnnpamjjcaaDoorConfCode1
import Derived.Test.YtjdflnnpamjjcaaDoorConfMem
namespace Go.Proofs.YtjdflnnpamjjcaaDoor
open Go.RowKit

set_option maxRecDepth 20000 in
set_option maxHeartbeats 8000000 in
theorem conf_Right (p : Cf.P) (a : Option Addr) (c : Nat) (w : World) (h : NetsAt w w.heap.size a p.ns.length p.ns) (hs : PeerSmall p) (hb : ∀ n ∈ p.ns, NetBounds n) (hm : p.ns.length ≤ maxLen) (hC : CodeTabs w) :
    Calls Tryd.prog 5 #[peerV p a c] w fun e w' => e = .returned (.int .i64 (Cf.right p : Int)) ∧ Below w.heap.size w w' := by
  have HK := Lib.hid (fun W => hex_Check p.k W (by have := hs.1; unfold maxLen; omega))
  have HS := Lib.hid (fun W => conf_checkShared p.s W (by have := hs.2.1; unfold maxLen; omega))
  have HE := Lib.hid (fun W (hW : Below w.heap.size w W) => conf_checkEndpoint p.e W hs.2.2 (hC.below hW))
  have HN := Lib.hid (fun W (hW : Below w.heap.size w W) => conf_checkNets a c p.ns W ((h.below hW).more hW.size) hb hm)
  have e1 : Cf.keyErr p.k = Hx.checkErr p.k.data.toList := rfl
  have HR := Lib.hid (Cf.right_code p)
  rw [e1] at HR
  obtain ⟨R, hR⟩ : ∃ R, R = Cf.right p := ⟨_, rfl⟩
  rw [← hR] at HR ⊢
  clear hR e1 h hs hb hm hC
  obtain ⟨pk, ps, pe, pv, ns⟩ := p
  unfold peerV
  simp only at HK HS HE HN HR ⊢
  generalize Hx.checkErr pk.data.toList = rk at *
  generalize Cf.sErr ps = rs at *
  generalize Cf.eErr pe = re at *
  generalize Cf.nErr ns = rn at *
  generalize ns.length = n at *
  obtain ⟨w1, hw1⟩ : ∃ w1, w1 = w.alloc (.cells #[.string pk, .string ps, .string pe, .int .i64 pv, .slice a n c] 24) := ⟨_, rfl⟩
  have HA := Lib.hid (show Below w.heap.size w w1 by rw [hw1]; exact (Below.refl _ _).alloc (Nat.le_refl _) _)
  have HG := Lib.hid (show Blk w1 w.heap.size 24 [.string pk, .string ps, .string pe, .int .i64 pv, .slice a n c] by rw [hw1]; exact Blk.new _ _ _)
  obtain ⟨g0, g1, g2, g3, g4⟩ := HG.out.facts5.1
  go_enter Tryd.func5, Tryd.ntmps5
  go_wp2_with fail
  rw [← hw1]
  clear hw1
  refine (HK.out w1).mono ?_
  rintro e w2 ⟨rfl, rfl⟩
  clear HK
  by_cases h1 : rk = 0
  rotate_left
  · have hn1 : ((rk : Int) != 0) = true := by simpa using h1
    have Hr : Hid (R = rk) := Lib.hid (by rw [HR.out, if_pos h1])
    clear h1
    go_wp2
    go_ret
    exact ⟨by rw [Hr.out]; rfl, HA.out⟩
  have HR1 := Lib.hid (show R = _ by rw [HR.out, if_neg (fun hn => hn h1)])
  subst h1
  clear HR
  go_wp2_with fail
  refine (HS.out w1).mono ?_
  rintro e w2 ⟨rfl, rfl⟩
  clear HS
  by_cases h2 : rs = 0
  rotate_left
  · have hn1 : ((rs : Int) != 0) = true := by simpa using h2
    have Hr : Hid (R = rs) := Lib.hid (by rw [HR1.out, if_pos h2])
    clear h2
    go_wp2
    go_ret
    exact ⟨by rw [Hr.out]; rfl, HA.out⟩
  have HR2 := Lib.hid (show R = _ by rw [HR1.out, if_neg (fun hn => hn h2)])
  subst h2
  clear HR1
  go_wp2_with fail
  refine (HE.out w1 HA.out).mono ?_
  rintro e w2 ⟨rfl, hb2⟩
  have HG2 := Lib.hid (HG.out.kept hb2)
  have HA2 := Lib.hid (HA.out.trans (hb2.mono HA.out.size))
  clear HE hb2 g0 g1 g2 g3 g4 HG HA
  obtain ⟨g0, g1, g2, g3, g4⟩ := HG2.out.facts5.1
  by_cases h3 : re = 0
  rotate_left
  · have hn1 : ((re : Int) != 0) = true := by simpa using h3
    have Hr : Hid (R = re) := Lib.hid (by rw [HR2.out, if_pos h3])
    clear h3
    go_wp2
    go_ret
    exact ⟨by rw [Hr.out]; rfl, HA2.out⟩
  have HR3 := Lib.hid (show R = _ by rw [HR2.out, if_neg (fun hn => hn h3)])
  subst h3
  clear HR2
  by_cases hv1 : pv < 0
  · have d1 : decide (pv < 0) = true := decide_eq_true hv1
    have Hr : Hid (R = 4) := Lib.hid (by rw [HR3.out, if_pos (.inl hv1)])
    clear hv1
    go_wp2
    go_ret
    exact ⟨by rw [Hr.out]; rfl, HA2.out⟩
  have d1 : decide (pv < 0) = false := decide_eq_false hv1
  by_cases hv2 : 65535 < pv
  · have d2 : decide (65535 < pv) = true := decide_eq_true hv2
    have Hr : Hid (R = 4) := Lib.hid (by rw [HR3.out, if_pos (.inr hv2)])
    clear hv1 hv2
    go_wp2
    go_ret
    exact ⟨by rw [Hr.out]; rfl, HA2.out⟩
  have d2 : decide (65535 < pv) = false := decide_eq_false hv2
  have Hr : Hid (R = rn) := Lib.hid (by rw [HR3.out, if_neg (by omega)])
  clear hv1 hv2 HR3
  go_wp2_with fail
  refine (HN.out w2 HA2.out).mono ?_
  rintro e w3 ⟨rfl, hb3⟩
  have HA3 := Lib.hid (HA2.out.trans (hb3.mono HA2.out.size))
  clear hb3
  go_wp2
  go_ret
  exact ⟨by rw [Hr.out]; rfl, HA3.out⟩
end Go.Proofs.YtjdflnnpamjjcaaDoor
