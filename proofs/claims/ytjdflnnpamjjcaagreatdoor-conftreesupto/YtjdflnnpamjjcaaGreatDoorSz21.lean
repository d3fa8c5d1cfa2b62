/- The walk of ConfTrees. -/
import Derived.Test.YtjdflnnpamjjcaaGreatDoorSz08
import Derived.Test.YtjdflnnpamjjcaaGreatDoorSz17
import Derived.Test.YtjdflnnpamjjcaaGreatDoorSz20
import Derived.Test.YtjdflnnpamjjcaaGreatDoorSz15
import Derived.Test.YtjdflnnpamjjcaaGreatDoorSz19
import Derived.Test.YtjdflnnpamjjcaaGreatDoorSz10
import Derived.SizedLaws
namespace Go.Proofs.YtjdflnnpamjjcaaGreatDoor
open Go.RowKit

set_option maxRecDepth 20000 in
set_option maxHeartbeats 16000000 in
theorem ref_ConfTree (x : Cf.C) (a : Option Addr) (c : Nat) (w : World) (h : PeersAt w w.heap.size a x.ps.length x.ps) (hk : x.k.size ≤ 1048576) (hs : ∀ p ∈ x.ps, PeerSmall p) (hb : ∀ p ∈ x.ps, PeerBounds p) (hT : AllTabs w) :
    Calls Tryz.prog 12 #[confV x a c] w fun e w' => (∃ v, e = .returned (.tuple #[v, .int .i64 (Cf.err x : Int)]) ∧ OwnN w' w.heap.size v (Cf.treeOut x)) ∧ Below w.heap.size w w' := by
  have HF := Lib.hid (fun W (hW : Below w.heap.size w W) => ref_ConfFault x a c W ((h.below hW).more hW.size) hk hs hb (hT.below hW))
  have HO := Lib.hid (fun he => Cf.conf_ok (x := x) he)
  have HT1 : Hid (Cf.err x ≠ 0 → Cf.treeOut x = []) := Lib.hid (fun he => by unfold Cf.treeOut; rw [if_neg he])
  have HT0 : Hid (Cf.err x = 0 → Cf.treeOut x = Tr.grown 33 (Cf.allNodes x.ps)) := Lib.hid (fun he => by unfold Cf.treeOut; rw [if_pos he])
  have Hbd := Lib.hid hb
  obtain ⟨T, hTT⟩ : ∃ T, T = Cf.treeOut x := ⟨_, rfl⟩
  obtain ⟨r, hr⟩ : ∃ r, r = Cf.err x := ⟨_, rfl⟩
  rw [← hTT]
  rw [← hTT] at HT1 HT0
  rw [← hr] at HF HO HT1 HT0 ⊢
  clear hTT hr
  obtain ⟨ck, cp, l⟩ := x
  simp only at h hk hs hb HO HT0 Hbd
  have H := Lib.hid h
  obtain ⟨n, hn⟩ : ∃ n, n = l.length := ⟨_, rfl⟩
  unfold confV at HF ⊢
  simp only at HF ⊢
  rw [← hn] at H HF HO ⊢
  have Hn := Lib.hid hn
  clear h hk hs hb hT hn
  obtain ⟨w1, hw1⟩ : ∃ w1, w1 = w.alloc (.cells #[.string ck, .int .i64 cp, .slice a n c] 24) := ⟨_, rfl⟩
  have HA := Lib.hid (show Below w.heap.size w w1 by rw [hw1]; exact (Below.refl _ _).alloc (Nat.le_refl _) _)
  have HG := Lib.hid (show Blk w1 w.heap.size 24 [.string ck, .int .i64 cp, .slice a n c] by rw [hw1]; exact Blk.new _ _ _)
  go_enter Tryz.func12, Tryz.ntmps12
  go_wp2_with fail
  rw [← hw1]
  clear hw1
  refine (HF.out w1 HA.out).mono ?_
  rintro e w2 ⟨rfl, hb2⟩
  have HG2 := Lib.hid (HG.out.kept hb2)
  have HA2 := Lib.hid (HA.out.trans (hb2.mono HA.out.size))
  clear hb2 HG HA HF
  by_cases h1 : r = 0
  rotate_left
  · have hn1 : ((r : Int) != 0) = true := by simpa using h1
    have Hr := Lib.hid (HT1.out h1)
    clear h1
    go_wp2
    go_ret2
    exact ⟨⟨_, rfl, by rw [Hr.out]; exact OwnN.nil _ _⟩, HA2.out⟩
  subst h1
  obtain ⟨o1, o2⟩ := HO.out (by trivial)
  have hn6 : n ≤ 6 := o1
  have Ho2 := Lib.hid o2
  have Hr0 := Lib.hid (HT0.out (by trivial))
  have g2 := HG2.out.cell 2 rfl
  clear HT1 HT0 HO o1 o2
  go_wp2
  go_loopw [5, 18] (fun v i wr => ∃ k : Nat, k ≤ n ∧ i = .int .i64 (k : Int) ∧ Hid (OwnN wr w.heap.size v (Cf.allNodes (l.take k))) ∧ Hid (Below w.heap.size w wr)) (fun _ i _ => n - (intOf i).toNat)
  case atStart => exact ⟨0, Nat.zero_le _, rfl, Lib.hid (OwnN.nil _ _), HA2⟩
  case round =>
    obtain ⟨k, hk, rfl, HOw, HBo⟩ := hrel
    obtain ⟨wo, hwo⟩ : ∃ wo, wo = wr := ⟨_, rfl⟩
    subst hwo
    have hsz := HBo.out.size
    by_cases hlt : k < n
    · have hll : k < l.length := by have := Hn.out; omega
      obtain ⟨b, off, rfl, hbl, hc⟩ := (H.out.below HBo.out).2 (by omega)
      obtain ⟨c0, c1, c2, c3, xa, cc, c4, hnets⟩ := hc k hll
      have Hpb := Lib.hid ((Hbd.out _ (List.getElem_mem hll)).1)
      have Hro := Lib.hid (Cf.right_ok (Ho2.out _ (List.getElem_mem hll)))
      have F6 := Lib.hid (Cf.all_next l k hll)
      have hlen : (Cf.allNodes (l.take k)).length ≤ 48 := by
        have := Cf.all_small (l := l.take k) (fun p hp => (Cf.right_ok (Ho2.out p (List.mem_of_mem_take hp))).1)
        rw [List.length_take] at this
        omega
      clear hc
      generalize l[k] = p at *
      have HN := Lib.hid hnets
      clear hnets
      generalize Cf.allNodes (l.take k) = M at *
      obtain ⟨pk, ps, pe, pv, ns⟩ := p
      simp only at c0 c1 c2 c3 c4 F6 Hro Hpb HN
      obtain ⟨m, hm⟩ : ∃ m, m = ns.length := ⟨_, rfl⟩
      have Hmn := Lib.hid hm
      rw [← hm] at c4 HN
      have hm8 : m ≤ 8 := by rw [hm]; exact Hro.out.1
      clear hm
      obtain ⟨w5, hw5⟩ : ∃ w5, w5 = wo.alloc (.cells #[.string pk, .string ps, .string pe, .int .i64 pv, .slice xa m cc] 41) := ⟨_, rfl⟩
      have HS5 := Lib.hid (show Blk w5 wo.heap.size 41 [.string pk, .string ps, .string pe, .int .i64 pv, .slice xa m cc] by rw [hw5]; exact Blk.new _ _ _)
      have HB5 := Lib.hid (show Below w.heap.size w w5 by rw [hw5]; exact HBo.out.alloc hsz _)
      have HO5 := Lib.hid (show OwnN w5 w.heap.size _ M by rw [hw5]; exact HOw.out.alloc _)
      have Hap := Lib.hid (fun hv => Nat.lt_irrefl _ (HOw.out.lt wo.heap.size hv).2)
      obtain ⟨⟨s0, s1, s2, s3, s4⟩, -⟩ := HS5.out.facts5
      go_upto_region 8 with fail
      rw [← hw5]
      clear hw5 c0 c1 c2 c3 c4
      go_wp2
      go_loopw [5, 25] (fun v' i wr => ∃ j : Nat, j ≤ m ∧ i = .int .i64 (j : Int) ∧ Hid (OwnN wr w.heap.size v' (M ++ (ns.take j).map (Cf.nodeOf pk))) ∧ Hid (v'.ownBlock ≠ some wo.heap.size) ∧ Hid (Blk wr wo.heap.size 41 [.string pk, .string ps, .string pe, .int .i64 pv, .slice xa m cc]) ∧ Hid (Below w.heap.size w wr)) (fun _ i _ => m - (intOf i).toNat)
      case atStart => exact ⟨0, Nat.zero_le _, rfl, Lib.hid (by simpa using HO5.out), Lib.hid Hap.out, HS5, HB5⟩
      case round =>
        obtain ⟨j, hj, rfl, HOj, Hne, HSj, HBi⟩ := hrel
        obtain ⟨wi, hwi⟩ : ∃ wi, wi = wr := ⟨_, rfl⟩
        subst hwi
        have hsi := HBi.out.size
        have hpl := HSj.out.lt
        by_cases hlt2 : j < m
        · have hjl : j < ns.length := by have := Hmn.out; omega
          obtain ⟨b2, off2, rfl, hb2l, hc2⟩ := HN.out.2 (by omega)
          obtain ⟨d0, d1⟩ := hc2 j hjl
          have hce : ∀ ad : Addr, ad.block < w.heap.size → wi.cell? ad = wo.cell? ad := fun ad h => (HBi.out.cell h).trans (HBo.out.cell h).symm
          have c0 := (hce ⟨b2, off2 + j * 2, none⟩ hb2l).trans d0
          have c1 := (hce ⟨b2, off2 + j * 2 + 1, none⟩ hb2l).trans d1
          have Htk : Hid (M ++ (ns.take (j + 1)).map (Cf.nodeOf pk) = (M ++ (ns.take j).map (Cf.nodeOf pk)) ++ [Cf.nodeOf pk (ns[j]'hjl)]) := Lib.hid (by rw [List.take_succ_eq_append_getElem hjl, List.map_append, List.map_singleton, List.append_assoc])
          have hLl : (M ++ (ns.take j).map (Cf.nodeOf pk)).length ≤ 100 := by
            rw [List.length_append, List.length_map, List.length_take]
            omega
          clear d0 d1 hce hc2
          generalize ns[j]'hjl = x at *
          generalize M ++ (ns.take j).map (Cf.nodeOf pk) = L at *
          obtain ⟨xn, xb⟩ := x
          simp only at c0 c1
          obtain ⟨w7, hw7⟩ : ∃ w7, w7 = wi.alloc (.cells #[.int .u32 (xn : Int), .int .i64 xb] 47) := ⟨_, rfl⟩
          have hA7 : Below wi.heap.size wi w7 := by rw [hw7]; exact (Below.refl _ _).alloc (Nat.le_refl _) _
          have hM7 := show Blk w7 wi.heap.size 47 [.int .u32 (xn : Int), .int .i64 xb] by rw [hw7]; exact Blk.new _ _ _
          have hz7 : wi.heap.size < w7.heap.size := hM7.lt
          have HS7 := Lib.hid (HSj.out.kept hA7)
          have HO7 := Lib.hid (HOj.out.below hA7)
          have HB7 := Lib.hid (HBi.out.trans (hA7.mono hsi))
          have m0 := hM7.cell 0 rfl
          have m1 := hM7.cell 1 rfl
          have p0 := HS7.out.cell 0 rfl
          have Hnw := Lib.hid (nodesAt_new w7 ⟨xn, xb, pk, 1⟩)
          clear hA7 hM7
          go_upto_region 11 with fail
          rw [← hw7]
          clear hw7 c0 c1
          go_wp2_with (at_builtin; refine wpL_append_nodes _ rfl _ _ rfl w.heap.size _ L rfl (HO7.out.alloc _) _ 1 _ [⟨xn, xb, pk, 1⟩] rfl (fun h => by cases h) Hnw.out (by omega) (by simp; omega) ?_)
          intro v' w8 hO8 hgr hat
          have HO8 : Hid (OwnN w8 w.heap.size v' (L ++ [Cf.nodeOf pk (xn, xb)])) := Lib.hid hO8
          rw [← Htk.out] at HO8
          have hb8 := below_grownN (HO7.out.alloc _) hgr (by simp; omega)
          have HB8 := Lib.hid ((HB7.out.alloc (by omega) _).trans hb8)
          have HS8 : Hid (Blk w8 wo.heap.size 41 [.string pk, .string ps, .string pe, .int .i64 pv, .slice (some ⟨b2, off2, none⟩) m cc]) := Lib.hid (by
            have h1 := HS7.out.kept ((Below.refl _ _).alloc (Nat.le_refl _) (.cells #[.int .u32 (xn : Int), .int .i64 xb, .string pk, .int .i64 1] 53))
            exact (hgr.block _ h1.lt (fun e => Hne.out e.symm)).trans h1)
          have Hn8 : Hid (v'.ownBlock ≠ some wo.heap.size) := Lib.hid (by
            rcases hat.out with e | e
            · rw [e]; exact Hne.out
            · rw [e]
              intro e2
              have e3 := Option.some.inj e2
              have e4 : (w7.alloc (.cells #[.int .u32 (xn : Int), .int .i64 xb, .string pk, .int .i64 1] 53)).heap.size = w7.heap.size + 1 := by simp
              omega)
          clear hO8 hgr hat hb8 m0 m1 p0
          go_wp2
          go_roundw
          case rel => exact ⟨j + 1, by omega, by go_num, HO8, Hn8, HS8, HB8⟩
          case measure => simp [intOf]; omega
        · obtain rfl : j = m := by omega
          have htk : ns.take j = ns := List.take_of_length_le (by have := Hmn.out; omega)
          rw [htk, ← F6.out] at HOj
          clear htk
          go_wp2
          go_roundw
          case rel => exact ⟨k + 1, by omega, by go_num, HOj, HBi⟩
          case measure => simp [intOf]; omega
    · obtain rfl : k = n := by omega
      have htk : l.take k = l := List.take_of_length_le (by have := Hn.out; omega)
      rw [htk] at HOw
      obtain ⟨va, vc, rfl, -, hat⟩ := HOw.out.at
      have hgood : ∀ y ∈ Cf.allNodes l, Tr.good (Tr.nw y) := fun y hy => by
        unfold Cf.allNodes at hy
        obtain ⟨p, hp, hy⟩ := List.mem_flatMap.1 hy
        obtain ⟨q, hq, rfl⟩ := List.mem_map.1 hy
        exact ⟨((Hbd.out p hp).1 q hq).1, (Cf.right_ok (Ho2.out p hp)).2.1 q hq⟩
      have hlen : (Cf.allNodes l).length ≤ 48 := by
        have := Cf.all_small (l := l) (fun p hp => (Cf.right_ok (Ho2.out p hp)).1)
        have := Hn.out
        omega
      have HGr := Lib.hid (ref_grown 33 va _ vc (Cf.allNodes l) wo hat hgood (fun _ => Nat.le_add_right _ _) (by omega) (by omega))
      rw [← Hr0.out] at HGr
      clear htk hat hgood
      generalize (Cf.allNodes l).length = ln at *
      go_wp2_with fail
      refine HGr.out.mono ?_
      rintro e w9 ⟨v9, rfl, hO9, hb9⟩
      have HO9 := Lib.hid (hO9.base hsz)
      have HB9 := Lib.hid (HBo.out.trans (hb9.mono hsz))
      clear hO9 hb9
      go_wp2
      go_ret2
      exact ⟨⟨_, rfl, HO9.out⟩, HB9.out⟩
end Go.Proofs.YtjdflnnpamjjcaaGreatDoor

namespace Go.Proofs.YtjdflnnpamjjcaaGreatDoor
open Go.RowKit

theorem law_sameNodes (a b : Option Addr) (n m c d : Nat) (l k : List Tr.Node) (w : World) (hl : NodesAt w w.heap.size a n l) (hk : NodesAt w w.heap.size b m k) (hn : n ≤ 3518437208883) :
    Calls Tryz.prog 13 #[.slice a n c, .slice b m d] w fun e w' => ∃ r : Bool, e = .returned (.bool r) ∧ (r = true ↔ l = k) ∧ Below w.heap.size w w' := by
  have H := Lib.hid (nodes_Equal a b n m c d l k w hl hk hn)
  clear hl hk
  go_enter Tryz.func13, Tryz.ntmps13
  go_wp2_with fail
  refine H.out.mono ?_
  rintro e w2 ⟨r, rfl, hr, b2⟩
  have Hr := Lib.hid hr
  clear hr H
  go_wp2
  go_ret
  exact ⟨_, rfl, Hr.out, b2⟩

end Go.Proofs.YtjdflnnpamjjcaaGreatDoor

namespace Go.Proofs.YtjdflnnpamjjcaaGreatDoor
open Go.RowKit

theorem tree_len {x : Cf.C} (hb : ∀ p ∈ x.ps, PeerBounds p) : (Cf.treeOut x).length ≤ 96 := by
  unfold Cf.treeOut
  split
  · next he =>
    have h1 := Tr.grown_two 33 _ (Cf.conf_good he (fun p hp n hn => ((hb p hp).1 n hn).1))
    obtain ⟨h2, h3⟩ := Cf.conf_ok he
    have h4 := Cf.all_small (l := x.ps) (fun p hp => (Cf.right_ok (h3 p hp)).1)
    omega
  · exact Nat.zero_le _
set_option maxRecDepth 20000 in
set_option maxHeartbeats 4000000 in
theorem law_ConfTrees (x : Cf.C) (a : Option Addr) (c : Nat) (w : World) (h : PeersAt w w.heap.size a x.ps.length x.ps) (hcap : x.ps.length ≤ c) (_hm : x.ps.length ≤ maxLen) (hb : ∀ p ∈ x.ps, PeerBounds p) (_hp : -9223372036854775808 ≤ x.p ∧ x.p ≤ 9223372036854775807) (u : ConfSmall x) (hT : AllTabs w) :
    Calls Tryz.prog 4 #[confV x a c] w fun e w' => e = .returned (.bool true) ∧ Below w.heap.size w w' := by
  have H1 := Lib.hid (fun W (hW : Below w.heap.size w W) => conf_Tree x a c W ((h.below hW).more hW.size) hcap u.key u.peers hb (allTabs_code (hT.below hW)))
  have H2 := Lib.hid (fun W (hW : Below w.heap.size w W) => ref_ConfTree x a c W ((h.below hW).more hW.size) u.key u.peers hb (hT.below hW))
  have hal := tree_len hb
  clear h hcap hb u hT _hm _hp
  generalize Cf.err x = r at *
  generalize Cf.treeOut x = A at *
  obtain ⟨ck, cp, l⟩ := x
  unfold confV at H1 H2 ⊢
  simp only at H1 H2 ⊢
  generalize l.length = n at *
  obtain ⟨w1, hw1⟩ : ∃ w1, w1 = w.alloc (.cells #[.string ck, .int .i64 cp, .slice a n c] 24) := ⟨_, rfl⟩
  have HA := Lib.hid (show Below w.heap.size w w1 by rw [hw1]; exact (Below.refl _ _).alloc (Nat.le_refl _) _)
  have HG := Lib.hid (show Blk w1 w.heap.size 24 [.string ck, .int .i64 cp, .slice a n c] by rw [hw1]; exact Blk.new _ _ _)
  have g0 := HG.out.cell 0 rfl
  have g1 := HG.out.cell 1 rfl
  have g2 := HG.out.cell 2 rfl
  go_enter Tryz.func4, Tryz.ntmps4
  go_wp2_with fail
  rw [← hw1]
  clear hw1
  refine (H1.out w1 HA.out).mono ?_
  rintro e w2 ⟨⟨v2, rfl, o2⟩, hb2⟩
  have HG2 := Lib.hid (HG.out.kept hb2)
  have HA2 := Lib.hid (HA.out.trans (hb2.mono HA.out.size))
  have HO2 := Lib.hid o2
  clear hb2 H1 g0 g1 g2 o2
  have g0 := HG2.out.cell 0 rfl
  have g1 := HG2.out.cell 1 rfl
  have g2 := HG2.out.cell 2 rfl
  go_wp2_with fail
  refine (H2.out w2 HA2.out).mono ?_
  rintro e w3 ⟨⟨v3, rfl, o3⟩, hb3⟩
  have HA3 := Lib.hid (HA2.out.trans (hb3.mono HA2.out.size))
  obtain ⟨a2, c2, rfl, -, at2⟩ := (HO2.out.below hb3).at
  obtain ⟨a3, c3, rfl, -, at3⟩ := o3.at
  have HE := Lib.hid (law_sameNodes a2 a3 _ _ c2 c3 A A w3 at2 at3 (by omega))
  clear hb3 H2 g0 g1 g2 HO2 o3 at2 at3
  go_wp2_with fail
  refine HE.out.mono ?_
  rintro e w6 ⟨r6, rfl, hr6, b6⟩
  obtain rfl : r6 = true := by first | exact hr6.2 rfl | exact hr6.2 trivial | simpa using hr6
  have B6 := Lib.hid (HA3.out.trans (b6.mono HA3.out.size))
  clear hr6 b6 HE
  go_wp2
  go_ret
  exact ⟨by simp, B6.out⟩
end Go.Proofs.YtjdflnnpamjjcaaGreatDoor
