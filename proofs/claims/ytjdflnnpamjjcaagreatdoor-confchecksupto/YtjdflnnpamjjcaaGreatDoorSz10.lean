/- How a peer, and a configuration, is read as an argument of a law. -/
import Derived.Test.YtjdflnnpamjjcaaGreatDoorSz03
import Derived.Test.YtjdflnnpamjjcaaGreatDoorSz09
import Derived.Test.YtjdflnnpamjjcaaGreatDoorSz02
import Derived.Shelf.Abstract
import Derived.Test.YtjdflnnpamjjcaaGreatDoorCodeTabs
import Derived.Test.YtjdflnnpamjjcaaGreatDoorSz05
import Derived.Test.YtjdflnnpamjjcaaGreatDoorSz08
import Derived.SizedLaws
import Derived.Test.YtjdflnnpamjjcaaGreatDoorSz07
import Derived.Test.YtjdflnnpamjjcaaGreatDoorConfArgs
import Derived.Deep.SlicePairs
import Derived.Lib.SmallJoins
namespace Go.Proofs.YtjdflnnpamjjcaaGreatDoor
open Go.RowKit

set_option maxRecDepth 20000 in
set_option maxHeartbeats 3200000 in
theorem same_peer (p : Cf.P) (a b : Option Addr) (c d : Nat) (w : World) (h : NetsAt w w.heap.size a p.ns.length p.ns) (h' : NetsAt w w.heap.size b p.ns.length p.ns) (hn : p.ns.length ≤ maxLen) :
    Calls Tryz.prog 20 #[peerV p a c, peerV p b d] w fun e w' => e = .returned (.bool true) ∧ Below w.heap.size w w' := by
  obtain ⟨pk, ps, pe, pv, ns⟩ := p
  simp only at h h' hn
  unfold peerV
  simp only
  obtain ⟨n, hnn⟩ : ∃ n, n = ns.length := ⟨_, rfl⟩
  rw [← hnn] at h h' hn ⊢
  clear hnn
  obtain ⟨w1, hw1⟩ : ∃ w1, w1 = (w.alloc (.cells #[.string pk, .string ps, .string pe, .int .i64 pv, .slice a n c] 41)).alloc (.cells #[.string pk, .string ps, .string pe, .int .i64 pv, .slice b n d] 41) := ⟨_, rfl⟩
  have HA := Lib.hid (show Below w.heap.size w w1 by rw [hw1]; exact ((Below.refl _ _).alloc (Nat.le_refl _) _).alloc (by simp) _)
  have HE := Lib.hid (nets_Same a b n c d ns w1 ((h.below HA.out).more HA.out.size) ((h'.below HA.out).more HA.out.size) hn)
  clear h h' hn
  go_enter Tryz.func20, Tryz.ntmps20
  go_wp2_with fail
  rw [← hw1]
  refine HE.out.mono ?_
  rintro e w2 ⟨rfl, hb2⟩
  have HB := Lib.hid (HA.out.trans (hb2.mono HA.out.size))
  clear hb2 hw1
  go_wp2
  go_ret
  exact ⟨rfl, HB.out⟩
/-- A function that says of a peer and a copy of it that they are the same. -/
def SameAt (F : Nat) : Prop := (∀ (args : Array Value) (W : World), (callFunc F args).run Tryz.prog W = .ok (.enter F args) W) ∧ ∀ (p : Cf.P) (a b : Option Addr) (c d : Nat) (W : World), NetsAt W W.heap.size a p.ns.length p.ns → NetsAt W W.heap.size b p.ns.length p.ns → p.ns.length ≤ maxLen →
  Calls Tryz.prog F #[peerV p a c, peerV p b d] W fun e W' => e = .returned (.bool true) ∧ Below W.heap.size W W'
theorem same_at : SameAt 20 := ⟨enters_of Tryz.func20 (by kernel_rfl) rfl, fun p a b c d W h h' hn => same_peer p a b c d W h h' hn⟩
set_option maxRecDepth 20000 in
set_option maxHeartbeats 3200000 in
theorem peers_Same (F : Nat) (hF : SameAt F) (a b : Option Addr) (n c d : Nat) (l : List Cf.P) (w : World) (hl : PeersAt w w.heap.size a n l) (hk : PeersAt w w.heap.size b n l) (hn : n ≤ maxLen) (hs : ∀ p ∈ l, p.ns.length ≤ maxLen) :
    Calls Tryz.prog 19 #[.slice a n c, .slice b n d, .func (.func F) #[] #[]] w fun e w' => e = .returned (.bool true) ∧ Below w.heap.size w w' := by
  have Hl := Lib.hid hl
  have Hk := Lib.hid hk
  have hl1 := hl.1
  have hm' : n ≤ 9223372036854775807 := by unfold maxLen at hn; omega
  have hfe := hF.1
  have HF := Lib.hid hF.2
  have Hs := Lib.hid hs
  clear hl hk hF hs
  go_enter Tryz.func19, Tryz.ntmps19
  go_wp2
  go_loopw [17] (fun i wr => ∃ j : Nat, j ≤ n ∧ i = .int .i64 j ∧ Hid (Below w.heap.size w wr)) (fun i _ => n - (intOf i).toNat)
  case atStart => exact ⟨0, Nat.zero_le _, rfl, Lib.hid (Below.refl _ _)⟩
  case round =>
    obtain ⟨j, hj, rfl, HB⟩ := hrel
    obtain ⟨wo, hwo⟩ : ∃ wo, wo = wr := ⟨_, rfl⟩
    subst hwo
    have hsz := HB.out.size
    by_cases hlt : j < n
    · have hjl : j < l.length := by omega
      obtain ⟨b1, o1, rfl, l1, hc1⟩ := (Hl.out.below HB.out).2 (by omega)
      obtain ⟨b2, o2, rfl, l2, hc2⟩ := (Hk.out.below HB.out).2 (by omega)
      have l3 : b1 < wo.heap.size := by omega
      have l4 : b2 < wo.heap.size := by omega
      obtain ⟨x0, x1, x2, x3, xa, xc, x4, x5⟩ := hc1 j hjl
      obtain ⟨y0, y1, y2, y3, ya, yc, y4, y5⟩ := hc2 j hjl
      have hpm := Hs.out _ (List.getElem_mem hjl)
      have Hx5 := Lib.hid x5
      have Hy5 := Lib.hid y5
      clear hc1 hc2 x5 y5
      generalize l[j] = p at *
      obtain ⟨pk, ps, pe, pv, ns⟩ := p
      simp only at x0 x1 x2 x3 x4 y0 y1 y2 y3 y4 hpm
      obtain ⟨m, hm⟩ : ∃ m, m = ns.length := ⟨_, rfl⟩
      obtain ⟨w1, hw1⟩ : ∃ w1, w1 = (wo.alloc (.cells #[.string pk, .string ps, .string pe, .int .i64 pv, .slice xa m xc] 41)).alloc (.cells #[.string pk, .string ps, .string pe, .int .i64 pv, .slice ya m yc] 41) := ⟨_, rfl⟩
      have HA := Lib.hid (show Below w.heap.size w w1 by rw [hw1]; exact (HB.out.alloc hsz _).alloc (by simp; omega) _)
      have HA1 := Lib.hid (show Below w.heap.size wo w1 by rw [hw1]; exact ((Below.refl _ _).alloc hsz _).alloc (by simp; omega) _)
      have HC := Lib.hid (HF.out ⟨pk, ps, pe, pv, ns⟩ xa ya xc yc w1 ((Hx5.out.below HA1.out).more HA.out.size) ((Hy5.out.below HA1.out).more HA.out.size) hpm)
      unfold peerV at HC
      simp only at HC
      rw [← hm] at x4 y4 HC
      clear Hx5 Hy5 hpm hm
      have i1 : (j : Int) < (n : Int) := by omega
      go_wp2_with fail
      rw [← hw1]
      clear hw1 x0 x1 x2 x3 x4 y0 y1 y2 y3 y4
      refine HC.out.mono ?_
      rintro e w2 ⟨rfl, hb2⟩
      have HB2 := Lib.hid (HA.out.trans (hb2.mono HA.out.size))
      clear hb2 HC
      go_wp2
      go_roundw
      case rel => exact ⟨j + 1, by omega, by go_num, HB2⟩
      case measure => simp [intOf]; omega
    · obtain rfl : j = n := by omega
      clear Hl Hk
      go_wp2
      go_ret
      exact ⟨rfl, HB.out⟩
set_option maxRecDepth 20000 in
set_option maxHeartbeats 3200000 in
theorem law_sameConf (x : Cf.C) (a b : Option Addr) (c d : Nat) (w : World) (h : PeersAt w w.heap.size a x.ps.length x.ps) (h' : PeersAt w w.heap.size b x.ps.length x.ps) (hn : x.ps.length ≤ maxLen) (hs : ∀ p ∈ x.ps, p.ns.length ≤ maxLen) :
    Calls Tryz.prog 10 #[confV x a c, confV x b d] w fun e w' => e = .returned (.bool true) ∧ Below w.heap.size w w' := by
  obtain ⟨ck, cp, l⟩ := x
  simp only at h h' hn hs
  unfold confV
  simp only
  obtain ⟨n, hnn⟩ : ∃ n, n = l.length := ⟨_, rfl⟩
  rw [← hnn] at h h' hn ⊢
  clear hnn
  obtain ⟨w1, hw1⟩ : ∃ w1, w1 = (w.alloc (.cells #[.string ck, .int .i64 cp, .slice a n c] 24)).alloc (.cells #[.string ck, .int .i64 cp, .slice b n d] 24) := ⟨_, rfl⟩
  have HA := Lib.hid (show Below w.heap.size w w1 by rw [hw1]; exact ((Below.refl _ _).alloc (Nat.le_refl _) _).alloc (by simp) _)
  have HE := Lib.hid (peers_Same _ same_at a b n c d l w1 ((h.below HA.out).more HA.out.size) ((h'.below HA.out).more HA.out.size) hn hs)
  clear h h' hn hs
  go_enter Tryz.func10, Tryz.ntmps10
  go_wp2_with fail
  rw [← hw1]
  refine HE.out.mono ?_
  rintro e w2 ⟨rfl, hb2⟩
  have HB := Lib.hid (HA.out.trans (hb2.mono HA.out.size))
  clear hb2 hw1
  go_wp2
  go_ret
  exact ⟨rfl, HB.out⟩
end Go.Proofs.YtjdflnnpamjjcaaGreatDoor

namespace Go.Proofs.YtjdflnnpamjjcaaGreatDoor
theorem allTabs_code {w : World} (h : AllTabs w) : CodeTabs w := ⟨h.1, h.2.2⟩
end Go.Proofs.YtjdflnnpamjjcaaGreatDoor

namespace Go.Proofs.YtjdflnnpamjjcaaGreatDoor
open Go.RowKit

theorem found_cases (l : List Cf.P) (key : ByteArray) : (Cf.foundErr l key = 0 ∧ Cf.found l key = Cf.at_ l key ∧ Cf.at_ l key < l.length) ∨ (Cf.foundErr l key = 5 ∧ Cf.found l key = 0 ∧ Cf.at_ l key = l.length) := by
  unfold Cf.foundErr Cf.found
  rcases Cf.at_lt (l := l) (key := key) with h | h
  · left
    rw [if_pos h, if_pos h]
    exact ⟨rfl, rfl, h⟩
  · right
    rw [if_neg (by omega), if_neg (by omega)]
    exact ⟨rfl, rfl, h⟩
set_option maxRecDepth 20000 in
set_option maxHeartbeats 8000000 in
theorem law_ConfChecks (x : Cf.C) (a : Option Addr) (c : Nat) (key : ByteArray) (w : World) (h : PeersAt w w.heap.size a x.ps.length x.ps) (hcap : x.ps.length ≤ c) (hm : x.ps.length ≤ maxLen) (hb : ∀ p ∈ x.ps, PeerBounds p) (_hp : -9223372036854775808 ≤ x.p ∧ x.p ≤ 9223372036854775807) (u : ConfSmall x) (_uk : key.size ≤ 1048576) (hT : AllTabs w) :
    Calls Tryz.prog 3 #[confV x a c, .string key] w fun e w' => e = .returned (.bool true) ∧ Below w.heap.size w w' := by
  have H1 := Lib.hid (fun W (hW : Below w.heap.size w W) => conf_Check x a c W ((h.below hW).more hW.size) hcap u.key u.peers hb (allTabs_code (hT.below hW)))
  have H2 := Lib.hid (fun W (hW : Below w.heap.size w W) => conf_Find x a c key W ((h.below hW).more hW.size) hm)
  have H3 := Lib.hid (fun W (hW : Below w.heap.size w W) => conf_Copy x a c W ((h.below hW).more hW.size) u.many u.nets)
  have H4 := Lib.hid (fun W (hW : Below w.heap.size w W) => ref_ConfFault x a c W ((h.below hW).more hW.size) u.key u.peers hb (hT.below hW))
  have H5 := Lib.hid (fun W (hW : Below w.heap.size w W) => ref_PeerAt x a c key W ((h.below hW).more hW.size) hm)
  have H6 := Lib.hid (fun W (hW : Below w.heap.size w W) a' c' (h' : PeersAt W W.heap.size a' x.ps.length x.ps) => law_sameConf x a' a c' c W h' ((h.below hW).more hW.size) hm (fun p hp => (hb p hp).2.2.2))
  have HFc := Lib.hid (found_cases x.ps key)
  have HL := Lib.hid (fun (W : World) (v : Value) (L : List Cf.Q) (hL : L.map (·.1) = x.ps) (B : Nat) (ho : OwnP W B v L) => (show ∃ a' c', v = .slice a' x.ps.length c' ∧ PeersAt W W.heap.size a' x.ps.length x.ps by
    obtain ⟨a', c', e, _, _, _, hat⟩ := ho.at
    have hl : L.length = x.ps.length := by rw [← hL]; simp
    rw [hl] at e hat
    rw [hL] at hat
    exact ⟨a', c', e, hat⟩))
  clear hb u hT _hp _uk hcap
  generalize Cf.err x = r at *
  obtain ⟨ck, cp, l⟩ := x
  unfold confV at H1 H2 H3 H4 H5 H6 ⊢
  simp only at h hm H1 H2 H3 H4 H5 H6 HFc HL ⊢
  generalize Cf.found l key = fi at *
  generalize Cf.foundErr l key = fe at *
  generalize Cf.at_ l key = k at *
  clear h
  generalize hn : l.length = n at *
  clear hn
  obtain ⟨w1, hw1⟩ : ∃ w1, w1 = w.alloc (.cells #[.string ck, .int .i64 cp, .slice a n c] 24) := ⟨_, rfl⟩
  have HA := Lib.hid (show Below w.heap.size w w1 by rw [hw1]; exact (Below.refl _ _).alloc (Nat.le_refl _) _)
  have HG := Lib.hid (show Blk w1 w.heap.size 24 [.string ck, .int .i64 cp, .slice a n c] by rw [hw1]; exact Blk.new _ _ _)
  have g0 := HG.out.cell 0 rfl
  have g1 := HG.out.cell 1 rfl
  have g2 := HG.out.cell 2 rfl
  go_enter Tryz.func3, Tryz.ntmps3
  go_wp2_with fail
  rw [← hw1]
  clear hw1
  refine (H1.out w1 HA.out).mono ?_
  rintro e w2 ⟨rfl, hb2⟩
  have HG2 := Lib.hid (HG.out.kept hb2)
  have HA2 := Lib.hid (HA.out.trans (hb2.mono HA.out.size))
  clear hb2 H1 g0 g1 g2
  have g0 := HG2.out.cell 0 rfl
  have g1 := HG2.out.cell 1 rfl
  have g2 := HG2.out.cell 2 rfl
  go_wp2_with fail
  refine (H2.out w2 HA2.out).mono ?_
  rintro e w3 ⟨rfl, hb3⟩
  have HG3 := Lib.hid (HG2.out.kept hb3)
  have HA3 := Lib.hid (HA2.out.trans (hb3.mono HA2.out.size))
  clear hb3 H2 g0 g1 g2
  have g0 := HG3.out.cell 0 rfl
  have g1 := HG3.out.cell 1 rfl
  have g2 := HG3.out.cell 2 rfl
  go_wp2_with fail
  refine (H3.out w3 HA3.out).mono ?_
  rintro e w4 ⟨⟨v4, L, rfl, hL, hO⟩, hb4⟩
  obtain ⟨a4, c4, rfl, hat4⟩ := HL.out w4 v4 L hL _ hO
  clear hO hL HL H3
  obtain ⟨w5, hw5⟩ : ∃ w5, w5 = w4.alloc (.cells #[.string ck, .int .i64 cp, .slice a4 n c4] 24) := ⟨_, rfl⟩
  have hA5 : Below w4.heap.size w4 w5 := by rw [hw5]; exact (Below.refl _ _).alloc (Nat.le_refl _) _
  have hB35 := hb4.trans (hA5.mono hb4.size)
  have HM5 := Lib.hid (show Blk w5 w4.heap.size 24 [.string ck, .int .i64 cp, .slice a4 n c4] by rw [hw5]; exact Blk.new _ _ _)
  have HG5 := Lib.hid (HG3.out.kept hB35)
  have HA5 := Lib.hid (HA3.out.trans (hB35.mono HA3.out.size))
  have HP5 := Lib.hid (hat4.kept hA5)
  clear hb4 hA5 hB35 hat4 g0 g1 g2
  have g0 := HG5.out.cell 0 rfl
  have g1 := HG5.out.cell 1 rfl
  have g2 := HG5.out.cell 2 rfl
  go_upto_region 4 with fail
  rw [← hw5]
  clear hw5
  go_wp2_with fail
  refine (H4.out w5 HA5.out).mono ?_
  rintro e w6 ⟨rfl, hb6⟩
  have HM6 := Lib.hid (HM5.out.kept hb6)
  have HG6 := Lib.hid (HG5.out.kept hb6)
  have HP6 := Lib.hid (HP5.out.kept hb6)
  have HA6 := Lib.hid (HA5.out.trans (hb6.mono HA5.out.size))
  clear hb6 H4 g0 g1 g2
  have g0 := HG6.out.cell 0 rfl
  have g1 := HG6.out.cell 1 rfl
  have g2 := HG6.out.cell 2 rfl
  go_wp2_with fail
  refine (H5.out w6 HA6.out).mono ?_
  rintro e w7 ⟨rfl, hb7⟩
  have HM7 := Lib.hid (HM6.out.kept hb7)
  have HG7 := Lib.hid (HG6.out.kept hb7)
  have HP7 := Lib.hid (HP6.out.kept hb7)
  have HA7 := Lib.hid (HA6.out.trans (hb7.mono HA6.out.size))
  have HS := Lib.hid (H6.out w7 HA7.out a4 c4 HP7.out)
  clear hb7 H5 g0 g1 g2 H6
  have g0 := HG7.out.cell 0 rfl
  have g1 := HG7.out.cell 1 rfl
  have g2 := HG7.out.cell 2 rfl
  have m0 := HM7.out.cell 0 rfl
  have m1 := HM7.out.cell 1 rfl
  have m2 := HM7.out.cell 2 rfl
  rcases HFc.out with ⟨rfl, rfl, hlt⟩ | ⟨rfl, rfl, rfl⟩
  all_goals
    go_wp2_with fail
    refine HS.out.mono ?_
    rintro e w8 ⟨rfl, hb8⟩
    have HA8 := Lib.hid (HA7.out.trans (hb8.mono HA7.out.size))
    clear hb8
    go_wp2
    go_ret
    exact ⟨by simp, HA8.out⟩
end Go.Proofs.YtjdflnnpamjjcaaGreatDoor

namespace Go.Proofs.YtjdflnnpamjjcaaGreatDoor
open Go.ChangeShapes Go.WideShapes Go.ChangeAt Go.RowKit Go.Deep

/-- What a peer's datum is, but for its networks. -/
def peerD {H : Type} (p : Cf.P) (q : DataW H) : DataW H := .agg [.lit (.string p.k.data.toList), .lit (.string p.s.data.toList), .lit (.string p.e.data.toList), .lit (.int .i64 p.v), q]
def peerC (p : Cf.P) (a : Option Addr) (c : Nat) : List Value := [.string p.k, .string p.s, .string p.e, .int .i64 p.v, .slice a p.ns.length c]
theorem bulk_pos {H : Type} (d : DataW H) : 1 ≤ Rows.uptoBulk d := by
  cases d with
  | lit x => cases x <;> (rw [Rows.uptoBulk] <;> first | omega | simp)
  | nil => rw [Rows.uptoBulk]; exact Nat.le_refl _
  | ptr d => rw [Rows.uptoBulk]; omega
  | slice a b => rw [Rows.uptoBulk]; omega
  | agg a => rw [Rows.uptoBulk]; omega
  | iface a b => rw [Rows.uptoBulk]; omega
  | map a => rw [Rows.uptoBulk]; omega
  | held a => rw [Rows.uptoBulk]; exact Nat.le_refl _
theorem bulk_len {H : Type} : ∀ l : List (DataW H), l.length ≤ Rows.uptoBulkAll l
  | [] => Nat.zero_le _
  | d :: r => by
    rw [Rows.uptoBulkAll, List.length_cons]
    have := bulk_pos d
    have := bulk_len r
    omega
theorem cells_netE : Tryz.prog.cellsOf 47 = 2 := by kernel_rfl
theorem cells_peer : Tryz.prog.cellsOf 41 = 5 := by kernel_rfl
set_option maxRecDepth 100000 in
theorem open_net2 {H : Type} {enc : TypeId × Value → H} {W : World} {n : Nat} {cs : List Value} {x : DataW H × List MemPlace} (hl : cs.length = 2)
    (h : DataW.trod enc Tryz.prog W 0 (fun _ => true) true n 47 cs = some x) : ∃ r : Nat × Int, cs = [.int .u32 (r.1 : Int), .int .i64 r.2] ∧ NetBounds r := by
  obtain ⟨xs, m, _, _, _, hxl, hf⟩ := DataW.trod_struct Tryz.underlying47 h
  match xs, hxl, cs, hl with
  | [y0, y1], _, [v0, v1], _ =>
    have g0 := hf 0 _ rfl
    have g1 := hf 1 _ rfl
    change DataW.trod enc Tryz.prog W 0 (fun _ => true) true m 45 [v0] = some y0 at g0
    change DataW.trod enc Tryz.prog W 0 (fun _ => true) true m 3 [v1] = some y1 at g1
    obtain ⟨a, e0, _, w0⟩ := DataW.trod_int Tryz.underlying45 g0
    obtain ⟨b, e1, _, w1⟩ := DataW.trod_int Tryz.underlying3 g1
    injection e0 with e0
    injection e1 with e1
    subst e0 e1
    have ha := bounds_u32 w0
    obtain ⟨a', rfl⟩ : ∃ a' : Nat, a = (a' : Int) := ⟨a.toNat, by omega⟩
    exact ⟨(a', b), rfl, by show a' < _; omega, (bounds_i64 w1).1, (bounds_i64 w1).2⟩
theorem open_netsAt {H : Type} {enc : TypeId × Value → H} {W : World} {fuel : Nat} {a : Option Addr} {len cap : Nat} {y : DataW H × List MemPlace}
    (hf : DataW.trod enc Tryz.prog W 0 (fun _ => true) true fuel 39 [.slice a len cap] = some y) :
    ∃ l : List (Nat × Int), NetsAt W W.heap.size a len l ∧ len ≤ maxLen ∧ (∀ n ∈ l, NetBounds n) ∧ len ≤ Rows.uptoBulk y.1 := by
  rcases open_slice Tryz.underlying39 hf with ⟨hcs, hx⟩ | ⟨x, l, c, m, n, D, Pl, hcs, _, hl, hm, hmm, hx, hall⟩
  · simp at hcs
    obtain ⟨rfl, rfl, rfl⟩ := hcs
    exact ⟨[], ⟨rfl, fun h => absurd h (by omega)⟩, Nat.zero_le _, (fun _ h => (by cases h)), Nat.zero_le _⟩
  · simp at hcs
    obtain ⟨rfl, rfl, rfl⟩ := hcs
    rw [if_pos rfl] at hmm
    subst hmm
    rw [cells_netE] at hall
    have each : ∀ i, i < m → ∃ r : Nat × Int, (∀ j, j < 2 → W.cell? (x.add (i * 2 + j)) = ([.int .u32 (r.1 : Int), .int .i64 r.2] : List Value)[j]?) ∧ NetBounds r := by
      intro i hi
      obtain ⟨cs', h1, h2⟩ := hall i hi
      obtain ⟨_, hlen, hcell⟩ := World.cells?_some h1
      obtain ⟨r, rfl, hb⟩ := open_net2 hlen h2
      exact ⟨r, fun j hj => by rw [← add_add]; exact hcell j hj, hb⟩
    obtain ⟨q, hq⟩ := choose_lt each
    refine ⟨(List.range len).map q, ⟨by simp, fun hpos => ?_⟩, Nat.le_trans hl hm, ?_, ?_⟩
    · obtain ⟨b, off, spot⟩ := x
      have h0 := (hq 0 (by omega)).1 0 (by omega)
      have hspot : spot = none := by simpa [Addr.add] using World.cell?_spot h0
      subst hspot
      have hc : ∀ i (_ : i < len) j (_ : j < 2), W.cell? ⟨b, off + i * 2 + j, none⟩ = ([.int .u32 ((q i).1 : Int), .int .i64 (q i).2] : List Value)[j]? := by
        intro i hi j hj
        rw [← (hq i (by omega)).1 j hj, Addr.add_lit, Nat.add_assoc]
      refine ⟨b, off, rfl, lt_of_cell (a := ⟨b, off + 0 * 2 + 0, none⟩) (hc 0 hpos 0 (by omega)), fun i hi => ?_⟩
      have hi' : i < len := by simpa using hi
      rw [List.getElem_map, List.getElem_range]
      exact ⟨hc i hi' 0 (by omega), hc i hi' 1 (by omega)⟩
    · intro s hs
      obtain ⟨i, hi, rfl⟩ := List.mem_map.1 hs
      exact (hq i (by have := List.mem_range.1 hi; omega)).2
    · rw [hx]
      show len ≤ Rows.uptoBulk (DataW.slice _ _)
      rw [Rows.uptoBulk]
      have h1 := bulk_len ((List.range len).map D)
      rw [List.length_map, List.length_range] at h1
      omega
set_option maxRecDepth 100000 in
theorem open_peer5 {H : Type} {enc : TypeId × Value → H} {W : World} {n : Nat} {cs : List Value} {x : DataW H × List MemPlace} (hl : cs.length = 5)
    (h : DataW.trod enc Tryz.prog W 0 (fun _ => true) true n 41 cs = some x) :
    ∃ (p : Cf.P) (a : Option Addr) (c : Nat) (q : DataW H), cs = peerC p a c ∧ NetsAt W W.heap.size a p.ns.length p.ns ∧ PeerBounds p ∧ x.1 = peerD p q ∧ p.ns.length ≤ Rows.uptoBulk q := by
  obtain ⟨xs, m, _, rfl, _, hxl, hf⟩ := DataW.trod_struct Tryz.underlying41 h
  match xs, hxl, cs, hl with
  | [y0, y1, y2, y3, y4], _, [v0, v1, v2, v3, v4], _ =>
    have g0 := hf 0 _ rfl
    have g1 := hf 1 _ rfl
    have g2 := hf 2 _ rfl
    have g3 := hf 3 _ rfl
    have g4 := hf 4 _ rfl
    change DataW.trod enc Tryz.prog W 0 (fun _ => true) true m 9 [v0] = some y0 at g0
    change DataW.trod enc Tryz.prog W 0 (fun _ => true) true m 9 [v1] = some y1 at g1
    change DataW.trod enc Tryz.prog W 0 (fun _ => true) true m 9 [v2] = some y2 at g2
    change DataW.trod enc Tryz.prog W 0 (fun _ => true) true m 3 [v3] = some y3 at g3
    change DataW.trod enc Tryz.prog W 0 (fun _ => true) true m 39 [v4] = some y4 at g4
    obtain ⟨k, e0, d0, _⟩ := DataW.trod_string Tryz.underlying9 g0
    obtain ⟨s, e1, d1, _⟩ := DataW.trod_string Tryz.underlying9 g1
    obtain ⟨e, e2, d2, _⟩ := DataW.trod_string Tryz.underlying9 g2
    obtain ⟨v, e3, d3, w3⟩ := DataW.trod_int Tryz.underlying3 g3
    obtain ⟨a, ln, c, e4⟩ := Joins.slice_form Tryz.underlying39 g4
    injection e0 with e0
    injection e1 with e1
    injection e2 with e2
    injection e3 with e3
    injection e4 with e4
    subst e0 e1 e2 e3 e4
    obtain ⟨l, hn, hml, hb, hbk⟩ := open_netsAt g4
    obtain rfl := hn.1
    refine ⟨⟨k, s, e, v, l⟩, a, c, y4.1, rfl, hn, ⟨hb, (bounds_i64 w3).1, (bounds_i64 w3).2, hml⟩, ?_, hbk⟩
    simp only [List.map_cons, List.map_nil, d0, d1, d2, d3]
    rfl
set_option maxRecDepth 100000 in
theorem open_peer {H : Type} {enc : TypeId × Value → H} {W : World} {base : Nat} {v : Value} {d : DataW H} {p : List MemPlace} (hv : Value.okWide Tryz.prog W .any base 41 v)
    (h : DataW.Trod enc Tryz.prog W 0 (fun _ => true) true 41 v d p) :
    ∃ (x : Cf.P) (a : Option Addr) (c : Nat) (q : DataW H), v = peerV x a c ∧ NetsAt W W.heap.size a x.ns.length x.ns ∧ PeerBounds x ∧ d = peerD x q ∧ x.ns.length ≤ Rows.uptoBulk q := by
  obtain ⟨cs, rfl, hsz⟩ := okWide_struct Tryz.underlying41 hv
  obtain ⟨fuel, hf⟩ := h
  have hl : cs.toList.length = 5 := by rw [Array.length_toList, hsz, cells_peer]
  obtain ⟨x, a, c, q, e, hn, hb, hd⟩ := open_peer5 hl (by simpa [Value.cells] using hf)
  refine ⟨x, a, c, q, ?_, hn, hb, hd⟩
  have : cs = (peerC x a c).toArray := by rw [← e]
  rw [this]
  rfl
set_option maxRecDepth 100000 in
theorem open_peersAt {H : Type} {enc : TypeId × Value → H} {W : World} {fuel : Nat} {a : Option Addr} {len cap : Nat} {y : DataW H × List MemPlace}
    (hf : DataW.trod enc Tryz.prog W 0 (fun _ => true) true fuel 22 [.slice a len cap] = some y) :
    ∃ (l : List Cf.P) (Q : Nat → DataW H), PeersAt W W.heap.size a len l ∧ len ≤ cap ∧ len ≤ maxLen ∧ (∀ p ∈ l, PeerBounds p) ∧ (∀ i, i < l.length → (l.getD i Cf.zeroP).ns.length ≤ Rows.uptoBulk (Q i)) ∧ ((y.1 = .nil ∧ l = []) ∨ ∃ sp, y.1 = .slice ((List.range l.length).map fun i => peerD (l.getD i Cf.zeroP) (Q i)) sp) := by
  rcases open_slice Tryz.underlying22 hf with ⟨hcs, hx⟩ | ⟨x, l, c, m, n, D, Pl, hcs, _, hl, hm, hmm, hx, hall⟩
  · simp at hcs
    obtain ⟨rfl, rfl, rfl⟩ := hcs
    rw [hx]
    exact ⟨[], fun _ => .nil, ⟨rfl, fun h => absurd h (by omega)⟩, Nat.zero_le _, Nat.zero_le _, (fun _ h => (by cases h)), (fun i hi => by simp at hi), .inl ⟨rfl, rfl⟩⟩
  · simp at hcs
    obtain ⟨rfl, rfl, rfl⟩ := hcs
    rw [if_pos rfl] at hmm
    subst hmm
    rw [cells_peer] at hall
    have each : ∀ i, i < m → ∃ r : Cf.P × Option Addr × Nat × DataW H, (∀ j, j < 5 → W.cell? (x.add (i * 5 + j)) = (peerC r.1 r.2.1 r.2.2.1)[j]?) ∧ NetsAt W W.heap.size r.2.1 r.1.ns.length r.1.ns ∧ PeerBounds r.1 ∧ D i = peerD r.1 r.2.2.2 ∧ r.1.ns.length ≤ Rows.uptoBulk r.2.2.2 := by
      intro i hi
      obtain ⟨cs', h1, h2⟩ := hall i hi
      obtain ⟨_, hlen, hcell⟩ := World.cells?_some h1
      obtain ⟨p, a, c, q, rfl, hn, hb, hd⟩ := open_peer5 hlen h2
      exact ⟨(p, a, c, q), fun j hj => by rw [← add_add]; exact hcell j hj, hn, hb, hd⟩
    haveI : Inhabited (DataW H) := ⟨.nil⟩
    obtain ⟨q, hq⟩ := choose_lt each
    refine ⟨(List.range len).map fun i => (q i).1, fun i => (q i).2.2.2, ⟨by simp, fun hpos => ?_⟩, hl, Nat.le_trans hl hm, ?_, ?_, .inr ⟨(List.range (m - len)).map fun j => D (len + j), ?_⟩⟩
    · obtain ⟨b, off, spot⟩ := x
      have h0 := (hq 0 (by omega)).1 0 (by omega)
      have hspot : spot = none := by simpa [Addr.add] using World.cell?_spot h0
      subst hspot
      have hc : ∀ i (_ : i < len) j (_ : j < 5), W.cell? ⟨b, off + i * 5 + j, none⟩ = (peerC (q i).1 (q i).2.1 (q i).2.2.1)[j]? := by
        intro i hi j hj
        rw [← (hq i (by omega)).1 j hj, Addr.add_lit, Nat.add_assoc]
      refine ⟨b, off, rfl, lt_of_cell (a := ⟨b, off + 0 * 5 + 0, none⟩) (hc 0 hpos 0 (by omega)), fun i hi => ?_⟩
      have hi' : i < len := by simpa using hi
      rw [List.getElem_map, List.getElem_range]
      exact ⟨hc i hi' 0 (by omega), hc i hi' 1 (by omega), hc i hi' 2 (by omega), hc i hi' 3 (by omega), _, _, hc i hi' 4 (by omega), (hq i (by omega)).2.1⟩
    · intro s hs
      obtain ⟨i, hi, rfl⟩ := List.mem_map.1 hs
      exact (hq i (by have := List.mem_range.1 hi; omega)).2.2.1
    · intro i hi
      have hi' : i < len := by simpa using hi
      rw [List.getD_eq_getElem?_getD, List.getElem?_map, List.getElem?_range hi']
      exact (hq i (by omega)).2.2.2.2
    · rw [hx]
      show DataW.slice _ _ = _
      rw [List.length_map, List.length_range]
      congr 1
      apply List.map_congr_left
      intro i hi
      have hi' := List.mem_range.1 hi
      rw [(hq i (by omega)).2.2.2.1]
      congr 1
      rw [List.getD_eq_getElem?_getD, List.getElem?_map, List.getElem?_range hi']
      rfl
set_option maxRecDepth 100000 in
theorem open_conf {H : Type} {enc : TypeId × Value → H} {W : World} {base : Nat} {v : Value} {d : DataW H} {p : List MemPlace} (hv : Value.okWide Tryz.prog W .any base 24 v)
    (h : DataW.Trod enc Tryz.prog W 0 (fun _ => true) true 24 v d p) :
    ∃ (x : Cf.C) (a : Option Addr) (c : Nat) (z : DataW H) (Q : Nat → DataW H), v = confV x a c ∧ PeersAt W W.heap.size a x.ps.length x.ps ∧ x.ps.length ≤ c ∧ x.ps.length ≤ maxLen ∧ (∀ p ∈ x.ps, PeerBounds p) ∧ (-9223372036854775808 ≤ x.p ∧ x.p ≤ 9223372036854775807) ∧
      d = .agg [.lit (.string x.k.data.toList), .lit (.int .i64 x.p), z] ∧ (∀ i, i < x.ps.length → (x.ps.getD i Cf.zeroP).ns.length ≤ Rows.uptoBulk (Q i)) ∧ ((z = .nil ∧ x.ps = []) ∨ ∃ sp, z = .slice ((List.range x.ps.length).map fun i => peerD (x.ps.getD i Cf.zeroP) (Q i)) sp) := by
  obtain ⟨v0, v1, v2, y0, y1, y2, n, rfl, rfl, rfl, h0, h1, h2⟩ := Joins.open_agg3 Tryz.underlying24 (by kernel_rfl) (by kernel_rfl) hv h
  obtain ⟨k, e0, d0, _⟩ := DataW.trod_string Tryz.underlying9 h0
  obtain ⟨pt, e1, d1, w1⟩ := DataW.trod_int Tryz.underlying3 h1
  obtain ⟨a, ln, c, e2⟩ := Joins.slice_form Tryz.underlying22 h2
  injection e0 with e0
  injection e1 with e1
  injection e2 with e2
  subst e0 e1 e2
  obtain ⟨l, Q, hp, hcc, hc, hb, hk2, hz⟩ := open_peersAt h2
  obtain rfl := hp.1
  refine ⟨⟨k, pt, l⟩, a, c, y2.1, Q, rfl, hp, hcc, hc, hb, bounds_i64 w1, ?_, hk2, hz⟩
  rw [d0, d1]
theorem bulk_in {H : Type} {d : DataW H} : ∀ {l : List (DataW H)}, d ∈ l → Rows.uptoBulk d ≤ Rows.uptoBulkAll l
  | x :: r, h => by
    rw [Rows.uptoBulkAll]
    rcases List.mem_cons.1 h with rfl | h
    · omega
    · have := bulk_in h; omega
theorem bulk_peer {H : Type} (p : Cf.P) (q : DataW H) : p.k.size ≤ Rows.uptoBulk (peerD p q) ∧ p.s.size ≤ Rows.uptoBulk (peerD p q) ∧ p.e.size ≤ Rows.uptoBulk (peerD p q) ∧ 1 ≤ Rows.uptoBulk (peerD p q) := by
  unfold peerD
  simp only [Rows.uptoBulk, Rows.uptoBulkAll]
  have h1 : p.k.data.toList.length = p.k.size := by simp
  have h2 : p.s.data.toList.length = p.s.size := by simp
  have h3 : p.e.data.toList.length = p.e.size := by simp
  omega
theorem peer_small {H : Type} {d q : DataW H} {p : Cf.P} (hd : d = peerD p q) (h : Rows.uptoBulk d ≤ 1048576) : PeerSmall p := by
  obtain ⟨h1, h2, h3, -⟩ := bulk_peer p q
  rw [hd] at h
  exact ⟨by omega, by omega, by omega⟩
theorem bulk_nets {H : Type} (p : Cf.P) (q : DataW H) (h : p.ns.length ≤ Rows.uptoBulk q) : p.ns.length ≤ Rows.uptoBulk (peerD p q) := by
  unfold peerD
  simp only [Rows.uptoBulk, Rows.uptoBulkAll]
  omega
/-- What the narrowed rows say of a configuration. -/
theorem conf_small {H : Type} {d z : DataW H} {Q : Nat → DataW H} {x : Cf.C} (hd : d = .agg [.lit (.string x.k.data.toList), .lit (.int .i64 x.p), z]) (hk : ∀ i, i < x.ps.length → (x.ps.getD i Cf.zeroP).ns.length ≤ Rows.uptoBulk (Q i)) (hz : (z = .nil ∧ x.ps = []) ∨ ∃ sp, z = .slice ((List.range x.ps.length).map fun i => peerD (x.ps.getD i Cf.zeroP) (Q i)) sp) (h : Rows.uptoBulk d ≤ 1048576) : ConfSmall x := by
  rw [hd] at h
  simp only [Rows.uptoBulk, Rows.uptoBulkAll] at h
  have h1 : x.k.data.toList.length = x.k.size := by simp
  have key : x.ps.length ≤ 1048576 ∧ ∀ p ∈ x.ps, PeerSmall p ∧ p.ns.length ≤ 1048576 := by
    rcases hz with ⟨_, hn⟩ | ⟨sp, rfl⟩
    · rw [hn]
      exact ⟨Nat.zero_le _, fun p hp => by cases hp⟩
    · rw [Rows.uptoBulk] at h
      have h2 := bulk_len ((List.range x.ps.length).map fun i => peerD (x.ps.getD i Cf.zeroP) (Q i))
      rw [List.length_map, List.length_range] at h2
      refine ⟨by omega, fun p hp => ?_⟩
      obtain ⟨j, hj, rfl⟩ := List.mem_iff_getElem.1 hp
      have hm : peerD x.ps[j] (Q j) ∈ (List.range x.ps.length).map fun i => peerD (x.ps.getD i Cf.zeroP) (Q i) := List.mem_map.2 ⟨j, List.mem_range.2 hj, by rw [List.getD_eq_getElem?_getD, List.getElem?_eq_getElem hj]; rfl⟩
      have hb := bulk_in hm
      have hq := hk j hj
      rw [List.getD_eq_getElem?_getD, List.getElem?_eq_getElem hj] at hq
      have hbn := bulk_nets x.ps[j] (Q j) hq
      exact ⟨peer_small (q := Q j) rfl (by omega), by omega⟩
  exact ⟨by omega, key.1, fun p hp => (key.2 p hp).1, fun p hp => (key.2 p hp).2⟩
end Go.Proofs.YtjdflnnpamjjcaaGreatDoor
