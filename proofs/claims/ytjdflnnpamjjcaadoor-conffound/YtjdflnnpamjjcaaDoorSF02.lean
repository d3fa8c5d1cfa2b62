/- The contract of the landed code's Right (P13.1). -/
import Derived.Test.YtjdflnnpamjjcaaDoorConfPlain6
import Derived.Test.YtjdflnnpamjjcaaDoorNetsMem
import Derived.Test.YtjdflnnpamjjcaaDoorConfArgs
import Derived.Test.YtjdflnnpamjjcaaDoorSF01
import Derived.Test.YtjdflnnpamjjcaaDoorAddrCodeEnd
import Derived.Test.YtjdflnnpamjjcaaDoorNetCode1
import Derived.Test.YtjdflnnpamjjcaaDoorNetCode4
import Derived.Deep.RegionHeld3
import Derived.Deep.DeepCutAuto
import Derived.BigQuiet
import Derived.Test.YtjdflnnpamjjcaaDoorConfPlain
namespace Go.Proofs.YtjdflnnpamjjcaaDoor
open Go.RowKit

set_option maxRecDepth 20000 in
set_option maxHeartbeats 4000000 in
theorem conf_checkShared (t : ByteArray) (w : World) (hs : t.size ≤ maxLen) :
    Calls Tryd.prog 11 #[.string t] w fun e w' => e = .returned (.int .i64 (Cf.sErr t : Int)) ∧ w = w' := by
  unfold Cf.sErr
  by_cases h0 : t.size = 0
  · have te : t.toList.isEmpty = true := by rw [empty_size, decide_eq_true h0]
    rw [if_pos h0]
    clear hs h0
    go_enter Tryd.func11, Tryd.ntmps11
    go_wp2
    go_ret
    exact ⟨rfl, rfl⟩
  have te : t.toList.isEmpty = false := by rw [empty_size, decide_eq_false h0]
  have HF := Lib.hid (hex_Check t w hs)
  rw [if_neg h0]
  have e1 : Cf.keyErr t = Hx.checkErr t.data.toList := rfl
  rw [e1]
  by_cases hk : Hx.checkErr t.data.toList = 0
  rotate_left
  · rw [if_pos hk]
    have hn1 : ((Hx.checkErr t.data.toList : Int) != 0) = true := by simpa using hk
    clear hs h0 hk e1
    generalize Hx.checkErr t.data.toList = r at *
    go_enter Tryd.func11, Tryd.ntmps11
    go_wp2_with fail
    refine HF.out.mono ?_
    rintro e w1 ⟨rfl, rfl⟩
    go_wp2
    go_ret
    exact ⟨rfl, rfl⟩
  rw [if_neg (fun hn => hn hk), Bt.zeros_lit]
  rw [hk] at HF
  clear hk e1
  by_cases hz : t = ⟨#[48, 48, 48, 48, 48, 48, 48, 48, 48, 48, 48, 48, 48, 48, 48, 48, 48, 48, 48, 48, 48, 48, 48, 48, 48, 48, 48, 48, 48, 48, 48, 48, 48, 48, 48, 48, 48, 48, 48, 48, 48, 48, 48, 48, 48, 48, 48, 48, 48, 48, 48, 48, 48, 48, 48, 48, 48, 48, 48, 48, 48, 48, 48, 48]⟩
  · rw [if_pos hz]
    have dz : (t.toList == [48, 48, 48, 48, 48, 48, 48, 48, 48, 48, 48, 48, 48, 48, 48, 48, 48, 48, 48, 48, 48, 48, 48, 48, 48, 48, 48, 48, 48, 48, 48, 48, 48, 48, 48, 48, 48, 48, 48, 48, 48, 48, 48, 48, 48, 48, 48, 48, 48, 48, 48, 48, 48, 48, 48, 48, 48, 48, 48, 48, 48, 48, 48, 48]) = true := by rw [hz, ByteArray.toList_eq]; decide
    clear hz hs h0
    go_enter Tryd.func11, Tryd.ntmps11
    go_wp2_with fail
    refine HF.out.mono ?_
    rintro e w1 ⟨rfl, rfl⟩
    go_wp2
    go_ret
    exact ⟨rfl, rfl⟩
  · rw [if_neg hz]
    have dz : (t.toList == [48, 48, 48, 48, 48, 48, 48, 48, 48, 48, 48, 48, 48, 48, 48, 48, 48, 48, 48, 48, 48, 48, 48, 48, 48, 48, 48, 48, 48, 48, 48, 48, 48, 48, 48, 48, 48, 48, 48, 48, 48, 48, 48, 48, 48, 48, 48, 48, 48, 48, 48, 48, 48, 48, 48, 48, 48, 48, 48, 48, 48, 48, 48, 48]) = false := by
      refine beq_eq_false_iff_ne.2 fun e => hz ?_
      rw [ByteArray.toList_eq] at e
      exact WideShapes.bytes_inj (by rw [e])
    clear hz hs h0
    go_enter Tryd.func11, Tryd.ntmps11
    go_wp2_with fail
    refine HF.out.mono ?_
    rintro e w1 ⟨rfl, rfl⟩
    go_wp2
    go_ret
    exact ⟨rfl, rfl⟩
set_option maxHeartbeats 800000 in
theorem conf_checkEndpoint (s : ByteArray) (w : World) (hs : s.size ≤ 1048576) (hC : MaxTab w) :
    Calls Tryd.prog 12 #[.string s] w fun e w' => e = .returned (.int .i64 (Cf.eErr s : Int)) ∧ Below w.heap.size w w' := by
  have HE := Lib.hid (addr_End0 s w hs hC)
  unfold Cf.eErr
  have e1 : Cf.endErr s = Ad.endErr s.data.toList := rfl
  rw [e1]
  clear e1 hC
  by_cases h0 : s.size = 0
  · have te : s.toList.isEmpty = true := by rw [empty_size, decide_eq_true h0]
    rw [if_pos h0]
    clear hs h0
    go_enter Tryd.func12, Tryd.ntmps12
    go_wp2
    go_ret
    exact ⟨rfl, Below.refl _ _⟩
  · have te : s.toList.isEmpty = false := by rw [empty_size, decide_eq_false h0]
    rw [if_neg h0]
    clear hs h0
    generalize Ad.endErr s.data.toList = r at *
    generalize Ad.endAddr s.data.toList = r1 at *
    generalize Ad.endPort s.data.toList = r2 at *
    go_enter Tryd.func12, Tryd.ntmps12
    go_wp2_with fail
    refine HE.out.mono ?_
    rintro e w1 ⟨rfl, hb⟩
    have HB := Lib.hid hb
    clear hb
    go_wp2
    go_ret
    exact ⟨rfl, HB.out⟩
theorem order_one (a : Nat) (b : Int) (c : Nat) (d : Int) : Nt.order a b c d = 1 ∨ Nt.order a b c d ≤ 0 := by
  unfold Nt.order
  split
  · right; omega
  · split
    · right; omega
    · left; rfl
set_option maxRecDepth 20000 in
set_option maxHeartbeats 8000000 in
theorem conf_checkNets (a : Option Addr) (c : Nat) (ns : List (Nat × Int)) (w : World) (h : NetsAt w w.heap.size a ns.length ns) (hb : ∀ n ∈ ns, NetBounds n) (hm : ns.length ≤ maxLen) :
    Calls Tryd.prog 13 #[.slice a ns.length c] w fun e w' => e = .returned (.int .i64 (Cf.nErr ns : Int)) ∧ Below w.heap.size w w' := by
  have H := Lib.hid h
  have HN := Lib.hid hb
  have R1 : Hid (8 < ns.length → Cf.nErr ns = 1) := Lib.hid (fun h => by unfold Cf.nErr; rw [if_pos h])
  have R2 : Hid (ns.length ≤ 8 → Cf.nErr ns = Cf.from_ ns 0) := Lib.hid (fun h => by unfold Cf.nErr; rw [if_neg (by omega)])
  obtain ⟨R, hR⟩ : ∃ R, R = Cf.nErr ns := ⟨_, rfl⟩
  rw [← hR] at R1 R2 ⊢
  clear hR h hb
  obtain ⟨n, hn⟩ : ∃ n, n = ns.length := ⟨_, rfl⟩
  rw [← hn] at H R1 R2 hm ⊢
  have Hn := Lib.hid hn
  have hm' : n ≤ 9223372036854775807 := by unfold maxLen at hm; omega
  clear hn hm
  by_cases h8 : 8 < n
  · have d8 : (8 : Int) < (n : Int) := by omega
    have Hr := Lib.hid (R1.out h8)
    go_enter Tryd.func13, Tryd.ntmps13
    go_wp2
    go_ret
    exact ⟨by rw [Hr.out]; rfl, Below.refl _ _⟩
  have d8 : ¬ (8 : Int) < (n : Int) := by omega
  have hn8 : n ≤ 8 := by omega
  have Hr0 := Lib.hid (R2.out hn8)
  clear R1 R2 h8
  go_enter Tryd.func13, Tryd.ntmps13
  go_wp2
  go_loopw [11] (fun i wr => ∃ j : Nat, j ≤ n ∧ i = .int .i64 (j : Int) ∧ Hid (R = Cf.from_ ns j) ∧ Hid (Below w.heap.size w wr)) (fun i _ => n - (intOf i).toNat)
  case atStart => exact ⟨0, Nat.zero_le _, rfl, Hr0, Lib.hid (Below.refl _ _)⟩
  case round =>
    obtain ⟨j, hj, rfl, Ha, HBo⟩ := hrel
    obtain ⟨wo, hwo⟩ : ∃ wo, wo = wr := ⟨_, rfl⟩
    subst hwo
    have hsz := HBo.out.size
    by_cases hlt : j < n
    · have hll : j < ns.length := by have := Hn.out; omega
      obtain ⟨b, off, rfl, hbl, hc⟩ := (H.out.below HBo.out).2 (by omega)
      obtain ⟨c0, c1⟩ := hc j hll
      have HF1 := Lib.hid (fun W => net_Check ns[j].1 ns[j].2 W (HN.out _ (List.getElem_mem hll)).1 (HN.out _ (List.getElem_mem hll)).2.1 (HN.out _ (List.getElem_mem hll)).2.2)
      have Hbad := Lib.hid (fun he => Cf.from_bad hll he)
      have Hone : Hid (j = 0 → Nt.err ns[j].1 ns[j].2 = 0 → Cf.from_ ns j = Cf.from_ ns (j + 1)) := Lib.hid (fun h0 he => by subst h0; exact Cf.from_first hll he)
      have Hord : Hid (∀ h0 : 0 < j, ∃ q : Nat × Int, wo.cell? ⟨b, off + (j - 1) * 2, none⟩ = some (.int .u32 (q.1 : Int)) ∧ wo.cell? ⟨b, off + (j - 1) * 2 + 1, none⟩ = some (.int .i64 q.2) ∧ NetBounds q ∧ NetBounds ns[j] ∧ (Nt.err ns[j].1 ns[j].2 = 0 → Nt.order ns[j].1 ns[j].2 q.1 q.2 = 1 → Cf.from_ ns j = Cf.from_ ns (j + 1)) ∧ (Nt.err ns[j].1 ns[j].2 = 0 → Nt.order ns[j].1 ns[j].2 q.1 q.2 ≠ 1 → Cf.from_ ns j = 6)) :=
        Lib.hid (fun h0 => ⟨ns[j - 1], (hc (j - 1) (by omega)).1, (hc (j - 1) (by omega)).2, HN.out _ (List.getElem_mem _), HN.out _ (List.getElem_mem _), fun he ho => Cf.from_less hll h0 he ho, fun he ho => Cf.from_twice hll h0 he ho⟩)
      clear hc
      generalize ns[j] = x at *
      obtain ⟨na, nb⟩ := x
      simp only at c0 c1 HF1 Hbad Hone Hord
      obtain ⟨w7, hw7⟩ : ∃ w7, w7 = wo.alloc (.cells #[.int .u32 (na : Int), .int .i64 nb] 44) := ⟨_, rfl⟩
      have hA7 : Below wo.heap.size wo w7 := by rw [hw7]; exact (Below.refl _ _).alloc (Nat.le_refl _) _
      have HM7 := Lib.hid (show Blk w7 wo.heap.size 44 [.int .u32 (na : Int), .int .i64 nb] by rw [hw7]; exact Blk.new _ _ _)
      have HA7 := Lib.hid hA7
      have m0 := HM7.out.cell 0 rfl
      have m1 := HM7.out.cell 1 rfl
      clear hA7
      go_upto_region 6 with fail
      rw [← hw7]
      clear hw7
      unfold netV at HF1
      go_wp2_with fail
      refine (HF1.out w7).mono ?_
      rintro e w8 ⟨rfl, hb8⟩
      have HM8 := Lib.hid (HM7.out.kept hb8)
      have HA8 := Lib.hid (HA7.out.trans (hb8.mono HA7.out.size))
      have HBf := Lib.hid (HBo.out.trans (HA8.out.mono hsz))
      clear hb8 m0 m1 HM7 HA7 c0 c1
      by_cases hr : Nt.err na nb = 0
      rotate_left
      · have hnr : ((Nt.err na nb : Int) != 0) = true := by simpa using hr
        have Hr := Lib.hid (Ha.out.trans (Hbad.out hr))
        clear hr
        go_wp2
        go_ret
        exact ⟨by rw [Hr.out]; rfl, HBf.out⟩
      have HR := Lib.hid hr
      rw [hr]
      clear hr Hbad
      by_cases h0 : j = 0
      · have Hnx := Lib.hid (Ha.out.trans (Hone.out h0 HR.out))
        have q0 : ¬ 0 < j := by omega
        have q1 : decide ((0 : Int) < (j : Int)) = false := decide_eq_false (by omega)
        clear Hone Hord h0
        go_wp2_with fail
        go_quiet (fail)
        go_wp2
        go_roundw
        case rel => exact ⟨j + 1, by omega, by go_num, Hnx, Lib.hid (below_drewN HBf.out _)⟩
        case measure => simp [intOf]; omega
      · obtain ⟨i, rfl⟩ : ∃ i, j = i + 1 := ⟨j - 1, by omega⟩
        obtain ⟨⟨qa, qb⟩, p0, p1, hqb, hnb, Hless, Htw⟩ := Hord.out (by omega)
        rw [Nat.add_sub_cancel] at p0 p1
        simp only at p0 p1 Hless Htw
        have HO := Lib.hid (fun W => net_Compare na nb qa qb W hnb.1 hqb.1 hnb.2.1 hnb.2.2 hqb.2.1 hqb.2.2)
        unfold netV at HO
        have Ho1 := Lib.hid (order_one na nb qa qb)
        have Hle := Lib.hid (fun h => Ha.out.trans (Hless HR.out h))
        have Hge := Lib.hid (fun h => Ha.out.trans (Htw HR.out h))
        have q0 : 0 < i + 1 := by omega
        have q1 : decide ((0 : Int) < ((i + 1 : Nat) : Int)) = true := decide_eq_true (by omega)
        have HS8 : Hid (∀ W, Below w8.heap.size w8 W → W.cell? ⟨wo.heap.size, 0, none⟩ = some (.int .u32 (na : Int)) ∧ W.cell? ⟨wo.heap.size, 1, none⟩ = some (.int .i64 nb) ∧ W.cell? ⟨b, off + i * 2, none⟩ = some (.int .u32 (qa : Int)) ∧ W.cell? ⟨b, off + i * 2 + 1, none⟩ = some (.int .i64 qb) ∧ Below w8.heap.size w8 W) :=
          Lib.hid fun W hW => by
            have hWo : Below wo.heap.size wo W := HA8.out.trans (hW.mono HA8.out.size)
            exact ⟨(HM8.out.kept hW).cell 0 rfl, (HM8.out.kept hW).cell 1 rfl, cell_below hWo p0, cell_below hWo p1, hW⟩
        have HOO : Hid (∀ W, (W.cell? ⟨wo.heap.size, 0, none⟩ = some (.int .u32 (na : Int)) ∧ W.cell? ⟨wo.heap.size, 1, none⟩ = some (.int .i64 nb) ∧ W.cell? ⟨b, off + i * 2, none⟩ = some (.int .u32 (qa : Int)) ∧ W.cell? ⟨b, off + i * 2 + 1, none⟩ = some (.int .i64 qb) ∧ Below w8.heap.size w8 W) →
            Calls Tryd.prog 32 #[.agg #[.int .u32 (na : Int), .int .i64 nb], .agg #[.int .u32 (qa : Int), .int .i64 qb]] W fun e W' => e = .returned (.int .i64 (Nt.order na nb qa qb)) ∧ (W'.cell? ⟨wo.heap.size, 0, none⟩ = some (.int .u32 (na : Int)) ∧ W'.cell? ⟨wo.heap.size, 1, none⟩ = some (.int .i64 nb) ∧ W'.cell? ⟨b, off + i * 2, none⟩ = some (.int .u32 (qa : Int)) ∧ W'.cell? ⟨b, off + i * 2 + 1, none⟩ = some (.int .i64 qb) ∧ Below w8.heap.size w8 W')) :=
          Lib.hid fun W hW => (HO.out W).mono fun e W' ⟨he, hb⟩ => ⟨he, HS8.out W' (hW.2.2.2.2.trans (hb.mono hW.2.2.2.2.size))⟩
        obtain ⟨y0, y1, y3, y4, _⟩ := HS8.out w8 (Below.refl _ _)
        clear p0 p1 Hless Htw Hone Hord hqb hnb HO
        have i2 : (i : Int) < (n : Int) := by omega
        have i4 : (0 : Int) ≤ (i : Int) := by omega
        have i5 : (i : Int) ≤ 8 := by omega
        have i7 : IntKind.i64.wrap (((i + 1 : Nat) : Int) - 1) = (i : Int) := by rw [IntKind.wrap_i64]; omega
        have i8 : IntKind.i64.wrap ((i : Int) + 1 - 1) = (i : Int) := by rw [IntKind.wrap_i64]; omega
        have i9 : IntKind.i64.wrap (i : Int) = (i : Int) := by rw [IntKind.wrap_i64]; omega
        have i3 : ((i + 1 : Nat) : Int) - 1 = (i : Int) := by omega
        generalize Nt.order na nb qa qb = od at *
        by_cases ho : od = 1
        · have ho1 : decide (od ≤ 0) = false := decide_eq_false (by omega)
          have Hnx := Lib.hid (Hle.out ho)
          clear ho Hle Hge Ho1
          go_upto_region 9 with fail
          go_region_held3 (fun W => W.cell? ⟨wo.heap.size, 0, none⟩ = some (.int .u32 (na : Int)) ∧ W.cell? ⟨wo.heap.size, 1, none⟩ = some (.int .i64 nb) ∧ W.cell? ⟨b, off + i * 2, none⟩ = some (.int .u32 (qa : Int)) ∧ W.cell? ⟨b, off + i * 2 + 1, none⟩ = some (.int .i64 qb) ∧ Below w8.heap.size w8 W) (first | assumption | (exact ⟨y0, y1, y3, y4, (Below.refl _ _).drew⟩))
            (first | (go_at_call 32; refine (HOO.out _ (by first | assumption | exact ⟨y0, y1, y3, y4, (Below.refl _ _).drew⟩)).mono ?_; rintro e w9 ⟨rfl, hS9⟩))
          have HB9 := Lib.hid (HBf.out.trans (hS9.2.2.2.2.mono HBf.out.size))
          clear hS9 y0 y1 y3 y4
          go_wp2
          go_roundw
          case rel => exact ⟨i + 1 + 1, by omega, by go_num, Hnx, HB9⟩
          case measure => simp [intOf]; omega
        · have ho1 : decide (od ≤ 0) = true := decide_eq_true (Ho1.out.resolve_left ho)
          have Hnx := Lib.hid (Hge.out ho)
          clear ho Hle Hge Ho1
          go_upto_region 9 with fail
          go_region_held3 (fun W => W.cell? ⟨wo.heap.size, 0, none⟩ = some (.int .u32 (na : Int)) ∧ W.cell? ⟨wo.heap.size, 1, none⟩ = some (.int .i64 nb) ∧ W.cell? ⟨b, off + i * 2, none⟩ = some (.int .u32 (qa : Int)) ∧ W.cell? ⟨b, off + i * 2 + 1, none⟩ = some (.int .i64 qb) ∧ Below w8.heap.size w8 W) (first | assumption | (exact ⟨y0, y1, y3, y4, (Below.refl _ _).drew⟩))
            (first | (go_at_call 32; refine (HOO.out _ (by first | assumption | exact ⟨y0, y1, y3, y4, (Below.refl _ _).drew⟩)).mono ?_; rintro e w9 ⟨rfl, hS9⟩))
          have HB9 := Lib.hid (HBf.out.trans (hS9.2.2.2.2.mono HBf.out.size))
          clear hS9 y0 y1 y3 y4
          go_wp2
          go_ret
          exact ⟨by rw [Hnx.out]; rfl, HB9.out⟩
    · obtain rfl : j = n := by omega
      have Hr := Lib.hid (Ha.out.trans (Cf.from_end ns j (by have := Hn.out; omega)))
      go_wp2
      go_ret
      exact ⟨by rw [Hr.out]; rfl, HBo.out⟩
end Go.Proofs.YtjdflnnpamjjcaaDoor

namespace Go.Proofs.YtjdflnnpamjjcaaDoor
open Go.RowKit

def peerV (p : Cf.P) (a : Option Addr) (c : Nat) : Value := .agg #[.string p.k, .string p.s, .string p.e, .int .i64 p.v, .slice a p.ns.length c]
def confV (x : Cf.C) (a : Option Addr) (c : Nat) : Value := .agg #[.string x.k, .int .i64 x.p, .slice a x.ps.length c]
/-- The peers l lie in memory, behind the slice (a, n). -/
def PeersAt (w : World) (B : Nat) (a : Option Addr) (n : Nat) (l : List Cf.P) : Prop :=
  l.length = n ∧ (0 < n → ∃ b off, a = some ⟨b, off, none⟩ ∧ b < B ∧ ∀ i (h : i < l.length), w.cell? ⟨b, off + i * 5, none⟩ = some (.string l[i].k) ∧ w.cell? ⟨b, off + i * 5 + 1, none⟩ = some (.string l[i].s) ∧ w.cell? ⟨b, off + i * 5 + 2, none⟩ = some (.string l[i].e) ∧ w.cell? ⟨b, off + i * 5 + 3, none⟩ = some (.int .i64 l[i].v) ∧
    ∃ x c, w.cell? ⟨b, off + i * 5 + 4, none⟩ = some (.slice x l[i].ns.length c) ∧ NetsAt w B x l[i].ns.length l[i].ns)
theorem PeersAt.nil (w : World) (B : Nat) (a : Option Addr) : PeersAt w B a 0 [] := ⟨rfl, fun h => absurd h (by decide)⟩
theorem PeersAt.below {w w' : World} {B n : Nat} {a : Option Addr} {l : List Cf.P} (h : PeersAt w B a n l) (hb : Below B w w') : PeersAt w' B a n l :=
  ⟨h.1, fun hn => by
    obtain ⟨b, off, e, hlt, hc⟩ := h.2 hn
    refine ⟨b, off, e, hlt, fun i hi => ?_⟩
    obtain ⟨h0, h1, h2, h3, x, c, h4, h5⟩ := hc i hi
    rw [hb.cell (p := ⟨b, off + i * 5, none⟩) hlt, hb.cell (p := ⟨b, off + i * 5 + 1, none⟩) hlt, hb.cell (p := ⟨b, off + i * 5 + 2, none⟩) hlt, hb.cell (p := ⟨b, off + i * 5 + 3, none⟩) hlt]
    exact ⟨h0, h1, h2, h3, x, c, by rw [hb.cell (p := ⟨b, off + i * 5 + 4, none⟩) hlt]; exact h4, h5.below hb⟩⟩
theorem PeersAt.more {w : World} {B B' n : Nat} {a : Option Addr} {l : List Cf.P} (h : PeersAt w B a n l) (hB : B ≤ B') : PeersAt w B' a n l :=
  ⟨h.1, fun hn => by
    obtain ⟨b, off, e, hlt, hc⟩ := h.2 hn
    refine ⟨b, off, e, Nat.lt_of_lt_of_le hlt hB, fun i hi => ?_⟩
    obtain ⟨h0, h1, h2, h3, x, c, h4, h5⟩ := hc i hi
    exact ⟨h0, h1, h2, h3, x, c, h4, h5.more hB⟩⟩
theorem PeersAt.kept {w w' : World} {n : Nat} {a : Option Addr} {l : List Cf.P} (h : PeersAt w w.heap.size a n l) (hb : Below w.heap.size w w') : PeersAt w' w'.heap.size a n l := (h.below hb).more hb.size
end Go.Proofs.YtjdflnnpamjjcaaDoor

namespace Go.Proofs.YtjdflnnpamjjcaaDoor
open Go.RowKit

set_option maxRecDepth 20000 in
set_option maxHeartbeats 8000000 in
theorem conf_Right0 (p : Cf.P) (a : Option Addr) (c : Nat) (w : World) (h : NetsAt w w.heap.size a p.ns.length p.ns) (hs : PeerSmall p) (hb : ∀ n ∈ p.ns, NetBounds n) (hm : p.ns.length ≤ maxLen) (hC : MaxTab w) :
    Calls Tryd.prog 5 #[peerV p a c] w fun e w' => e = .returned (.int .i64 (Cf.right p : Int)) ∧ Below w.heap.size w w' := by
  have HK := Lib.hid (fun W => hex_Check p.k W (by have := hs.1; unfold maxLen; omega))
  have HS := Lib.hid (fun W => conf_checkShared p.s W (by have := hs.2.1; unfold maxLen; omega))
  have HE := Lib.hid (fun W (hW : Below w.heap.size w W) => conf_checkEndpoint p.e W hs.2.2 (hC.below hW))
  have HN := Lib.hid (fun W (hW : Below w.heap.size w W) => conf_checkNets a c p.ns W ((h.below hW).more hW.size) hb hm)
  have e1 : Cf.keyErr p.k = Hx.checkErr p.k.data.toList := rfl
  have HR := Lib.hid (Cf.right_code p)
  rw [e1] at HR
  obtain ⟨R, hR⟩ : ∃ R, R = Cf.right p := ⟨_, rfl⟩
  rw [← hR] at HR ⊢
  clear hR e1 h hs hb hm hC
  obtain ⟨pk, ps, pe, pv, ns⟩ := p
  unfold peerV
  simp only at HK HS HE HN HR ⊢
  generalize Hx.checkErr pk.data.toList = rk at *
  generalize Cf.sErr ps = rs at *
  generalize Cf.eErr pe = re at *
  generalize Cf.nErr ns = rn at *
  generalize ns.length = n at *
  obtain ⟨w1, hw1⟩ : ∃ w1, w1 = w.alloc (.cells #[.string pk, .string ps, .string pe, .int .i64 pv, .slice a n c] 24) := ⟨_, rfl⟩
  have HA := Lib.hid (show Below w.heap.size w w1 by rw [hw1]; exact (Below.refl _ _).alloc (Nat.le_refl _) _)
  have HG := Lib.hid (show Blk w1 w.heap.size 24 [.string pk, .string ps, .string pe, .int .i64 pv, .slice a n c] by rw [hw1]; exact Blk.new _ _ _)
  obtain ⟨g0, g1, g2, g3, g4⟩ := HG.out.facts5.1
  go_enter Tryd.func5, Tryd.ntmps5
  go_wp2_with fail
  rw [← hw1]
  clear hw1
  refine (HK.out w1).mono ?_
  rintro e w2 ⟨rfl, rfl⟩
  clear HK
  by_cases h1 : rk = 0
  rotate_left
  · have hn1 : ((rk : Int) != 0) = true := by simpa using h1
    have Hr : Hid (R = rk) := Lib.hid (by rw [HR.out, if_pos h1])
    clear h1
    go_wp2
    go_ret
    exact ⟨by rw [Hr.out]; rfl, HA.out⟩
  have HR1 := Lib.hid (show R = _ by rw [HR.out, if_neg (fun hn => hn h1)])
  subst h1
  clear HR
  go_wp2_with fail
  refine (HS.out w1).mono ?_
  rintro e w2 ⟨rfl, rfl⟩
  clear HS
  by_cases h2 : rs = 0
  rotate_left
  · have hn1 : ((rs : Int) != 0) = true := by simpa using h2
    have Hr : Hid (R = rs) := Lib.hid (by rw [HR1.out, if_pos h2])
    clear h2
    go_wp2
    go_ret
    exact ⟨by rw [Hr.out]; rfl, HA.out⟩
  have HR2 := Lib.hid (show R = _ by rw [HR1.out, if_neg (fun hn => hn h2)])
  subst h2
  clear HR1
  go_wp2_with fail
  refine (HE.out w1 HA.out).mono ?_
  rintro e w2 ⟨rfl, hb2⟩
  have HG2 := Lib.hid (HG.out.kept hb2)
  have HA2 := Lib.hid (HA.out.trans (hb2.mono HA.out.size))
  clear HE hb2 g0 g1 g2 g3 g4 HG HA
  obtain ⟨g0, g1, g2, g3, g4⟩ := HG2.out.facts5.1
  by_cases h3 : re = 0
  rotate_left
  · have hn1 : ((re : Int) != 0) = true := by simpa using h3
    have Hr : Hid (R = re) := Lib.hid (by rw [HR2.out, if_pos h3])
    clear h3
    go_wp2
    go_ret
    exact ⟨by rw [Hr.out]; rfl, HA2.out⟩
  have HR3 := Lib.hid (show R = _ by rw [HR2.out, if_neg (fun hn => hn h3)])
  subst h3
  clear HR2
  by_cases hv1 : pv < 0
  · have d1 : decide (pv < 0) = true := decide_eq_true hv1
    have Hr : Hid (R = 4) := Lib.hid (by rw [HR3.out, if_pos (.inl hv1)])
    clear hv1
    go_wp2
    go_ret
    exact ⟨by rw [Hr.out]; rfl, HA2.out⟩
  have d1 : decide (pv < 0) = false := decide_eq_false hv1
  by_cases hv2 : 65535 < pv
  · have d2 : decide (65535 < pv) = true := decide_eq_true hv2
    have Hr : Hid (R = 4) := Lib.hid (by rw [HR3.out, if_pos (.inr hv2)])
    clear hv1 hv2
    go_wp2
    go_ret
    exact ⟨by rw [Hr.out]; rfl, HA2.out⟩
  have d2 : decide (65535 < pv) = false := decide_eq_false hv2
  have Hr : Hid (R = rn) := Lib.hid (by rw [HR3.out, if_neg (by omega)])
  clear hv1 hv2 HR3
  go_wp2_with fail
  refine (HN.out w2 HA2.out).mono ?_
  rintro e w3 ⟨rfl, hb3⟩
  have HA3 := Lib.hid (HA2.out.trans (hb3.mono HA2.out.size))
  clear hb3
  go_wp2
  go_ret
  exact ⟨by rw [Hr.out]; rfl, HA3.out⟩
theorem conf_Right (p : Cf.P) (a : Option Addr) (c : Nat) (w : World) (h : NetsAt w w.heap.size a p.ns.length p.ns) (hs : PeerSmall p) (hb : ∀ n ∈ p.ns, NetBounds n) (hm : p.ns.length ≤ maxLen) (hC : CodeTabs w) :
    Calls Tryd.prog 5 #[peerV p a c] w fun e w' => e = .returned (.int .i64 (Cf.right p : Int)) ∧ Below w.heap.size w w' := conf_Right0 p a c w h hs hb hm hC.2
end Go.Proofs.YtjdflnnpamjjcaaDoor
