/- Rows of structs in memory, whatever the struct: k cells an element. -/
import Derived.Test.YtjdflnnpamjjcaaGreatDoorSz07
import Derived.Test.YtjdflnnpamjjcaaGreatDoorTriePlain
import Derived.Maps.Views
import Derived.Maps.Own
import Derived.WideAt
import Derived.Test.YtjdflnnpamjjcaaGreatDoorSz02
import Derived.Laws.Tables
import Derived.Test.YtjdflnnpamjjcaaGreatDoorSz04
import Derived.Carry
import Derived.Test.YtjdflnnpamjjcaaGreatDoorRows
import Derived.Test.YtjdflnnpamjjcaaGreatDoorMem
import Derived.Deep.WholeRow
import Derived.Deep.AppendLies
import Derived.Maps.AppendAt
import Derived.Laws.CopyOwn
import Derived.Laws.MakeOwn
import Derived.Laws.OwnMore
import Derived.Laws.CopyRow
namespace Go.Proofs.YtjdflnnpamjjcaaGreatDoor
open Go.RowKit Go.Maps

theorem netLit_is (x : Tr.Nw) : WideAt.IsKeyLit (netLit x) := trivial
theorem netLit_one {x y : Tr.Nw} (hx : Tr.good x) (hy : Tr.good y) (h : netLit x = netLit y) : x = y := by
  have h1 := net_key x hx
  have h2 := net_key y hy
  rw [← h] at h2
  have e := net_law.inj h1 h2
  unfold netV at e
  have e2 := congrArg (fun v => match v with | .agg xs => xs.toList | _ => []) e
  simp only [List.cons.injEq, Value.int.injEq, true_and, and_true] at e2
  exact Prod.ext (by omega) e2.2
/-- The set as data. -/
noncomputable def metD (l : List Tr.Nw) : DataW Unit := l.foldl (fun D x => D.put (netLit x) (.lit (.bool true))) (.map [])
theorem metD_snoc (l : List Tr.Nw) (x : Tr.Nw) : metD (l ++ [x]) = (metD l).put (netLit x) (.lit (.bool true)) := by unfold metD; rw [List.foldl_append]; rfl
theorem metD_map (l : List Tr.Nw) : IsMap (metD l) := by
  have h : ∀ (l : List Tr.Nw) (D : DataW Unit), IsMap D → IsMap (l.foldl (fun D x => D.put (netLit x) (.lit (.bool true))) D) := by
    intro l
    induction l with
    | nil => intro D h; exact h
    | cons x r ih => intro D h; exact ih _ (IsMap.put h _ _)
  exact h l _ ⟨_, rfl⟩
theorem metD_at (x : Tr.Nw) (hx : Tr.good x) (n : Nat) : ∀ l : List Tr.Nw, l.length = n → (∀ y ∈ l, Tr.good y) → (metD l).atKey (netLit x) (.lit (.bool false)) = .lit (.bool (decide (x ∈ l))) := by
  induction n with
  | zero =>
    intro l hn _
    rw [List.length_eq_zero_iff.1 hn]
    rfl
  | succ n ih =>
    intro l hn hl
    obtain ⟨r, y, rfl⟩ : ∃ r y, l = r ++ [y] := by
      rcases List.eq_nil_or_concat l with rfl | ⟨r, y, h⟩
      · simp at hn
      · exact ⟨r, y, by rw [h]; simp⟩
    have hy : Tr.good y := hl y (by simp)
    have hr : r.length = n := by simpa using hn
    rw [metD_snoc]
    by_cases he : x = y
    · subst he
      rw [atKey_put_same (metD_map r) (netLit_is x)]
      rw [decide_eq_true (by simp)]
    · rw [atKey_put_other (fun e => he (netLit_one hx hy e)), ih r hr (fun z hz => hl z (by simp [hz]))]
      congr 2
      rw [Bool.eq_iff_iff]
      simp [he]
/-- Block b is the set of the networks l. -/
def MetK (l : List Tr.Nw) (b : Nat) (W : World) : Prop := W.ownsMap Tryz.prog 47 (plainElem (H := Unit) Tryz.prog 4) b l.length (metD l)
theorem MetK.below {l : List Tr.Nw} {b : Nat} {W W' : World} (h : MetK l b W) (hb : Below W.heap.size W W') : MetK l b W' :=
  World.ownsMap.kept (row := none) h ⟨hb.os, hb.tape, hb.output, hb.size, fun j hj _ => hb.block j hj⟩ (by simp)
theorem MetK.made (w : World) : MetK [] w.heap.size (w.alloc (.map #[] 0)) := World.ownsMap_made w _ _ _
set_option maxRecDepth 100000 in
theorem plain_bool_inv {e : TypeId} (he : Tryz.prog.underlying e = some .bool) {v : Value} {z : DataW Unit × List MemPlace} (h : plainElem Tryz.prog e v = some z) : ∃ c, v = .bool c ∧ z = (.lit (.bool c), []) := by
  unfold plainElem at h
  rw [he] at h
  cases v <;> simp at h
  exact ⟨_, rfl, h.symm⟩
set_option maxRecDepth 100000 in
theorem met_look {l : List Tr.Nw} {b : Nat} {W : World} (h : MetK l b W) (hl : ∀ y ∈ l, Tr.good y) (x : Tr.Nw) (hx : Tr.good x) :
    (Instr.lookup 44 (.map (some b)) (.agg #[.int .u32 (x.1 : Int), .int .i64 x.2]) false).run Tryz.prog W = .ok (.bool (decide (x ∈ l))) W := by
  have hz : (zeroValue 4).run Tryz.prog W = .ok (.bool false) W := by kernel_rfl
  obtain ⟨v, ps, hrun, hv⟩ := World.ownsMap.lookup (t := 44) (e := 4) h net_law Tryz.underlying44 hz (plainElem_bool Tryz.underlying4 false) (net_key x hx)
  obtain ⟨c, rfl, hc⟩ := plain_bool_inv Tryz.underlying4 hv
  simp only [Prod.mk.injEq] at hc
  rw [metD_at x hx l.length l rfl hl] at hc
  injection hc.1 with e1
  injection e1 with e2
  rw [e2]
  exact hrun
open Classical in
set_option maxRecDepth 100000 in
theorem met_put (l : List Tr.Nw) (b : Nat) (hn : l.length < 1000) (x : Tr.Nw) (hx : Tr.good x) : ∃ mf : World → World, ∀ W, MetK l b W →
    (Instr.mapUpdate 44 (.map (some b)) (.agg #[.int .u32 (x.1 : Int), .int .i64 x.2]) (.bool true)).run Tryz.prog W = .ok () (mf W) ∧ MetK (l ++ [x]) b (mf W) ∧ W.grownBy (mf W) (some b) := by
  have h0 : ∀ W, MetK l b W → ∃ W', (Instr.mapUpdate 44 (.map (some b)) (.agg #[.int .u32 (x.1 : Int), .int .i64 x.2]) (.bool true)).run Tryz.prog W = .ok () W' ∧ MetK (l ++ [x]) b W' ∧ W.grownBy W' (some b) := fun W hW => by
    obtain ⟨W', h1, h2, h3⟩ := World.ownsMap.update (t := 44) (e := 4) hW net_law Tryz.underlying44 (Nat.lt_trans hn (by decide)) (net_key x hx) (plainElem_bool Tryz.underlying4 true)
    refine ⟨W', h1, ?_, h3⟩
    unfold MetK
    rw [metD_snoc, List.length_append, List.length_singleton]
    exact h2
  refine ⟨fun W => if h : MetK l b W then (h0 W h).choose else W, fun W hW => ?_⟩
  have := (h0 W hW).choose_spec
  simp only [dif_pos hW]
  exact this
end Go.Proofs.YtjdflnnpamjjcaaGreatDoor

namespace Go.Proofs.YtjdflnnpamjjcaaGreatDoor
open Go.RowKit

theorem grown_set_row (w : World) (g : Nat) (cs : Array Value) : w.grownBy (w.setRow g cs) (some g) :=
  ⟨rfl, rfl, rfl, by simp [World.setRow], fun k _ hne => setRow_other w g k cs (fun e => hne (by rw [e]))⟩

/-- A whole struct into its block. -/
theorem wpL_storeBlk {w : World} {ops : Array Oper} {rest : List Oper} {o : Oper} {a : Act} {Q : Exit → Act → World → Prop} (hgd : o.guard = none) (t : TypeId) (x y : Operand) (ho : o.op = .store t x y) (g : Nat) (xs ys : List Value)
    (hx : a.eval x = .pointer (some ⟨g, 0, none⟩)) (hy : a.eval y = .agg ys.toArray) (hg : Blk w g t xs) (hi : (Tryz.prog.info? t).map (·.size) = some xs.length) (hl : ys.length = xs.length) (h1 : ys.all (·.oneCell') = true)
    (h : ∀ w', Blk w' g t ys → w.grownBy w' (some g) → w'.heap.size = w.heap.size → wpList Tryz.prog ops Q rest (a.put o.dst undef) w') : wpList Tryz.prog ops Q (o :: rest) a w := by
  refine wpList_store_row hgd t x y ho g ys.toArray hx hy t xs.toArray hg (by simpa [hl] using hi) (by simp [hl]) (by simpa using h1) (h _ (setRow_heap w g _ _ t _ hg) (grown_set_row w g _) (by simp))
theorem Blk.beside {w w' : World} {g k : Nat} {t : TypeId} {xs : List Value} (h : Blk w k t xs) (hg : w.grownBy w' (some g)) (hne : k ≠ g) : Blk w' k t xs :=
  (hg.block k h.lt (fun e => hne (by injection e))).trans h
/-- Bytes of the call's own beside another block that is written. -/
theorem own_beside_row {w w' : World} {base n c m g : Nat} {a : Option Addr} {xs : List Value} {t : TypeId} (ho : w.ownsRow base t 1 (.slice a n c) m xs) (hg : w.grownBy w' (some g)) (hk : g < base) : w'.ownsRow base t 1 (.slice a n c) m xs :=
  ho.kept hg (by
    cases hb : (Value.slice a n c).ownBlock with
    | none => exact .inl rfl
    | some j => exact .inr (fun e => by injection e with e; have := (ho.lt j hb).1; omega))
theorem below_row {w w' w0 : World} {B g : Nat} (h : Below B w0 w) (hg : w.grownBy w' (some g)) (hB : B ≤ w.heap.size) (hk : B ≤ g) : Below B w0 w' := h.grown hg hB (fun k e => by injection e with e; omega)
end Go.Proofs.YtjdflnnpamjjcaaGreatDoor

namespace Go.Proofs.YtjdflnnpamjjcaaGreatDoor
open Go.RowKit

set_option maxRecDepth 20000 in
set_option maxHeartbeats 16000000 in
theorem ref_ConfFault (x : Cf.C) (a : Option Addr) (c : Nat) (w : World) (h : PeersAt w w.heap.size a x.ps.length x.ps) (hk : x.k.size ≤ 1048576) (hs : ∀ p ∈ x.ps, PeerSmall p) (hb : ∀ p ∈ x.ps, PeerBounds p) (hT : AllTabs w) :
    Calls Tryz.prog 8 #[confV x a c] w fun e w' => e = .returned (.int .i64 (Cf.err x : Int)) ∧ Below w.heap.size w w' := by
  have E1 := Lib.hid (fun h1 h2 => conf_key (x := x) h1 h2)
  have E2 := Lib.hid (fun h1 h2 => conf_port (x := x) h1 h2)
  have E3 := Lib.hid (fun h1 h2 h3 => conf_many (x := x) h1 h2 h3)
  have E4 := Lib.hid (fun h1 h2 h3 => conf_peers (x := x) h1 h2 h3)
  obtain ⟨R, hR⟩ : ∃ R, R = Cf.err x := ⟨_, rfl⟩
  rw [← hR] at E1 E2 E3 E4 ⊢
  clear hR
  have HK := Lib.hid (fun W => ref_HexFault x.k W (by unfold maxLen; omega))
  have HP := Lib.hid (fun (p : Cf.P) (hp : p ∈ x.ps) a' c' W (hW : Below w.heap.size w W) (hn : NetsAt W W.heap.size a' p.ns.length p.ns) => ref_PeerFault p a' c' W hn (hs p hp) (hb p hp).1 (hT.below hW))
  have HNb := Lib.hid (fun p hp => (hb p hp).1)
  obtain ⟨ck, cp, l⟩ := x
  simp only at h hk hs hb E1 E2 E3 E4 HK HP HNb
  have H := Lib.hid h
  obtain ⟨n, hn⟩ : ∃ n, n = l.length := ⟨_, rfl⟩
  unfold confV
  simp only
  rw [← hn] at H E3 E4 ⊢
  have Hn := Lib.hid hn
  clear h hk hs hb hT hn
  have e1 : Cf.keyErr ck = Hx.checkErr ck.data.toList := rfl
  rw [e1] at E1 E2 E3 E4
  clear e1
  generalize Hx.checkErr ck.data.toList = rk at *
  obtain ⟨q, hq⟩ : ∃ q : Bool, q = decide (ck.size ≠ 0 ∧ rk ≠ 0) := ⟨_, rfl⟩
  have HQ := Lib.hid hq
  clear hq
  have se := empty_size ck
  obtain ⟨w1, hw1⟩ : ∃ w1, w1 = w.alloc (.cells #[.string ck, .int .i64 cp, .slice a n c] 24) := ⟨_, rfl⟩
  have HA := Lib.hid (show Below w.heap.size w w1 by rw [hw1]; exact (Below.refl _ _).alloc (Nat.le_refl _) _)
  have HG := Lib.hid (show Blk w1 w.heap.size 24 [.string ck, .int .i64 cp, .slice a n c] by rw [hw1]; exact Blk.new _ _ _)
  go_enter Tryz.func8, Tryz.ntmps8
  go_upto_region 1 with fail
  rw [← hw1]
  clear hw1
  have g0 := HG.out.cell 0 rfl
  go_cut [18] (fun v wx => v = .bool q ∧ Hid (Blk wx w.heap.size 24 [.string ck, .int .i64 cp, .slice a n c] ∧ Below w.heap.size w wx))
  case first =>
    by_cases h0 : ck.size = 0
    · rw [decide_eq_true h0] at se
      have Hf : Hid (q = false) := Lib.hid (by rw [HQ.out]; exact decide_eq_false (fun h => h.1 h0))
      clear h0
      go_wp2_with fail
      go_meet
      case rel => exact ⟨congrArg Value.bool Hf.out.symm, Lib.hid ⟨HG.out, HA.out⟩⟩
    · rw [decide_eq_false h0] at se
      go_wp2_with fail
      refine (HK.out w1).mono ?_
      rintro e w3 ⟨rfl, hb3⟩
      have HD3 : Hid (Blk w3 w.heap.size 24 [.string ck, .int .i64 cp, .slice a n c] ∧ Below w.heap.size w w3) := Lib.hid ⟨HG.out.kept hb3, HA.out.trans (hb3.mono HA.out.size)⟩
      clear hb3
      by_cases h2 : rk = 0
      · have Hf : Hid (q = false) := Lib.hid (by rw [HQ.out]; exact decide_eq_false (fun h => h.2 h2))
        have hn2 : ((rk : Int) != 0) = false := by simpa using h2
        clear h0 h2
        go_wp2_with fail
        go_meet
        case rel => exact ⟨congrArg Value.bool Hf.out.symm, HD3⟩
      · have Hf : Hid (q = true) := Lib.hid (by rw [HQ.out]; exact decide_eq_true ⟨h0, h2⟩)
        have hn2 : ((rk : Int) != 0) = true := by simpa using h2
        clear h0 h2
        go_wp2_with fail
        go_meet
        case rel => exact ⟨congrArg Value.bool Hf.out.symm, HD3⟩
  case rest =>
    obtain ⟨rfl, HC⟩ := hcut
    obtain ⟨wb, hwb⟩ : ∃ wb, wb = wc := ⟨_, rfl⟩
    subst hwb
    clear se g0 HG HA
    have HGc := Lib.hid HC.out.1
    have HAc := Lib.hid HC.out.2
    clear HC
    have g0 := HGc.out.cell 0 rfl
    have g1 := HGc.out.cell 1 rfl
    have g2 := HGc.out.cell 2 rfl
    have hgl := HGc.out.lt
    cases q with
    | true =>
      have hq := of_decide_eq_true HQ.out.symm
      have Hr := Lib.hid (E1.out hq.1 hq.2)
      clear hq
      go_wp2_with fail
      refine (HK.out wb).mono ?_
      rintro e w4 ⟨rfl, hb4⟩
      have HA4 := Lib.hid (HAc.out.trans (hb4.mono HAc.out.size))
      clear hb4
      go_wp2
      go_ret
      exact ⟨by rw [Hr.out]; rfl, HA4.out⟩
    | false =>
      have Hsk : Hid (ck.size = 0 ∨ rk = 0) := Lib.hid (by
        have hq := of_decide_eq_false HQ.out.symm
        by_cases h : ck.size = 0
        · exact .inl h
        · by_cases h' : rk = 0
          · exact .inr h'
          · exact absurd ⟨h, h'⟩ hq)
      by_cases hv1 : cp < 0
      · have d1 : decide (cp < 0) = true := decide_eq_true hv1
        have Hr := Lib.hid (E2.out Hsk.out (.inl hv1))
        clear hv1
        go_wp2
        go_ret
        exact ⟨by rw [Hr.out]; rfl, HAc.out⟩
      have d1 : decide (cp < 0) = false := decide_eq_false hv1
      by_cases hv2 : 65535 < cp
      · have d2 : decide (65535 < cp) = true := decide_eq_true hv2
        have Hr := Lib.hid (E2.out Hsk.out (.inr hv2))
        clear hv1 hv2
        go_wp2
        go_ret
        exact ⟨by rw [Hr.out]; rfl, HAc.out⟩
      have d2 : decide (65535 < cp) = false := decide_eq_false hv2
      by_cases hn6 : 6 < n
      · have d3 : (6 : Int) < (n : Int) := by omega
        have Hr := Lib.hid (E3.out Hsk.out (by omega) hn6)
        clear hv1 hv2
        go_wp2
        go_ret
        exact ⟨by rw [Hr.out]; rfl, HAc.out⟩
      have d3 : ¬ (6 : Int) < (n : Int) := by omega
      have d4 : decide ((6 : Int) < (n : Int)) = false := decide_eq_false d3
      have Hr0 := Lib.hid (E4.out Hsk.out (by omega) (by omega))
      have hn7 : n ≤ 6 := by omega
      clear hv1 hv2 E1 E2 E3 E4 hn6 Hsk
      obtain ⟨mb, hmb⟩ : ∃ mb, mb = wb.heap.size := ⟨_, rfl⟩
      obtain ⟨w2, hw2⟩ : ∃ w2, w2 = wb.alloc (.map #[] 0) := ⟨_, rfl⟩
      have HM2 := Lib.hid (show MetK [] mb w2 by rw [hw2, hmb]; exact MetK.made wb)
      have HA2 := Lib.hid (show Below w.heap.size w w2 by rw [hw2]; exact HAc.out.alloc HAc.out.size _)
      have HG2 := Lib.hid (show Blk w2 w.heap.size 24 [.string ck, .int .i64 cp, .slice a n c] by rw [hw2]; exact HGc.out.kept ((Below.refl _ _).alloc (Nat.le_refl _) _))
      have hmw : w.heap.size < mb := by rw [hmb]; exact hgl
      have hm2 : mb < w2.heap.size := by rw [hw2, hmb]; simp
      have hmk := run_makeMap (P := Tryz.prog) 44 wb
      go_upto_region 8 with fail
      rw [← hw2, ← hmb]
      clear hmk
      clear hw2 hmb g0 g1 g2 hgl HGc HAc
      have g0 := HG2.out.cell 0 rfl
      have g1 := HG2.out.cell 1 rfl
      have g2 := HG2.out.cell 2 rfl
      go_wp2
      go_loopw [4, 38] (fun v i wr => ∃ k : Nat, k ≤ n ∧ i = .int .i64 (k : Int) ∧ v = .string (Cf.lastOf l k) ∧ Hid (R = Cf.pFrom ck l k) ∧ Hid (MetOk (Cf.metOf l k) k) ∧ Hid (MetK (Cf.metOf l k) mb wr) ∧ Hid (Below mb w2 wr) ∧ Hid (w2.heap.size ≤ wr.heap.size)) (fun _ i _ => n - (intOf i).toNat)
      case atStart => exact ⟨0, Nat.zero_le _, rfl, rfl, Hr0, Lib.hid ⟨Nat.zero_le _, fun y hy => by cases hy⟩, HM2, Lib.hid (Below.refl _ _), Lib.hid (Nat.le_refl _)⟩
      case round =>
        obtain ⟨k, hk, rfl, rfl, Ha, Hmo, Hm, HBr, Hsz⟩ := hrel
        obtain ⟨wo, hwo⟩ : ∃ wo, wo = wr := ⟨_, rfl⟩
        subst hwo
        have hmo : mb ≤ wo.heap.size := by have := Hsz.out; omega
        have HBo := Lib.hid (HA2.out.trans (HBr.out.mono (by omega)))
        have HGo := Lib.hid (HG2.out.below HBr.out hmw)
        have gg0 := HGo.out.cell 0 rfl
        have hwl := HGo.out.lt
        by_cases hlt : k < n
        · have hll : k < l.length := by have := Hn.out; omega
          obtain ⟨b, off, rfl, hbl, hc⟩ := (H.out.below HBo.out).2 (by omega)
          obtain ⟨c0, c1, c2, c3, xa, cc, c4, hnets⟩ := hc k hll
          have HP1 := Lib.hid (HP.out (l[k]'hll) (List.getElem_mem hll))
          have Hpb := Lib.hid (HNb.out l[k] (List.getElem_mem hll))
          have F1 := Lib.hid (fun hr => Cf.pFrom_right (key := ck) hll hr)
          have F2 := Lib.hid (fun hr ho => Cf.pFrom_order (key := ck) hll hr ho)
          have F3 := Lib.hid (fun hr j hj hm => Cf.pFrom_met (key := ck) hll hr j hj hm)
          have F4 := Lib.hid (fun hr ho hm => Cf.pFrom_next (key := ck) hll hr ho hm)
          have F5 := Lib.hid (Cf.last_next l k hll)
          have F6 := Lib.hid (Cf.met_next l k hll)
          clear hc
          generalize l[k] = p at *
          have Hro := Lib.hid (fun hr => Cf.right_ok (p := p) hr)
          have Hnt := Lib.hid hnets
          clear hnets
          generalize Cf.lastOf l k = L at *
          generalize hM0 : Cf.metOf l k = M at *
          generalize Cf.right p = rp at *
          obtain ⟨pk, ps, pe, pv, ns⟩ := p
          simp only at c0 c1 c2 c3 c4 F2 F3 F4 F5 F6 Hro Hpb
          unfold peerV at HP1
          simp only at HP1
          obtain ⟨m, hm⟩ : ∃ m, m = ns.length := ⟨_, rfl⟩
          have Hmn := Lib.hid hm
          have hnt := Hnt.out
          simp only at hnt
          rw [← hm] at c4 HP1 hnt
          have HN := Lib.hid hnt
          clear hm hnt Hnt
          obtain ⟨w5, hw5⟩ : ∃ w5, w5 = wo.alloc (.cells #[.string pk, .string ps, .string pe, .int .i64 pv, .slice xa m cc] 41) := ⟨_, rfl⟩
          have hA5 : Below wo.heap.size wo w5 := by rw [hw5]; exact (Below.refl _ _).alloc (Nat.le_refl _) _
          have HS5 := Lib.hid (show Blk w5 wo.heap.size 41 [.string pk, .string ps, .string pe, .int .i64 pv, .slice xa m cc] by rw [hw5]; exact Blk.new _ _ _)
          have HN5 := Lib.hid ((HN.out.below (hA5.mono (Nat.le_of_lt hwl))).more (Nat.le_trans (Nat.le_of_lt hwl) hA5.size))
          have HB5 := Lib.hid (HBr.out.trans (hA5.mono hmo))
          have HBo5 := Lib.hid (HBo.out.trans (hA5.mono (Nat.le_of_lt hwl)))
          have HMo5 := Lib.hid (Hm.out.below hA5)
          obtain ⟨⟨s0, s1, s2, s3, s4⟩, -⟩ := HS5.out.facts5
          have HA5 := Lib.hid hA5
          clear hA5 HMo5
          go_upto_region 12 with fail
          rw [← hw5]
          clear hw5 c0 c1 c2 c3 c4
          go_wp2_with fail
          refine (HP1.out xa cc w5 HBo5.out HN5.out).mono ?_
          rintro e w6 ⟨rfl, hb6⟩
          have hA6 := HA5.out.trans (hb6.mono HA5.out.size)
          have HA6 := Lib.hid hA6
          have HS6 := Lib.hid (HS5.out.kept hb6)
          have HB6 := Lib.hid (HBr.out.trans (hA6.mono hmo))
          have HBo6 := Lib.hid (HBo.out.trans (hA6.mono (Nat.le_of_lt hwl)))
          have HM6 := Lib.hid (Hm.out.below hA6)
          have hz6 := HS6.out.lt
          clear s0 s1 s2 s3 s4 hb6 hA6
          obtain ⟨⟨s0, s1, s2, s3, s4⟩, -⟩ := HS6.out.facts5
          have gc0 := (HGo.out.below HA6.out hwl).cell 0 rfl
          by_cases hr : rp = 0
          rotate_left
          · have hnr : ((rp : Int) != 0) = true := by simpa using hr
            have Hr := Lib.hid (Ha.out.trans (F1.out hr))
            clear hr
            go_wp2
            go_ret
            exact ⟨by rw [Hr.out]; rfl, HBo6.out⟩
          have HR := Lib.hid hr
          subst hr
          rcases key_order pk L with ⟨k1, k3⟩ | ⟨k1, k2, k3⟩ | ⟨k1, k2, k3⟩
          · have Hr := Lib.hid (Ha.out.trans (F2.out HR.out (.inl k3)))
            clear k3
            go_wp2
            go_ret
            exact ⟨by rw [Hr.out]; rfl, HBo6.out⟩
          · have Hr := Lib.hid (Ha.out.trans (F2.out HR.out (.inl k3)))
            clear k3
            go_wp2
            go_ret
            exact ⟨by rw [Hr.out]; rfl, HBo6.out⟩
          rcases text_eq pk ck with hpk | hpq
          · have Hr := Lib.hid (Ha.out.trans (F2.out HR.out (.inr hpk)))
            have hpq : (pk.toList == ck.toList) = true := by rw [hpk]; simp
            clear k3 hpk
            go_wp2
            go_ret
            exact ⟨by rw [Hr.out]; rfl, HBo6.out⟩
          have Hnx := Lib.hid (F4.out HR.out (by
            rintro (hh | hh)
            · rw [k3] at hh; cases hh
            · rw [hh] at hpq; simp at hpq))
          obtain ⟨o1, o2, o3⟩ := Hro.out HR.out
          have Ho1 := Lib.hid o1
          have Ho2 := Lib.hid o2
          have Ho3 := Lib.hid o3
          have HF3 := Lib.hid (fun j hj hm => Ha.out.trans (F3.out HR.out j hj hm))
          clear o1 o2 o3 k3 F1 F2 F3 F4
          go_wp2
          go_loopw [63] (fun i wr => ∃ j : Nat, j ≤ m ∧ i = .int .i64 (j : Int) ∧ Hid (∀ i' (hi : i' < ns.length), i' < j → ns[i'] ∉ M) ∧ Hid (MetK (M ++ ns.take j) mb wr) ∧ Hid (Below mb w2 wr) ∧ Hid (w2.heap.size ≤ wr.heap.size)) (fun i _ => m - (intOf i).toNat)
          case atStart => exact ⟨0, Nat.zero_le _, rfl, Lib.hid (fun _ _ h => by omega), Lib.hid (by simpa using HM6.out), HB6, Lib.hid HB6.out.size⟩
          case round =>
            obtain ⟨j, hj, rfl, Hno, Hmj, HBj, Hsj⟩ := hrel
            obtain ⟨wi, hwi⟩ : ∃ wi, wi = wr := ⟨_, rfl⟩
            subst hwi
            have hmi : mb ≤ wi.heap.size := by have := Hsj.out; omega
            have hm8 : m ≤ 8 := by have := Ho1.out; have := Hmn.out; omega
            have HBi := Lib.hid (HA2.out.trans (HBj.out.mono (by omega)))
            by_cases hlt2 : j < m
            · have hjl : j < ns.length := by have := Hmn.out; omega
              obtain ⟨b2, off2, rfl, hb2l, hc2⟩ := HN.out.2 (by omega)
              obtain ⟨d0, d1⟩ := hc2 j hjl
              have hce : ∀ ad : Addr, ad.block < mb → wi.cell? ad = wo.cell? ad := fun ad h => (HBj.out.cell h).trans (HBr.out.cell h).symm
              have c0 := (hce ⟨b2, off2 + j * 2, none⟩ (by show b2 < mb; omega)).trans d0
              have c1 := (hce ⟨b2, off2 + j * 2 + 1, none⟩ (by show b2 < mb; omega)).trans d1
              have hx3 := Ho3.out j hjl
              have hxg : Tr.good (ns[j]'hjl) := ⟨(Hpb.out _ (List.getElem_mem hjl)).1, Ho2.out _ (List.getElem_mem hjl)⟩
              have Hin := Lib.hid (fun hm => HF3.out j hjl hm)
              have Htk : Hid (ns.take (j + 1) = ns.take j ++ [ns[j]'hjl]) := Lib.hid (List.take_succ_eq_append_getElem hjl)
              have Hsx := Lib.hid (fun (hm : (ns[j]'hjl) ∉ M) => (show ∀ i' (hi : i' < ns.length), i' < j + 1 → ns[i'] ∉ M from fun i' hi h1 => by
                by_cases h2 : i' < j
                · exact Hno.out i' hi h2
                · obtain rfl : i' = j := by omega
                  exact hm))
              have HgL : Hid (∀ y ∈ M ++ ns.take j, Tr.good y) := Lib.hid (fun y hy => by
                rcases List.mem_append.1 hy with hy | hy
                · exact Hmo.out.2 y hy
                · have hy' := List.mem_of_mem_take hy
                  exact ⟨(Hpb.out y hy').1, Ho2.out y hy'⟩)
              have hlen : (M ++ ns.take j).length < 1000 := by
                rw [List.length_append, List.length_take]
                have := Hmo.out.1
                have := Ho1.out
                omega
              clear d0 d1 hce hc2
              generalize ns[j]'hjl = x at *
              have Hmem : Hid (x ∈ M ++ ns.take j ↔ x ∈ M) := Lib.hid ⟨fun h => (List.mem_append.1 h).resolve_right hx3, fun h => List.mem_append_left _ h⟩
              obtain ⟨mf, hmf⟩ := met_put (M ++ ns.take j) mb hlen x hxg
              have HL2 : Hid (M ++ ns.take (j + 1) = (M ++ ns.take j) ++ [x]) := Lib.hid (by rw [Htk.out, List.append_assoc])
              obtain ⟨w7, hw7⟩ : ∃ w7, w7 = wi.alloc (.cells #[.int .u32 (x.1 : Int), .int .i64 x.2] 47) := ⟨_, rfl⟩
              have hA7 : Below wi.heap.size wi w7 := by rw [hw7]; exact (Below.refl _ _).alloc (Nat.le_refl _) _
              have hM7 := show Blk w7 wi.heap.size 47 [.int .u32 (x.1 : Int), .int .i64 x.2] by rw [hw7]; exact Blk.new _ _ _
              have m0 := hM7.cell 0 rfl
              have m1 := hM7.cell 1 rfl
              have hK7 := Hmj.out.below hA7
              have hlook := met_look hK7 HgL.out x hxg
              obtain ⟨p1, p2, p3⟩ := hmf w7 hK7
              have HB7 := Lib.hid (HBj.out.trans (hA7.mono hmi))
              have HBo7 := Lib.hid (HBi.out.trans (hA7.mono (by have := HBi.out.size; omega)))
              have HK8 : Hid (MetK (M ++ ns.take (j + 1)) mb (mf w7)) := Lib.hid (by rw [HL2.out]; exact p2)
              have HB8 := Lib.hid (below_row HB7.out p3 (by have := HB7.out.size; omega) (Nat.le_refl _))
              obtain ⟨xn, xb⟩ := x
              simp only at m0 m1 hlook p1 c0 c1 hw7
              clear hA7 hM7 hK7 p2 p3 hmf hx3 hxg hlen
              go_upto_region 21 with fail
              rw [← hw7]
              clear hw7 c0 c1
              by_cases hxm : ((xn, xb) : Nat × Int) ∈ M
              · rw [decide_eq_true (Hmem.out.2 hxm)] at hlook
                have Hr := Lib.hid (Hin.out hxm)
                clear hxm
                go_wp2
                go_ret
                exact ⟨by rw [Hr.out]; rfl, HBo7.out⟩
              · rw [decide_eq_false (fun h => hxm (Hmem.out.1 h))] at hlook
                have Hs2 := Lib.hid (Hsx.out hxm)
                clear hxm
                go_wp2
                go_roundw
                case rel => exact ⟨j + 1, by omega, by go_num, Hs2, HK8, HB8, Lib.hid HB8.out.size⟩
                case measure => simp [intOf]; omega
            · obtain rfl : j = m := by omega
              have hall : ∀ y ∈ ns, y ∉ M := fun y hy => by
                obtain ⟨i', hi', rfl⟩ := List.mem_iff_getElem.1 hy
                exact Hno.out i' hi' (by have := Hmn.out; omega)
              have Hp := Lib.hid (Ha.out.trans (Hnx.out hall))
              have htk : ns.take j = ns := List.take_of_length_le (by have := Hmn.out; omega)
              rw [htk, ← F6.out] at Hmj
              have Hmo2 : Hid (MetOk (Cf.metOf l (k + 1)) (k + 1)) := Lib.hid (by
                rw [F6.out]
                refine ⟨by rw [List.length_append]; have := Hmo.out.1; have := Ho1.out; omega, fun y hy => ?_⟩
                rcases List.mem_append.1 hy with hy | hy
                · exact Hmo.out.2 y hy
                · exact ⟨(Hpb.out y hy).1, Ho2.out y hy⟩)
              clear htk hall
              go_wp2
              go_roundw
              case rel => exact ⟨k + 1, by omega, by go_num, congrArg Value.string F5.out.symm, Hp, Hmo2, Hmj, HBj, Hsj⟩
              case measure => simp [intOf]; omega
        · obtain rfl : k = n := by omega
          have Hr := Lib.hid (Ha.out.trans (Cf.pFrom_end ck l k (by have := Hn.out; omega)))
          go_wp2
          go_ret
          exact ⟨by rw [Hr.out]; rfl, HBo.out⟩
end Go.Proofs.YtjdflnnpamjjcaaGreatDoor

namespace Go.Proofs.YtjdflnnpamjjcaaGreatDoor
open Go.RowKit

/-- How the elements of a slice type lie in memory. -/
structure RowTy (α : Type) where
  t : TypeId
  s : TypeId
  k : Nat
  bytes : Nat
  enc : α → List Value
  zero : α
  len : ∀ x, (enc x).length = k
  one : ∀ x, ∀ v ∈ enc x, v.oneCell' = true
  pos : 0 < k
  und : Tryz.prog.underlying s = some (.slice t)
  info : ∃ i z, Tryz.prog.info? t = some i ∧ i.zero = some z ∧ i.size = k ∧ i.bytes = bytes ∧ z.cells = (enc zero).toArray
namespace RowTy
variable {α : Type} (T : RowTy α)
/-- The cells of elements, one after the other. -/
def cs (l : List α) : List Value := l.flatMap T.enc
theorem cs_append (l m : List α) : T.cs (l ++ m) = T.cs l ++ T.cs m := by unfold cs; rw [List.flatMap_append]
theorem cs_cons (x : α) (r : List α) : T.cs (x :: r) = T.enc x ++ T.cs r := by unfold cs; rw [List.flatMap_cons]
theorem cs_nil : T.cs [] = [] := rfl
theorem cs_one (x : α) : T.cs [x] = T.enc x := by unfold cs; simp
theorem cs_length (l : List α) : (T.cs l).length = l.length * T.k := by
  induction l with
  | nil => simp [cs]
  | cons x r ih => rw [cs_cons, List.length_append, ih, T.len, List.length_cons, Nat.succ_mul, Nat.add_comm]
theorem cs_oneCell (l : List α) : ∀ v ∈ T.cs l, v.oneCell' = true := by
  intro v hv
  unfold cs at hv
  obtain ⟨n, _, hm⟩ := List.mem_flatMap.1 hv
  exact T.one n v hm
theorem cs_get : ∀ (l : List α) (i j : Nat) (h : i < l.length), j < T.k → (T.cs l)[i * T.k + j]? = (T.enc l[i])[j]? := by
  intro l
  induction l with
  | nil => intro i j h _; simp at h
  | cons x r ih =>
    intro i j h hj
    rw [cs_cons]
    cases i with
    | zero => rw [Nat.zero_mul, Nat.zero_add, List.getElem?_append_left (by rw [T.len]; exact hj)]; rfl
    | succ i =>
      have e : (i + 1) * T.k + j - (T.enc x).length = i * T.k + j := by rw [T.len, Nat.succ_mul]; omega
      rw [List.getElem?_append_right (by rw [T.len, Nat.succ_mul]; omega), e]
      exact ih i j (by simpa using h) hj
theorem cs_set (L : List α) (i : Nat) (x : α) (h : i < L.length) : (T.cs L).take (i * T.k) ++ T.enc x ++ (T.cs L).drop (i * T.k + (T.enc x).length) = T.cs (L.set i x) := by
  have e : L = L.take i ++ (L[i] :: L.drop (i + 1)) := by simp
  have hk : (T.cs (L.take i)).length = i * T.k := by rw [cs_length, List.length_take, Nat.min_eq_left (by omega)]
  have h1 : T.cs L = T.cs (L.take i) ++ (T.enc L[i] ++ T.cs (L.drop (i + 1))) := by
    conv => lhs; rw [e]
    rw [cs_append, cs_cons]
  have h2 : T.cs (L.set i x) = T.cs (L.take i) ++ (T.enc x ++ T.cs (L.drop (i + 1))) := by
    rw [List.set_eq_take_append_cons_drop, if_pos h, cs_append, cs_cons]
  have h3 : i * T.k + (T.enc x).length = (T.cs (L.take i) ++ T.enc L[i]).length := by rw [List.length_append, hk, T.len, T.len]
  rw [h2, h1, ← hk, List.take_left, List.append_assoc]
  congr 2
  rw [hk, h3, ← List.append_assoc, List.drop_left]
/-- One cell of an element changed. -/
theorem cs_setCell (L : List α) (i j : Nat) (x : α) (v : Value) (h : i < L.length) (hj : j < T.k) (hx : (T.enc L[i]).set j v = T.enc x) : (T.cs L).set (i * T.k + j) v = T.cs (L.set i x) := by
  have e : L = L.take i ++ (L[i] :: L.drop (i + 1)) := by simp
  have hk : (T.cs (L.take i)).length = i * T.k := by rw [cs_length, List.length_take, Nat.min_eq_left (by omega)]
  have h1 : T.cs L = T.cs (L.take i) ++ (T.enc L[i] ++ T.cs (L.drop (i + 1))) := by
    conv => lhs; rw [e]
    rw [cs_append, cs_cons]
  rw [h1, List.set_append_right _ _ (by omega), hk, show i * T.k + j - i * T.k = j by omega, List.set_append_left _ _ (by rw [T.len]; exact hj), hx, List.set_eq_take_append_cons_drop, if_pos h, cs_append, cs_cons]
/-- The elements l lie in memory, behind the slice (a, n). -/
def at_ (w : World) (B : Nat) (a : Option Addr) (n : Nat) (l : List α) : Prop :=
  l.length = n ∧ (0 < n → ∃ b off, a = some ⟨b, off, none⟩ ∧ b < B ∧ ∀ i (h : i < l.length) j u, (T.enc l[i])[j]? = some u → w.cell? ⟨b, off + i * T.k + j, none⟩ = some u)
/-- The elements l in a row of the call's own. -/
def own (w : World) (B : Nat) (v : Value) (l : List α) : Prop := ∃ a c, v = .slice a l.length c ∧ w.ownsRow B T.t T.k (.slice a l.length c) l.length (T.cs l)
end RowTy
section
variable {α : Type} {T : RowTy α}
theorem RowTy.at_.below {w w' : World} {B n : Nat} {a : Option Addr} {l : List α} (h : T.at_ w B a n l) (hb : Below B w w') : T.at_ w' B a n l :=
  ⟨h.1, fun hn => by
    obtain ⟨b, off, e, hlt, hc⟩ := h.2 hn
    exact ⟨b, off, e, hlt, fun i hi j u hu => (hb.cell (p := ⟨b, off + i * T.k + j, none⟩) hlt).trans (hc i hi j u hu)⟩⟩
theorem RowTy.at_.more {w : World} {B B' n : Nat} {a : Option Addr} {l : List α} (h : T.at_ w B a n l) (hB : B ≤ B') : T.at_ w B' a n l :=
  ⟨h.1, fun hn => by
    obtain ⟨b, off, e, hlt, hc⟩ := h.2 hn
    exact ⟨b, off, e, Nat.lt_of_lt_of_le hlt hB, hc⟩⟩
theorem RowTy.own.nil (w : World) (B : Nat) : T.own w B (.slice none 0 0) [] := ⟨none, 0, rfl, World.ownsRow_nil _ _ _ _⟩
theorem RowTy.own.alloc {w : World} {B : Nat} {v : Value} {l : List α} (h : T.own w B v l) (o : Obj) : T.own (w.alloc o) B v l := by
  obtain ⟨a, c, e, ho⟩ := h
  exact ⟨a, c, e, ho.alloc o⟩
theorem RowTy.own.below {w w' : World} {B : Nat} {v : Value} {l : List α} (h : T.own w B v l) (hb : Below w.heap.size w w') : T.own w' B v l := by
  obtain ⟨a, c, e, ho⟩ := h
  exact ⟨a, c, e, ho.kept (row := none) ⟨hb.os, hb.tape, hb.output, hb.size, fun j hj _ => hb.block j hj⟩ (by cases hv : (Value.slice a l.length c).ownBlock <;> simp)⟩
theorem RowTy.own.base {w : World} {B B' : Nat} {v : Value} {l : List α} (h : T.own w B v l) (hb : B' ≤ B) : T.own w B' v l := by
  obtain ⟨a, c, e, ho⟩ := h
  refine ⟨a, c, e, ho.1, ?_⟩
  rcases ho.2 with hn | ⟨g, cap, cur, hv, hg, r⟩
  · exact .inl hn
  · exact .inr ⟨g, cap, cur, hv, Nat.le_trans hb hg, r⟩
/-- What changes another row's block alone leaves a row. -/
theorem RowTy.own.kept {w w' : World} {B : Nat} {u : Value} {l : List α} {row : Option Nat} (h : T.own w B u l) (hg : w.grownBy w' row) (hap : ∀ g, u.ownBlock = some g → row ≠ some g) : T.own w' B u l := by
  obtain ⟨a, c, rfl, ho⟩ := h
  refine ⟨a, c, rfl, ho.kept hg ?_⟩
  cases hb : (Value.slice a l.length c).ownBlock with
  | none => exact .inl rfl
  | some g => exact .inr fun hc => hap g hb hc.symm
theorem RowTy.own.lt {w : World} {B : Nat} {v : Value} {l : List α} (h : T.own w B v l) : ∀ g, v.ownBlock = some g → B ≤ g ∧ g < w.heap.size := by
  obtain ⟨a, c, rfl, ho⟩ := h
  exact ho.lt
theorem RowTy.own.slice {w : World} {B : Nat} {v : Value} {l : List α} (h : T.own w B v l) : ∃ a c, v = .slice a l.length c ∧ (a = none → l.length = 0 ∧ c = 0) ∧ l.length ≤ c ∧ c ≤ maxLen := by
  obtain ⟨a, c, rfl, ho⟩ := h
  rcases ho.2 with ⟨hv, hz⟩ | ⟨g, cap, cur, hv, hb, hg, hk, hm, hs, ht⟩
  · injection hv with h1 h2 h3
    subst h1 h3
    exact ⟨none, 0, rfl, fun _ => ⟨hz, rfl⟩, by omega, Nat.zero_le _⟩
  · injection hv with h1 h2 h3
    subst h1 h3
    exact ⟨_, c, rfl, (fun h => by cases h), hk, hm⟩
/-- A row read as a slice. -/
theorem RowTy.own.at {w : World} {B : Nat} {v : Value} {l : List α} (h : T.own w B v l) : ∃ a c, v = .slice a l.length c ∧ (a = none → l.length = 0 ∧ c = 0) ∧ T.at_ w w.heap.size a l.length l := by
  obtain ⟨a, c, rfl, ho⟩ := h
  refine ⟨a, c, rfl, ?_, rfl, fun hn => ?_⟩
  · intro ha
    subst ha
    rcases ho.2 with ⟨hv, hz⟩ | ⟨g, cap, cur, hv, _⟩
    · injection hv with _ h2 h3; exact ⟨hz, h3⟩
    · cases hv
  · rcases ho.2 with ⟨_, hz⟩ | ⟨g, cap, cur, hv, hb, hg, hk, hm, hs, ht⟩
    · omega
    · injection hv with h1 _ _
      subst h1
      have hlt : g < w.heap.size := by
        by_cases hc : g < w.heap.size
        · exact hc
        · rw [Array.getElem?_eq_none (by omega)] at hg; cases hg
      refine ⟨g, 0, rfl, hlt, fun i hi j u hu => ?_⟩
      have hj : j < T.k := by have := (List.getElem?_eq_some_iff.1 hu).1; rwa [T.len] at this
      have hx : i * T.k + j < l.length * T.k := by
        have : (i + 1) * T.k ≤ l.length * T.k := Nat.mul_le_mul_right _ hi
        rw [Nat.succ_mul] at this
        omega
      rw [cell_of_row _ _ _ _ _ _ hg, Nat.zero_add]
      have e1 : cur[i * T.k + j]? = (cur.toList.take (l.length * T.k))[i * T.k + j]? := by rw [List.getElem?_take_of_lt hx, Array.getElem?_toList]
      rw [e1, ht, T.cs_get l i j hi hj]
      exact hu
theorem RowTy.at_.news {w : World} {B n : Nat} {a : Option Addr} {l : List α} (h : T.at_ w B a n l) : ∀ ad, a = some ad → ∀ j u, (T.cs l)[j]? = some u → w.cell? (ad.add j) = some u := by
  intro ad ha j u hu
  have hp := T.pos
  have hj : j < l.length * T.k := by have := (List.getElem?_eq_some_iff.1 hu).1; rwa [T.cs_length] at this
  have hi : j / T.k < l.length := (Nat.div_lt_iff_lt_mul hp).2 hj
  have hr : j % T.k < T.k := Nat.mod_lt _ hp
  have hjj : j / T.k * T.k + j % T.k = j := by rw [Nat.mul_comm]; exact Nat.div_add_mod _ _
  obtain ⟨b, off, e, _, hc⟩ := h.2 (h.1 ▸ Nat.lt_of_le_of_lt (Nat.zero_le _) hi)
  rw [ha] at e
  injection e with e
  subst e
  have hg := T.cs_get l (j / T.k) (j % T.k) hi hr
  rw [hjj, hu] at hg
  have := hc (j / T.k) hi (j % T.k) u hg.symm
  rw [Addr.add_lit, show off + j = off + j / T.k * T.k + j % T.k by rw [Nat.add_assoc, hjj]]
  exact this
theorem own_toG {w : World} {B n : Nat} {t k : Nat} {v : Value} {xs : List Value} (h : w.ownsRow B t k v n xs) : ∃ a c, v = .slice a n c := by
  rcases h.2 with ⟨rfl, rfl⟩ | ⟨g, cap, cur, rfl, _⟩
  · exact ⟨none, 0, rfl⟩
  · exact ⟨_, cap, rfl⟩
/-- append of any slice (nil too) onto a row of the call's own; and where the new row lies. -/
theorem wpL_append_R (T : RowTy α) (w : World) {ops : Array Oper} {rest : List Oper} {o : Oper} {a : Act} {Q : Exit → Act → World → Prop} (hgd : o.guard = none) (s x : Operand)
    (ho : o.op = .call { callee := .builtin .append, args := #[s, x], argTypes := #[T.s, T.s] }) (B : Nat) (v : Value) (l : List α) (hs : a.eval s = v) (hO : T.own w B v l)
    (ao : Option Addr) (m cx : Nat) (news : List α) (hx : a.eval x = .slice ao m cx) (hnil : ao = none → m = 0 ∧ cx = 0) (hat : T.at_ w w.heap.size ao m news) (hmax : (l.length + m) * T.k ≤ maxLen) (hby : (l.length + m) * T.bytes ≤ 140737488355328) (hB : B ≤ w.heap.size)
    (h : ∀ v' w', T.own w' B v' (l ++ news) → w.grownBy w' v.ownBlock → Hid (v'.ownBlock = v.ownBlock ∨ v'.ownBlock = some w.heap.size) → wpList Tryz.prog ops Q rest (a.put o.dst v') w') : wpList Tryz.prog ops Q (o :: rest) a w := by
  obtain ⟨i, z, hi, hz0, hz1, hz2, hzc⟩ := T.info
  obtain ⟨av, cv, rfl, hown⟩ := hO
  have hm := hat.1
  have hp := T.pos
  cases ao with
  | some ad =>
    have hmx : l.length + m ≤ maxLen := Nat.le_trans (Nat.le_mul_of_pos_right _ hp) hmax
    obtain ⟨v', w', hr, h2, h3, _, h5⟩ := run_append_own_at (P := Tryz.prog) w B T.s o.type T.t i z T.k T.bytes T.und hi hz0 hz1 hz2 (by rw [hzc, List.size_toArray, T.len]) hp _ l.length _ hown ad m cx (T.cs news) (by rw [T.cs_length, hm]) (hat.news ad rfl) (T.cs_oneCell _) hmx hby hB
    obtain ⟨a', c', rfl⟩ := own_toG h2
    refine wpList_plain hgd fun K hK => ?_
    unfold Oper.wp execOp
    simp only [ho, resolve, invoke, builtin, Sem.run_bind, Sem.run_pure, Result.andThen_ok, List.map_toArray, List.map_cons, List.map_nil, hs, hx, hr]
    refine hK _ _ (h _ w' ⟨a', c', by rw [List.length_append, hm], ?_⟩ h3 (Lib.hid h5))
    rw [List.length_append, hm, T.cs_append]
    exact h2
  | none =>
    obtain ⟨rfl, rfl⟩ := hnil rfl
    obtain rfl : news = [] := List.eq_nil_of_length_eq_zero hm
    have hr := run_append_owned_none (P := Tryz.prog) (w := w) B T.s o.type T.t i T.k T.und hi _ l.length _ hown
    refine wpList_plain hgd fun K hK => ?_
    unfold Oper.wp execOp
    simp only [ho, resolve, invoke, builtin, Sem.run_bind, Sem.run_pure, Result.andThen_ok, List.map_toArray, List.map_cons, List.map_nil, hs, hx, hr]
    exact hK _ _ (h _ w ⟨av, cv, by simp, by simpa using hown⟩ (World.grownBy.refl _ _) (Lib.hid (.inl rfl)))
/-- A block of elements is a row. -/
theorem RowTy.own_of_block {w : World} {B g c : Nat} {l : List α} {X : List Value} (hg : w.heap[g]? = some (.cells (T.cs l ++ X).toArray T.t (0, 0))) (hX : X.length = (c - l.length) * T.k) (hc : l.length ≤ c) (hm : c ≤ maxLen) (hB : B ≤ g) : T.own w B (.slice (some ⟨g, 0, none⟩) l.length c) l := by
  refine ⟨_, c, rfl, T.cs_length l, .inr ⟨g, c, _, rfl, hB, hg, hc, hm, ?_, ?_⟩⟩
  · rw [List.size_toArray, List.length_append, T.cs_length, hX, ← Nat.add_mul]
    congr 1
    omega
  · show (T.cs l ++ X).take (l.length * T.k) = _
    rw [← T.cs_length, List.take_left']
    rfl
/-- A row that holds something: its block. -/
theorem RowTy.own.block {w : World} {B : Nat} {v : Value} {l : List α} (h : T.own w B v l) (hl : l ≠ []) : ∃ g c X, v = .slice (some ⟨g, 0, none⟩) l.length c ∧ l.length ≤ c ∧ c ≤ maxLen ∧ B ≤ g ∧ g < w.heap.size ∧ w.heap[g]? = some (.cells (T.cs l ++ X).toArray T.t (0, 0)) ∧ X.length = (c - l.length) * T.k := by
  obtain ⟨a, c, rfl, ho⟩ := h
  have hlt := ho.lt
  rcases ho.2 with ⟨hv, hz⟩ | ⟨g, cap, cur, hv, hB, hg, hk, hm, hs, ht⟩
  · exact absurd (List.eq_nil_of_length_eq_zero hz) hl
  · injection hv with h1 _ h3
    subst h1 h3
    refine ⟨g, c, cur.toList.drop (l.length * T.k), rfl, hk, hm, hB, (hlt g rfl).2, ?_, ?_⟩
    · rw [← ht, List.take_append_drop]
      exact hg
    · rw [List.length_drop, Array.length_toList, hs, Nat.sub_mul]
/-- Room for n elements, all of them zero. -/
theorem RowTy.madeCells_is (T : RowTy α) (n : Nat) : madeCells (T.enc T.zero).toArray (n * T.k) = (T.cs (List.replicate n T.zero)).toArray := by
  have hp := T.pos
  apply Array.toList_inj.1
  apply List.ext_getElem?
  intro j
  unfold madeCells
  by_cases hj : j < n * T.k
  · simp only [Array.toList_map, List.getElem?_map, Array.toList_range, List.getElem?_range hj, Option.map_some]
    have hq : j / T.k < (List.replicate n T.zero).length := by rw [List.length_replicate]; exact (Nat.div_lt_iff_lt_mul hp).2 hj
    have hr : j % T.k < T.k := Nat.mod_lt _ hp
    have e := T.cs_get (List.replicate n T.zero) (j / T.k) (j % T.k) hq hr
    rw [show j / T.k * T.k + j % T.k = j by rw [Nat.mul_comm]; exact Nat.div_add_mod _ _, List.getElem_replicate] at e
    rw [e, List.size_toArray, T.len]
    have hl : j % T.k < (T.enc T.zero).length := by rw [T.len]; exact hr
    rw [List.getElem?_eq_getElem hl]
    congr 1
    simp [hl]
  · rw [List.getElem?_eq_none (by simp; omega), List.getElem?_eq_none (by show (T.cs _).length ≤ j; rw [T.cs_length, List.length_replicate]; omega)]
theorem RowTy.make (T : RowTy α) (n : Nat) (hby : n * T.bytes ≤ 140737488355328) (hsm : n ≤ 140737488355328) : ∀ W, (Instr.makeSlice T.s (.int .i64 (n : Int)) (.int .i64 (n : Int))).run Tryz.prog W = .ok (.slice (some ⟨W.heap.size, 0, none⟩) n n) (W.alloc (.cells (T.cs (List.replicate n T.zero)).toArray T.t)) := fun W => by
  obtain ⟨i, z, hi, hz0, hz1, hz2, hzc⟩ := T.info
  have hr := run_make (P := Tryz.prog) W T.s T.t i z T.und hi hz0 .i64 .i64 n n (by omega) (by omega) (by rw [hz2]; have h := Int.ofNat_le.2 hby; rw [Int.natCast_mul, Int.mul_comm] at h; omega) (by omega)
  simp only [Int.toNat_natCast, hz1, hzc] at hr
  rw [T.madeCells_is n] at hr
  exact hr
/-- One element of a block written whole. -/
theorem wpL_store_R (T : RowTy α) {w : World} {ops : Array Oper} {rest : List Oper} {o : Oper} {a : Act} {Q : Exit → Act → World → Prop} (hgd : o.guard = none) (x y : Operand) (ho : o.op = .store T.t x y) (g k : Nat) (L : List α) (X : List Value) (s : α)
    (hx : a.eval x = .pointer (some ⟨g, k * T.k, none⟩)) (hy : a.eval y = .agg (T.enc s).toArray) (hg : w.heap[g]? = some (.cells (T.cs L ++ X).toArray T.t (0, 0))) (hk : k < L.length)
    (h : ∀ w', w'.heap[g]? = some (.cells (T.cs (L.set k s) ++ X).toArray T.t (0, 0)) → w.grownBy w' (some g) → w'.heap.size = w.heap.size → wpList Tryz.prog ops Q rest (a.put o.dst undef) w') : wpList Tryz.prog ops Q (o :: rest) a w := by
  refine wpList_plain hgd fun K hK => ?_
  obtain ⟨i, z, hi, hz0, hz1, hz2, hzc⟩ := T.info
  have hle : k * T.k + T.k ≤ L.length * T.k := by rw [← Nat.succ_mul]; exact Nat.mul_le_mul_right _ hk
  have hfit : k * T.k + (T.enc s).length ≤ (T.cs L ++ X).length := by rw [List.length_append, T.cs_length, T.len]; omega
  have hst := run_storeCells_at Tryz.prog g (k * T.k) T.t (T.enc s) 0 (T.cs L ++ X).toArray w hg (by simpa using hfit) (T.one s)
  have hr : (storeVar T.t ⟨g, k * T.k, none⟩ (.agg (T.enc s).toArray)).run Tryz.prog w = .ok () (w.setRow g ((T.cs L ++ X).take (k * T.k) ++ T.enc s ++ (T.cs L ++ X).drop (k * T.k + (T.enc s).length)).toArray) := by
    have hs : (T.enc s).length = i.size := by rw [T.len, hz1]
    simp [storeVar, sizeOf, typeInfo, hi, Value.cells, hs, hst]
  have hcut : (T.cs L ++ X).take (k * T.k) ++ T.enc s ++ (T.cs L ++ X).drop (k * T.k + (T.enc s).length) = T.cs (L.set k s) ++ X := by
    rw [← T.cs_set L k s hk, List.take_append_of_le_length (by rw [T.cs_length]; omega), List.drop_append_of_le_length (by rw [T.cs_length, T.len]; omega)]
    simp only [List.append_assoc]
  rw [hcut] at hr
  unfold Oper.wp execOp
  simp only [ho, hx, hy, Instr.storeAt, Instr.sureAddr, Sem.run_bind, Sem.run_pure, Result.andThen_ok, hr]
  exact hK _ _ (h _ (setRow_heap w g _ _ _ _ hg) (grown_set_row w g _) (by simp))
/-- copy into a block. -/
theorem RowTy.run_copy (T : RowTy α) (w : World) (g o dLen dCap : Nat) (a : Addr) (sLen sCap : Nat) (cur cs : List Value) (hg : w.heap[g]? = some (.cells cur.toArray T.t (0, 0))) (hn : cs.length = Nat.min sLen dLen * T.k)
    (hsrc : ∀ j v, cs[j]? = some v → w.cell? (a.add j) = some v) (hfit : o + cs.length ≤ cur.length) (h1 : ∀ v ∈ cs, v.oneCell' = true) :
    ∃ W, (∀ ty, (Builtin.copy_ #[T.s, T.s] ty #[.slice (some ⟨g, o, none⟩) dLen dCap, .slice (some a) sLen sCap]).run Tryz.prog w = .ok (goInt (Nat.min sLen dLen)) W) ∧
      W.heap[g]? = some (.cells (cur.take o ++ cs ++ cur.drop (o + cs.length)).toArray T.t (0, 0)) ∧ w.grownBy W (some g) := by
  obtain ⟨i, z, hi, _, hz1, _, _⟩ := T.info
  have hl := run_loadCells_list (P := Tryz.prog) w a cs hsrc
  have hst := run_storeCells_at Tryz.prog g o T.t cs 0 cur.toArray w hg (by simpa using hfit) h1
  refine ⟨w.setRow g (cur.take o ++ cs ++ cur.drop (o + cs.length)).toArray, fun ty => ?_, ?_, ?_⟩
  · simp [Builtin.copy_, run_underlying T.und, Builtin.lenOf, Builtin.firstCells, sizeOf, typeInfo, hi, hz1, ← hn, hl, hst]
  · simpa using setRow_heap w g _ _ T.t _ hg
  · refine ⟨rfl, rfl, rfl, by simp [World.setRow], fun k hk hne => ?_⟩
    have hkg : g ≠ k := fun e => hne (by rw [e])
    simp [World.setRow, Array.getElem?_modify, hkg]
end
end Go.Proofs.YtjdflnnpamjjcaaGreatDoor
