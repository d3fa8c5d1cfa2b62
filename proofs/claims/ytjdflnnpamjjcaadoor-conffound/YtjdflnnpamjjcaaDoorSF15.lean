/- The configuration that the laws make of raw things, as a value that is read. -/
import Derived.Test.YtjdflnnpamjjcaaDoorSF13
import Derived.Test.YtjdflnnpamjjcaaDoorSF14
import Derived.Test.YtjdflnnpamjjcaaDoorSF03
import Derived.Laws.StructEq
import Derived.Deep.DeepCutAuto
import Derived.Test.YtjdflnnpamjjcaaDoorSF08
namespace Go.Proofs.YtjdflnnpamjjcaaDoor
open Go.RowKit

set_option maxHeartbeats 800000 in
/-- The closure selects its network. -/
theorem sel_conf (gc : Nat) (y : Nat × Int) (w : World) (h : Blk w gc 44 [.int .u32 (y.1 : Int), .int .i64 y.2]) : SelN 27 gc (fun x => decide (x = y)) w := by
  refine ⟨enters_of Tryd.func27 (by kernel_rfl) rfl, h.lt, fun W hW hs x => ?_⟩
  have H : Blk W gc 44 [.int .u32 (y.1 : Int), .int .i64 y.2] := hW.trans h
  have t0 := H.cell 0 rfl
  have t1 := H.cell 1 rfl
  have hp := net_parts x y
  have hgl := H.lt
  obtain ⟨xa, xb⟩ := x
  obtain ⟨ya, yb⟩ := y
  simp only at t0 t1 hp ⊢
  clear H hW hs h
  rcases hp with he | ⟨hne, q | ⟨rfl, q⟩⟩
  · rw [decide_eq_true he]
    injection he with e1 e2
    subst e1 e2
    go_enter Tryd.func27, Tryd.ntmps27
    go_wp2
    go_ret
    exact ⟨rfl, (Below.refl _ _).alloc (Nat.le_refl _) _⟩
  · rw [decide_eq_false hne]
    clear hne
    go_enter Tryd.func27, Tryd.ntmps27
    go_wp2
    go_ret
    exact ⟨rfl, (Below.refl _ _).alloc (Nat.le_refl _) _⟩
  · rw [decide_eq_false hne]
    clear hne
    go_enter Tryd.func27, Tryd.ntmps27
    go_wp2
    go_ret
    exact ⟨rfl, (Below.refl _ _).alloc (Nat.le_refl _) _⟩
/-- What is left of X without the first j of S. -/
def Cf.left (X S : List (Nat × Int)) (j : Nat) : List (Nat × Int) := X.filter fun x => !decide (x ∈ S.take j)
theorem Cf.left_zero (X S : List (Nat × Int)) : left X S 0 = X := by unfold left; simp
theorem Cf.left_succ (X S : List (Nat × Int)) (j : Nat) (h : j < S.length) : (left X S j).filter (fun x => !decide (x = S[j])) = left X S (j + 1) := by
  unfold left
  rw [List.filter_filter]
  refine List.filter_congr fun x _ => ?_
  simp only [List.take_succ_eq_append_getElem h, List.mem_append, List.mem_singleton]
  generalize S[j] = y
  by_cases h1 : x ∈ S.take j <;> by_cases h2 : x = y <;> simp [h1, h2]
theorem Cf.left_all (met ns S : List (Nat × Int)) (hp : S.Perm ns) (hd : ∀ n ∈ ns, n ∉ met) : left (met ++ ns) S S.length = met := by
  unfold left
  rw [List.take_of_length_le (Nat.le_refl _), List.filter_append, List.filter_eq_self.2, List.filter_eq_nil_iff.2, List.append_nil]
  · intro x hx
    simp [hp.mem_iff, hx]
  · intro x hx
    have : x ∉ S := fun h => hd x (hp.mem_iff.1 h) hx
    simp [this]
theorem Cf.rawSt_succ (l : List RawD) (i : Nat) : rawSt l (i + 1) = if i = 0 then ([], []) else
    if 0 < pick (l.getD i default).k 5 then ((rawSt l i).1 ++ newNs (rawSt l i).1 (l.getD i default) (pick (l.getD i default).k 4), (rawSt l i).2 ++ [rawPeer i (l.getD i default) (newNs (rawSt l i).1 (l.getD i default) (pick (l.getD i default).k 4))])
    else rawSt l i := rfl
section
variable {w1 W W' : World} {bc bp g6 : Nat} {vp vp' : Value} {L : List Cf.Q} {r : RawD} {vm : Value} {l : List RawD} {i : Nat}
/-- The peer is kept. -/
theorem AtC.push {a : Option Addr} {c : Nat} {met ns : List (Nat × Int)} {s e : ByteArray} {v : Int} (hm : met = (Cf.rawSt l i).1) (hns : ns = Cf.newNs met r (pick r.k 4)) (hs : s = if pick r.k 3 = 0 then keyOf 7 else ⟨#[]⟩) (he : e = Cf.ends.getD (pick r.a 5) ⟨#[]⟩) (hv : v = (pick r.b 100 : Int))
    (h : AllSt w1 W bc bp g6 (Cf.rawPort l : Int) vp L r vm (met ++ ns) (keyOf i) s e v (.slice a (Nt.sortN ns).length c) (Nt.sortN ns)) (hL : L.map (·.1) = (Cf.rawSt l i).2) (hi : i ≠ 0) (h5 : 0 < pick r.k 5) (hr : l.getD i default = r)
    (hg : W.grownBy W' vp.ownBlock) (ho : peerT.own W' (bc + 1) vp' (L ++ [(⟨keyOf i, s, e, v, Nt.sortN ns⟩, a, c)])) (hat : vp'.ownBlock = vp.ownBlock ∨ vp'.ownBlock = some W.heap.size) : AtC w1 (W'.setCell ⟨bc, 2, none⟩ vp') bc l (i + 1) vm := by
  subst hm hns hs he hv
  refine ⟨vp', L ++ [(⟨keyOf i, if pick r.k 3 = 0 then keyOf 7 else ⟨#[]⟩, Cf.ends.getD (pick r.a 5) ⟨#[]⟩, (pick r.b 100 : Int), Nt.sortN (Cf.newNs (Cf.rawSt l i).1 r (pick r.k 4))⟩, a, c)], ?_, ?_⟩
  · rw [if_neg (by omega)]
    have := h.c.push (p := ⟨keyOf i, if pick r.k 3 = 0 then keyOf 7 else ⟨#[]⟩, Cf.ends.getD (pick r.a 5) ⟨#[]⟩, (pick r.b 100 : Int), Nt.sortN (Cf.newNs (Cf.rawSt l i).1 r (pick r.k 4))⟩) h.p hg ho hat
    rw [Cf.rawSt_succ, if_neg hi, hr, if_pos h5]
    exact this
  · rw [Cf.rawSt_succ, if_neg hi, hr, if_pos h5, List.map_append, hL]
    rfl
/-- The peer is not kept. -/
theorem AtC.drop (h : ConfSt w1 W bc (Cf.rawPort l : Int) vp L vm (Cf.rawSt l i).1) (hL : L.map (·.1) = (Cf.rawSt l i).2) (hi : i ≠ 0) (h5 : ¬ 0 < pick r.k 5) (hr : l.getD i default = r) : AtC w1 W bc l (i + 1) vm := by
  refine ⟨vp, L, ?_, ?_⟩
  · rw [if_neg (by omega)]
    rw [Cf.rawSt_succ, if_neg hi, hr, if_neg h5]
    exact h
  · rw [Cf.rawSt_succ, if_neg hi, hr, if_neg h5]
    exact hL
end
end Go.Proofs.YtjdflnnpamjjcaaDoor

namespace Go.Proofs.YtjdflnnpamjjcaaDoor
open Go.RowKit

theorem RowTy.at_one {α : Type} (T : RowTy α) {w : World} {g : Nat} {x : α} (h : Blk w g T.t (T.enc x)) : T.at_ w w.heap.size (some ⟨g, 0, none⟩) 1 [x] :=
  ⟨rfl, fun _ => ⟨g, 0, rfl, h.lt, fun i hi j u hu => by
    obtain rfl : i = 0 := by simp at hi; omega
    have := h.cell j hu
    simpa using this⟩⟩
theorem pick_self (i : Nat) (h : i < 8) : pick (i : Int) 8 = i := by
  unfold pick
  rw [if_neg (by omega), Int.toNat_natCast, Nat.mod_eq_of_lt h]
theorem ends_cell (j : Nat) (h : j < 5) : endsC[j]? = some (.string (Cf.ends.getD j ⟨#[]⟩)) := by
  have : j = 0 ∨ j = 1 ∨ j = 2 ∨ j = 3 ∨ j = 4 := by omega
  rcases this with rfl | rfl | rfl | rfl | rfl <;> rfl
set_option maxRecDepth 40000 in
set_option maxHeartbeats 16000000 in
theorem keep_Conf (a : Option Addr) (n c : Nat) (l : List RawD) (w : World) (h : RawsAt w w.heap.size a n l) (hn : n ≤ maxLen) (hok : ∀ r ∈ l, r.ok) :
    Calls Tryd.prog 7 #[.slice a n c] w fun e w' => (∃ v L, e = .returned (.agg #[.string (keyOf 0), .int .i64 (Cf.rawPort l), v]) ∧ L.map (·.1) = (Cf.rawC l).ps ∧ OwnP w' w.heap.size v L) ∧ Below w.heap.size w w' := by
  have H := Lib.hid h
  have hl := h.1
  have HOk := Lib.hid hok
  have hn' : n ≤ 9223372036854775807 := by unfold maxLen at hn; omega
  clear h hok hn
  obtain ⟨w1, hw1⟩ : ∃ w1, w1 = w.alloc (.cells #[.string ⟨#[]⟩, .int .i64 0, .slice none 0 0] 31) := ⟨_, rfl⟩
  have HA := Lib.hid (show Below w.heap.size w w1 by rw [hw1]; exact (Below.refl _ _).alloc (Nat.le_refl _) _)
  have HR := Lib.hid (show Blk w1 w.heap.size 31 [.string ⟨#[]⟩, .int .i64 0, .slice none 0 0] by rw [hw1]; exact Blk.new w _ _)
  have HK0 := Lib.hid (fun W => keep_Key 0 W (by decide) (by decide))
  have HK7 := Lib.hid (fun W => keep_Key 7 W (by decide) (by decide))
  have HEnd := Lib.hid (fun W => keep_ends W)
  have hz1 : w1.heap.size = w.heap.size + 1 := by rw [hw1]; simp
  have hp0 : pick 0 8 = 0 := by decide
  have hp7 : pick 7 8 = 7 := by decide
  rw [hp0] at HK0
  rw [hp7] at HK7
  clear hp0 hp7
  go_enter Tryd.func7, Tryd.ntmps7
  go_wp2_with fail
  rw [← hw1]
  clear hw1
  refine (HK0.out w1).mono ?_
  rintro e w2 ⟨rfl, hb2⟩
  have hwb : w.heap.size < w2.heap.size := by have := hb2.size; omega
  have HAC := Lib.hid (AtC.start hb2 l)
  clear HK0 hb2
  go_upto_region 3 with fail
  generalize w2.alloc (.cells #[.string (keyOf 0), .int .i64 0, .slice none 0 0] 31) = w3 at *
  generalize w2.heap.size = bc at *
  clear w2
  go_wp2
  go_loopw [4, 16] (fun v4 v16 wr => ∃ (i : Nat) (xm : Option Addr) (cm : Nat), i ≤ n ∧ i ≤ 7 ∧ v16 = .int .i64 (i : Int) ∧ v4 = .slice xm (Cf.rawSt l i).1.length cm ∧ Hid (AtC w1 wr bc l i (.slice xm (Cf.rawSt l i).1.length cm))) (fun _ v16 _ => n - (intOf v16).toNat)
  case atStart => exact ⟨0, none, 0, Nat.zero_le _, by omega, rfl, rfl, HAC⟩
  case round =>
    obtain ⟨i, xm, cm, hin, hi7, rfl, rfl, HC⟩ := hrel
    obtain ⟨wo, hwo⟩ : ∃ wo, wo = wr := ⟨_, rfl⟩
    subst hwo
    have HBo := Lib.hid (show Below w1.heap.size w1 wo from by obtain ⟨_, _, hx, _⟩ := HC.out; exact hx.below)
    have hszo := HBo.out.size
    clear HAC
    obtain ⟨nm, hnm⟩ : ∃ nm, nm = (Cf.rawSt l i).1.length := ⟨_, rfl⟩
    rw [← hnm] at HC ⊢
    have Hnm := Lib.hid hnm
    clear hnm
    by_cases hlt : i < n
    · have hil : i < l.length := by omega
      obtain ⟨b, off, rfl, hbl, c0, c1, c2, c3⟩ := rawAt_cells (H.out.below (HA.out.trans (HBo.out.mono HA.out.size))) i hil
      obtain ⟨⟨k0, k1⟩, ⟨a0, a1⟩, b0, b1⟩ := HOk.out _ (List.getElem_mem hil)
      have Hr := Lib.hid (show l.getD i default = l[i] by rw [List.getD_eq_getElem?_getD, List.getElem?_eq_getElem hil]; rfl)
      generalize l[i] = r at *
      obtain ⟨rk, ra, rb, rs⟩ := r
      simp only at c0 c1 c2 c3 k0 k1 a0 a1 b0 b1
      have hbo : b < wo.heap.size := by omega
      obtain ⟨g6, hg6⟩ : ∃ g6, g6 = wo.heap.size := ⟨_, rfl⟩
      obtain ⟨w5, hw5⟩ : ∃ w5, w5 = wo.alloc (.cells #[.int .i64 rk, .int .i64 ra, .int .i64 rb, .string rs] 49) := ⟨_, rfl⟩
      have HB5 := Lib.hid (show Below wo.heap.size wo w5 by rw [hw5]; exact (Below.refl _ _).alloc (Nat.le_refl _) _)
      have HR5 := Lib.hid (show Blk w5 g6 49 [.int .i64 rk, .int .i64 ra, .int .i64 rb, .string rs] by rw [hw5, hg6]; exact Blk.new wo _ _)
      have i1 : (i : Int) < (n : Int) := by omega
      have i7 : (i : Int) ≤ 7 := by omega
      by_cases h0 : i = 0
      · have q0 : ((i : Int) == 0) = true := by rw [h0]; rfl
        have HPp := Lib.hid (fun W => keep_picked ra 65536 W a0 a1 (by decide) (by decide))
        have HP1 := Lib.hid (show AtC w1 (w5.setCell ⟨bc, 1, none⟩ (.int .i64 (pick ra 65536 : Int))) bc l (i + 1) (.slice xm nm cm) from by
          have := HC.out.port h0 (by omega) HB5.out
          have e : (l.getD 0 default).a = ra := by rw [← h0, Hr.out]
          rwa [e] at this)
        have HL1 : Hid (nm = (Cf.rawSt l (i + 1)).1.length) := Lib.hid (by rw [Hnm.out, h0]; rfl)
        have Hcf : Hid (∃ p v, Blk w5 bc 31 [.string (keyOf 0), .int .i64 p, v]) := Lib.hid (by obtain ⟨vp, _, hx, _⟩ := HC.out; exact ⟨_, vp, hx.conf.kept HB5.out⟩)
        obtain ⟨pp, vv, hcf⟩ := Hcf.out
        have y1 := hcf.cell 1 rfl
        have z1 := hcf.frozen (by show 3 ≤ maxLen; decide) 1
        have r1 := HR5.out.cell 1 rfl
        have HI0 := Lib.hid h0
        clear hcf Hcf h0 HC HB5
        go_upto_region 6 with fail
        rw [← hw5, ← hg6]
        clear hw5 hg6 c0 c1 c2 c3
        go_wp2_with fail
        refine (HPp.out w5).mono ?_
        rintro e wx ⟨rfl, hwx⟩
        rw [← hwx]
        clear hwx wx
        generalize pick ra 65536 = pp2 at *
        go_wp2
        go_roundw
        case rel => exact ⟨i + 1, xm, cm, by omega, by have := HI0.out; omega, by go_num, by rw [HL1.out], by rw [← HL1.out]; exact HP1⟩
        case measure => simp [intOf]; omega
      · have q0 : ((i : Int) == 0) = false := by simpa using h0
        by_cases h7 : i = 7
        · have i6 : (6 : Int) < (i : Int) := by omega
          have HT := Lib.hid (show AtC w1 w5 bc l i (.slice xm nm cm) from by obtain ⟨vp, L, hx, hL⟩ := HC.out; exact ⟨vp, L, hx.step HB5.out, hL⟩)
          have H7 := Lib.hid h7
          clear HC HB5 h7
          go_upto_region 6 with fail
          rw [← hw5, ← hg6]
          clear hw5 hg6 c0 c1 c2 c3 HR5
          obtain ⟨xa, xc, L, hcf, hop, hmap, hbel, hbw⟩ := HT.out.done (by have := H7.out; omega)
          have HCf := Lib.hid hcf
          have HOp := Lib.hid hop
          have HMap := Lib.hid hmap
          have HBel := Lib.hid (HA.out.trans (hbel.mono HA.out.size))
          have HRt := Lib.hid (HR.out.kept hbel)
          have f0 := hcf.cell 0 rfl
          have f1 := hcf.cell 1 rfl
          have f2 := hcf.cell 2 rfl
          have hbc : w.heap.size < bc := by omega
          clear hcf hop hmap hbel hbw HT
          go_wp2_with (refine wpL_storeBlk (o := ⟨none, _, _, _, _, _⟩) rfl 31 (.tmp 2) (.tmp 108) rfl w.heap.size _ [.string (keyOf 0), .int .i64 (Cf.rawPort l : Int), .slice xa L.length xc] rfl rfl HRt.out size_confK rfl rfl ?_)
          intro w9 hR9 hgr9 hsz9
          have HB9 := Lib.hid (HBel.out.grown hgr9 HBel.out.size (fun j hj => by injection hj with hj; omega))
          have HO9 := Lib.hid (result_own (N := w.heap.size) HOp.out hgr9 hbc (by omega))
          go_wp2
          exact bodyPost_ret (ret_cell1 (load_confK hR9 rfl) Tryd.results7 rfl) rfl ⟨⟨_, L, rfl, HMap.out, HO9.out⟩, HB9.out⟩
        · have i6 : (i : Int) ≤ 6 := by omega
          have HF0 : Hid (∃ vp L, ConfSt w1 wo bc (Cf.rawPort l : Int) vp L (.slice xm nm cm) (Cf.rawSt l i).1 ∧ L.map (·.1) = (Cf.rawSt l i).2) := Lib.hid (by
            obtain ⟨vp, L, hx, hL⟩ := HC.out
            rw [if_neg h0] at hx
            exact ⟨vp, L, hx, hL⟩)
          obtain ⟨vp, L, hcs, hLm⟩ := HF0.out
          have HCS := Lib.hid (hcs.step HB5.out)
          have HLm := Lib.hid hLm
          have HM6 : Hid ((Value.slice xm nm cm).ownBlock ≠ some g6) := Lib.hid (fun e => by have := (hcs.met.lt g6 e).2; omega)
          have HOk6 := Lib.hid (Cf.rawSt_ok l i (by omega))
          obtain ⟨met, hmet⟩ : ∃ met, met = (Cf.rawSt l i).1 := ⟨_, rfl⟩
          rw [← hmet] at HCS Hnm
          have Hmet := Lib.hid hmet
          have hmet3 : met.length ≤ 3 * i := by rw [hmet]; exact HOk6.out.met3
          have HPk := Lib.hid (fun W => keep_Key (i : Int) W (by omega) (by omega))
          rw [pick_self i (by omega)] at HPk
          clear hmet hcs hLm HF0 HC HB5 HOk6
          have HP100 := Lib.hid (fun W => keep_picked rb 100 W b0 b1 (by decide) (by decide))
          have HP5 := Lib.hid (fun W => keep_picked ra 5 W a0 a1 (by decide) (by decide))
          have HPK3 := Lib.hid (fun W => keep_picked rk 3 W k0 k1 (by decide) (by decide))
          have HPK4 := Lib.hid (fun W => keep_picked rk 4 W k0 k1 (by decide) (by decide))
          have HPK5 := Lib.hid (fun W => keep_picked rk 5 W k0 k1 (by decide) (by decide))
          obtain ⟨p100, e100⟩ : ∃ q, q = pick rb 100 := ⟨_, rfl⟩
          obtain ⟨p5, e5⟩ : ∃ q, q = pick ra 5 := ⟨_, rfl⟩
          obtain ⟨q3, e3⟩ : ∃ q, q = pick rk 3 := ⟨_, rfl⟩
          obtain ⟨q4, e4⟩ : ∃ q, q = pick rk 4 := ⟨_, rfl⟩
          obtain ⟨q5, e5'⟩ : ∃ q, q = pick rk 5 := ⟨_, rfl⟩
          have p5l : p5 < 5 := by rw [e5]; exact pick_lt _ 5 (by decide)
          have q4l : q4 < 4 := by rw [e4]; exact pick_lt _ 4 (by decide)
          rw [← e100] at HP100
          rw [← e5] at HP5
          rw [← e3] at HPK3
          rw [← e4] at HPK4
          rw [← e5'] at HPK5
          have E100 := Lib.hid e100
          have E5 := Lib.hid e5
          have E3 := Lib.hid e3
          have E4 := Lib.hid e4
          have E5' := Lib.hid e5'
          have HEc := Lib.hid (ends_cell p5 p5l)
          obtain ⟨K, eK⟩ : ∃ K, K = keyOf i := ⟨_, rfl⟩
          rw [← eK] at HPk
          have EK := Lib.hid eK
          obtain ⟨E, eE⟩ : ∃ E, E = Cf.ends.getD p5 ⟨#[]⟩ := ⟨_, rfl⟩
          rw [← eE] at HEc
          have EE := Lib.hid eE
          clear e100 e5 e3 e4 e5' eK eE
          go_upto_region 6 with fail
          rw [← hw5, ← hg6]
          clear hw5 hg6 c0 c1 c2 c3
          go_upto_region 9 with fail
          have hmix : Tryd.prog.follows .mixedOrders = true := by kernel_rfl
          obtain ⟨N0, hN0⟩ : ∃ N0, N0 = w5.heap.size := ⟨_, rfl⟩
          have HN0 := Lib.hid hN0
          clear hN0
          refine wp_region_vals2 16 15 conf9Dst (fun b' j v W => (b' = false ∧ conf9 g6 N0 (i : Int) ra rb K E p5 p100 j v W) ∨ (b' = true ∧ (j = 14 → conf9Fin N0 K E p100 v W))) (fun _ W => Below N0 w5 W) hmix rfl conf9_dist ?low ?inn ?stab ?late ?s0 ?step ?done
          case low =>
            intro j o ho
            have hj : j < 16 := by
              have := (Array.getElem?_eq_some_iff.1 ho).1
              simpa using this
            have hc : j = 0 ∨ j = 1 ∨ j = 2 ∨ j = 3 ∨ j = 4 ∨ j = 5 ∨ j = 6 ∨ j = 7 ∨ j = 8 ∨ j = 9 ∨ j = 10 ∨ j = 11 ∨ j = 12 ∨ j = 13 ∨ j = 14 ∨ j = 15 := by omega
            rcases hc with rfl | rfl | rfl | rfl | rfl | rfl | rfl | rfl | rfl | rfl | rfl | rfl | rfl | rfl | rfl | rfl <;> (obtain rfl := Option.some.inj ho; simp)
          case inn =>
            intro j d hj hd
            exact Nat.lt_of_le_of_lt (conf9_in j d hj hd).1 (of_decide_eq_true rfl)
          case stab =>
            intro b' j u W W' hb h
            rcases h with ⟨h1, h⟩ | ⟨h1, h⟩
            · exact .inl ⟨h1, conf9_kept hb h⟩
            · exact .inr ⟨h1, fun hj => conf9Fin_kept hb (h hj)⟩
          case late =>
            intro j o hj ho
            have hi : j < 16 := by
              have := (Array.getElem?_eq_some_iff.1 ho).1
              simpa using this
            omega
          case s0 => exact (HN0.out ▸ (Below.refl _ _).drew)
          case step =>
            intro listed W hs' hcl hSW A0 F hget hR hold j o ho h0' hdep
            have hj : j < 16 := by
              have := (Array.getElem?_eq_some_iff.1 ho).1
              simpa using this
            have hc : j = 0 ∨ j = 1 ∨ j = 2 ∨ j = 3 ∨ j = 4 ∨ j = 5 ∨ j = 6 ∨ j = 7 ∨ j = 8 ∨ j = 9 ∨ j = 10 ∨ j = 11 ∨ j = 12 ∨ j = 13 ∨ j = 14 ∨ j = 15 := by omega
            have nmr : listed.getD 15 false = false := by
              cases hx : listed.getD 15 false with
              | false => rfl
              | true =>
                exfalso
                have l14 := hcl 15 _ rfl hx ⟨14, .data⟩ (by simp) rfl
                have l13 := hcl 15 _ rfl hx ⟨13, .data⟩ (by simp) rfl
                have l1 := hcl 13 _ rfl l13 ⟨1, .data⟩ (by simp) rfl
                have l4 := hcl 13 _ rfl l13 ⟨4, .data⟩ (by simp) rfl
                have l12 := hcl 13 _ rfl l13 ⟨12, .data⟩ (by simp) rfl
                have l11 := hcl 12 _ rfl l12 ⟨11, .data⟩ (by simp) rfl
                have l5 := hcl 11 _ rfl l11 ⟨5, .data⟩ (by simp) rfl
                have l10 := hcl 11 _ rfl l11 ⟨10, .data⟩ (by simp) rfl
                have l7 := hcl 10 _ rfl l10 ⟨7, .data⟩ (by simp) rfl
                have l9 := hcl 10 _ rfl l10 ⟨9, .data⟩ (by simp) rfl
                have l6 := hcl 7 _ rfl l7 ⟨6, .data⟩ (by simp) rfl
                have l8 := hcl 9 _ rfl l9 ⟨8, .data⟩ (by simp) rfl
                have l3 := hcl 4 _ rfl l4 ⟨3, .data⟩ (by simp) rfl
                have l2 := hcl 3 _ rfl l3 ⟨2, .data⟩ (by simp) rfl
                have l0 := hcl 1 _ rfl l1 ⟨0, .data⟩ (by simp) rfl
                rcases hc with rfl | rfl | rfl | rfl | rfl | rfl | rfl | rfl | rfl | rfl | rfl | rfl | rfl | rfl | rfl | rfl
                · exact absurd h0' (by rw [l0]; decide)
                · exact absurd h0' (by rw [l1]; decide)
                · exact absurd h0' (by rw [l2]; decide)
                · exact absurd h0' (by rw [l3]; decide)
                · exact absurd h0' (by rw [l4]; decide)
                · exact absurd h0' (by rw [l5]; decide)
                · exact absurd h0' (by rw [l6]; decide)
                · exact absurd h0' (by rw [l7]; decide)
                · exact absurd h0' (by rw [l8]; decide)
                · exact absurd h0' (by rw [l9]; decide)
                · exact absurd h0' (by rw [l10]; decide)
                · exact absurd h0' (by rw [l11]; decide)
                · exact absurd h0' (by rw [l12]; decide)
                · exact absurd h0' (by rw [l13]; decide)
                · exact absurd h0' (by rw [l14]; decide)
                · exact absurd h0' (by rw [hx]; decide)
            have Hsp := Lib.hid (show ∀ q, q < 15 → listed.getD q false = true → conf9 g6 N0 (i : Int) ra rb K E p5 p100 q (F q) W by
              intro q hq hlj
              rcases hR q (by omega) hlj with ⟨_, h⟩ | ⟨hx, _⟩
              · exact h
              · rw [nmr] at hx; cases hx)
            have Hget := Lib.hid hget
            have Hold := Lib.hid hold
            have HTc := Lib.hid hSW
            have Nm := Lib.hid nmr
            have HTs : Hid (N0 ≤ W.heap.size) := Lib.hid (by have := hSW.size; have := HN0.out; omega)
            have HRW := Lib.hid (HR5.out.below HTc.out (by have := HR5.out.lt; have := HN0.out; omega))
            clear hget hcl hold hSW hR nmr
            rcases hc with rfl | rfl | rfl | rfl | rfl | rfl | rfl | rfl | rfl | rfl | rfl | rfl | rfl | rfl | rfl | rfl
            · obtain rfl := Option.some.inj ho
              have e5 : A0.tmps.getD 5 undef = .int .i64 (i : Int) := (Hold.out 5 (fun j hj hd => absurd rfl (conf9_in j 5 hj hd).2.1)).trans rfl
              refine wpOp_mono (fun a' w' (h : ∃ v, a' = A0.put (some 29) v ∧ Hid (conf9 g6 N0 (i : Int) ra rb K E p5 p100 0 v w') ∧ Hid (Below W.heap.size W w')) => by obtain ⟨v, h1, h2, h3⟩ := h; exact ⟨v, h1, .inl ⟨by decide, HTc.out.trans (h3.out.mono HTs.out), .inl ⟨Nm.out, h2.out⟩, h3.out⟩⟩) ?_
              refine wpOp_plain rfl rfl ?_
              clear hdep h0'
              unfold Oper.wp
              go_simp
              exact ⟨_, rfl, Lib.hid rfl, Lib.hid (Below.refl _ _)⟩
            · obtain rfl := Option.some.inj ho
              have v0 : A0.tmps.getD 29 undef = F 0 := Hget.out 0 29 (by decide) (hdep ⟨0, .data⟩ (by simp) rfl) rfl
              have s0 := Hsp.out 0 (by decide) (hdep ⟨0, .data⟩ (by simp) rfl)
              rw [show F 0 = _ from s0] at v0
              clear s0
              refine wpOp_mono (fun a' w' (h : ∃ v, a' = A0.put (some 30) v ∧ Hid (conf9 g6 N0 (i : Int) ra rb K E p5 p100 1 v w') ∧ Hid (Below W.heap.size W w')) => by obtain ⟨v, h1, h2, h3⟩ := h; exact ⟨v, h1, .inl ⟨by decide, HTc.out.trans (h3.out.mono HTs.out), .inl ⟨Nm.out, h2.out⟩, h3.out⟩⟩) ?_
              refine wpOp_plain rfl rfl ?_
              clear hdep h0'
              unfold Oper.wp
              go_simp
              refine (HPk.out W).mono ?_
              rintro e W' ⟨rfl, hb⟩
              exact ⟨_, rfl, Lib.hid rfl, Lib.hid hb⟩
            · obtain rfl := Option.some.inj ho
              have e6 : A0.tmps.getD 6 undef = .pointer (some ⟨g6, 0, none⟩) := (Hold.out 6 (fun j hj hd => absurd rfl (conf9_in j 6 hj hd).2.2)).trans rfl
              refine wpOp_mono (fun a' w' (h : ∃ v, a' = A0.put (some 31) v ∧ Hid (conf9 g6 N0 (i : Int) ra rb K E p5 p100 2 v w') ∧ Hid (Below W.heap.size W w')) => by obtain ⟨v, h1, h2, h3⟩ := h; exact ⟨v, h1, .inl ⟨by decide, HTc.out.trans (h3.out.mono HTs.out), .inl ⟨Nm.out, h2.out⟩, h3.out⟩⟩) ?_
              refine wpOp_plain rfl rfl ?_
              clear hdep h0'
              unfold Oper.wp
              go_simp
              exact ⟨_, rfl, Lib.hid rfl, Lib.hid (Below.refl _ _)⟩
            · obtain rfl := Option.some.inj ho
              have v2 : A0.tmps.getD 31 undef = F 2 := Hget.out 2 31 (by decide) (hdep ⟨2, .data⟩ (by simp) rfl) rfl
              have s2 := Hsp.out 2 (by decide) (hdep ⟨2, .data⟩ (by simp) rfl)
              rw [show F 2 = _ from s2] at v2
              clear s2
              have y0 := HRW.out.cell 2 rfl
              refine wpOp_mono (fun a' w' (h : ∃ v, a' = A0.put (some 32) v ∧ Hid (conf9 g6 N0 (i : Int) ra rb K E p5 p100 3 v w') ∧ Hid (Below W.heap.size W w')) => by obtain ⟨v, h1, h2, h3⟩ := h; exact ⟨v, h1, .inl ⟨by decide, HTc.out.trans (h3.out.mono HTs.out), .inl ⟨Nm.out, h2.out⟩, h3.out⟩⟩) ?_
              refine wpOp_plain rfl rfl ?_
              clear hdep h0'
              unfold Oper.wp
              go_simp
              exact ⟨_, rfl, Lib.hid rfl, Lib.hid (Below.refl _ _)⟩
            · obtain rfl := Option.some.inj ho
              have v3 : A0.tmps.getD 32 undef = F 3 := Hget.out 3 32 (by decide) (hdep ⟨3, .data⟩ (by simp) rfl) rfl
              have s3 := Hsp.out 3 (by decide) (hdep ⟨3, .data⟩ (by simp) rfl)
              rw [show F 3 = _ from s3] at v3
              clear s3
              refine wpOp_mono (fun a' w' (h : ∃ v, a' = A0.put (some 33) v ∧ Hid (conf9 g6 N0 (i : Int) ra rb K E p5 p100 4 v w') ∧ Hid (Below W.heap.size W w')) => by obtain ⟨v, h1, h2, h3⟩ := h; exact ⟨v, h1, .inl ⟨by decide, HTc.out.trans (h3.out.mono HTs.out), .inl ⟨Nm.out, h2.out⟩, h3.out⟩⟩) ?_
              refine wpOp_plain rfl rfl ?_
              clear hdep h0'
              unfold Oper.wp
              go_simp
              refine (HP100.out W).mono ?_
              rintro e W' ⟨rfl, rfl⟩
              exact ⟨_, rfl, Lib.hid rfl, Lib.hid (Below.refl _ _)⟩
            · obtain rfl := Option.some.inj ho
              refine wpOp_mono (fun a' w' (h : ∃ v, a' = A0.put (some 34) v ∧ Hid (conf9 g6 N0 (i : Int) ra rb K E p5 p100 5 v w') ∧ Hid (Below W.heap.size W w')) => by obtain ⟨v, h1, h2, h3⟩ := h; exact ⟨v, h1, .inl ⟨by decide, HTc.out.trans (h3.out.mono HTs.out), .inl ⟨Nm.out, h2.out⟩, h3.out⟩⟩) ?_
              refine wpOp_plain rfl rfl ?_
              clear hdep h0'
              unfold Oper.wp
              go_simp
              refine (HEnd.out W).mono ?_
              rintro e W' ⟨rfl, hbk, hb⟩
              exact ⟨_, rfl, Lib.hid ⟨_, rfl, hbk⟩, Lib.hid hb⟩
            · obtain rfl := Option.some.inj ho
              have e6 : A0.tmps.getD 6 undef = .pointer (some ⟨g6, 0, none⟩) := (Hold.out 6 (fun j hj hd => absurd rfl (conf9_in j 6 hj hd).2.2)).trans rfl
              refine wpOp_mono (fun a' w' (h : ∃ v, a' = A0.put (some 35) v ∧ Hid (conf9 g6 N0 (i : Int) ra rb K E p5 p100 6 v w') ∧ Hid (Below W.heap.size W w')) => by obtain ⟨v, h1, h2, h3⟩ := h; exact ⟨v, h1, .inl ⟨by decide, HTc.out.trans (h3.out.mono HTs.out), .inl ⟨Nm.out, h2.out⟩, h3.out⟩⟩) ?_
              refine wpOp_plain rfl rfl ?_
              clear hdep h0'
              unfold Oper.wp
              go_simp
              exact ⟨_, rfl, Lib.hid rfl, Lib.hid (Below.refl _ _)⟩
            · obtain rfl := Option.some.inj ho
              have v6 : A0.tmps.getD 35 undef = F 6 := Hget.out 6 35 (by decide) (hdep ⟨6, .data⟩ (by simp) rfl) rfl
              have s6 := Hsp.out 6 (by decide) (hdep ⟨6, .data⟩ (by simp) rfl)
              rw [show F 6 = _ from s6] at v6
              clear s6
              have y0 := HRW.out.cell 1 rfl
              refine wpOp_mono (fun a' w' (h : ∃ v, a' = A0.put (some 36) v ∧ Hid (conf9 g6 N0 (i : Int) ra rb K E p5 p100 7 v w') ∧ Hid (Below W.heap.size W w')) => by obtain ⟨v, h1, h2, h3⟩ := h; exact ⟨v, h1, .inl ⟨by decide, HTc.out.trans (h3.out.mono HTs.out), .inl ⟨Nm.out, h2.out⟩, h3.out⟩⟩) ?_
              refine wpOp_plain rfl rfl ?_
              clear hdep h0'
              unfold Oper.wp
              go_simp
              exact ⟨_, rfl, Lib.hid rfl, Lib.hid (Below.refl _ _)⟩
            · obtain rfl := Option.some.inj ho
              refine wpOp_mono (fun a' w' (h : ∃ v, a' = A0.put (some 37) v ∧ Hid (conf9 g6 N0 (i : Int) ra rb K E p5 p100 8 v w') ∧ Hid (Below W.heap.size W w')) => by obtain ⟨v, h1, h2, h3⟩ := h; exact ⟨v, h1, .inl ⟨by decide, HTc.out.trans (h3.out.mono HTs.out), .inl ⟨Nm.out, h2.out⟩, h3.out⟩⟩) ?_
              refine wpOp_plain rfl rfl ?_
              clear hdep h0'
              unfold Oper.wp
              go_simp
              refine (HEnd.out W).mono ?_
              rintro e W' ⟨rfl, hbk, hb⟩
              exact ⟨_, rfl, Lib.hid ⟨_, rfl⟩, Lib.hid hb⟩
            · obtain rfl := Option.some.inj ho
              have v8 : A0.tmps.getD 37 undef = F 8 := Hget.out 8 37 (by decide) (hdep ⟨8, .data⟩ (by simp) rfl) rfl
              have s8 := Hsp.out 8 (by decide) (hdep ⟨8, .data⟩ (by simp) rfl)
              obtain ⟨g8, s8⟩ := s8
              rw [show F 8 = _ from s8] at v8
              clear s8
              refine wpOp_mono (fun a' w' (h : ∃ v, a' = A0.put (some 38) v ∧ Hid (conf9 g6 N0 (i : Int) ra rb K E p5 p100 9 v w') ∧ Hid (Below W.heap.size W w')) => by obtain ⟨v, h1, h2, h3⟩ := h; exact ⟨v, h1, .inl ⟨by decide, HTc.out.trans (h3.out.mono HTs.out), .inl ⟨Nm.out, h2.out⟩, h3.out⟩⟩) ?_
              refine wpOp_plain rfl rfl ?_
              clear hdep h0'
              unfold Oper.wp
              go_simp
              exact ⟨_, rfl, Lib.hid rfl, Lib.hid (Below.refl _ _)⟩
            · obtain rfl := Option.some.inj ho
              have v7 : A0.tmps.getD 36 undef = F 7 := Hget.out 7 36 (by decide) (hdep ⟨7, .data⟩ (by simp) rfl) rfl
              have s7 := Hsp.out 7 (by decide) (hdep ⟨7, .data⟩ (by simp) rfl)
              rw [show F 7 = _ from s7] at v7
              clear s7
              have v9 : A0.tmps.getD 38 undef = F 9 := Hget.out 9 38 (by decide) (hdep ⟨9, .data⟩ (by simp) rfl) rfl
              have s9 := Hsp.out 9 (by decide) (hdep ⟨9, .data⟩ (by simp) rfl)
              rw [show F 9 = _ from s9] at v9
              clear s9
              refine wpOp_mono (fun a' w' (h : ∃ v, a' = A0.put (some 39) v ∧ Hid (conf9 g6 N0 (i : Int) ra rb K E p5 p100 10 v w') ∧ Hid (Below W.heap.size W w')) => by obtain ⟨v, h1, h2, h3⟩ := h; exact ⟨v, h1, .inl ⟨by decide, HTc.out.trans (h3.out.mono HTs.out), .inl ⟨Nm.out, h2.out⟩, h3.out⟩⟩) ?_
              refine wpOp_plain rfl rfl ?_
              clear hdep h0'
              unfold Oper.wp
              go_simp
              refine (HP5.out W).mono ?_
              rintro e W' ⟨rfl, rfl⟩
              exact ⟨_, rfl, Lib.hid rfl, Lib.hid (Below.refl _ _)⟩
            · obtain rfl := Option.some.inj ho
              have v5 : A0.tmps.getD 34 undef = F 5 := Hget.out 5 34 (by decide) (hdep ⟨5, .data⟩ (by simp) rfl) rfl
              have s5 := Hsp.out 5 (by decide) (hdep ⟨5, .data⟩ (by simp) rfl)
              obtain ⟨g5, s5, bk5⟩ := s5
              rw [show F 5 = _ from s5] at v5
              have Bk5 := Lib.hid bk5
              clear s5 bk5
              have v10 : A0.tmps.getD 39 undef = F 10 := Hget.out 10 39 (by decide) (hdep ⟨10, .data⟩ (by simp) rfl) rfl
              have s10 := Hsp.out 10 (by decide) (hdep ⟨10, .data⟩ (by simp) rfl)
              rw [show F 10 = _ from s10] at v10
              clear s10
              have hq : (p5 : Int) < 5 := by omega
              refine wpOp_mono (fun a' w' (h : ∃ v, a' = A0.put (some 40) v ∧ Hid (conf9 g6 N0 (i : Int) ra rb K E p5 p100 11 v w') ∧ Hid (Below W.heap.size W w')) => by obtain ⟨v, h1, h2, h3⟩ := h; exact ⟨v, h1, .inl ⟨by decide, HTc.out.trans (h3.out.mono HTs.out), .inl ⟨Nm.out, h2.out⟩, h3.out⟩⟩) ?_
              refine wpOp_plain rfl rfl ?_
              clear hdep h0'
              unfold Oper.wp
              go_simp
              exact ⟨_, rfl, Lib.hid ⟨g5, rfl, Bk5.out⟩, Lib.hid (Below.refl _ _)⟩
            · obtain rfl := Option.some.inj ho
              have v11 : A0.tmps.getD 40 undef = F 11 := Hget.out 11 40 (by decide) (hdep ⟨11, .data⟩ (by simp) rfl) rfl
              have s11 := Hsp.out 11 (by decide) (hdep ⟨11, .data⟩ (by simp) rfl)
              obtain ⟨g11, s11, bk11⟩ := s11
              rw [show F 11 = _ from s11] at v11
              have Bk11 := Lib.hid bk11
              clear s11 bk11
              have y0 := Bk11.out.cell p5 HEc.out
              refine wpOp_mono (fun a' w' (h : ∃ v, a' = A0.put (some 41) v ∧ Hid (conf9 g6 N0 (i : Int) ra rb K E p5 p100 12 v w') ∧ Hid (Below W.heap.size W w')) => by obtain ⟨v, h1, h2, h3⟩ := h; exact ⟨v, h1, .inl ⟨by decide, HTc.out.trans (h3.out.mono HTs.out), .inl ⟨Nm.out, h2.out⟩, h3.out⟩⟩) ?_
              refine wpOp_plain rfl rfl ?_
              clear hdep h0'
              unfold Oper.wp
              go_simp
              exact ⟨_, rfl, Lib.hid rfl, Lib.hid (Below.refl _ _)⟩
            · obtain rfl := Option.some.inj ho
              have v1 : A0.tmps.getD 30 undef = F 1 := Hget.out 1 30 (by decide) (hdep ⟨1, .data⟩ (by simp) rfl) rfl
              have s1 := Hsp.out 1 (by decide) (hdep ⟨1, .data⟩ (by simp) rfl)
              rw [show F 1 = _ from s1] at v1
              have v1' : A0.tmps[30]?.getD undef = .string K := by simpa using v1
              clear s1
              have v4 : A0.tmps.getD 33 undef = F 4 := Hget.out 4 33 (by decide) (hdep ⟨4, .data⟩ (by simp) rfl) rfl
              have s4 := Hsp.out 4 (by decide) (hdep ⟨4, .data⟩ (by simp) rfl)
              rw [show F 4 = _ from s4] at v4
              have v4' : A0.tmps[33]?.getD undef = .int .i64 (p100 : Int) := by simpa using v4
              clear s4
              have v12 : A0.tmps.getD 41 undef = F 12 := Hget.out 12 41 (by decide) (hdep ⟨12, .data⟩ (by simp) rfl) rfl
              have s12 := Hsp.out 12 (by decide) (hdep ⟨12, .data⟩ (by simp) rfl)
              rw [show F 12 = _ from s12] at v12
              have v12' : A0.tmps[41]?.getD undef = .string E := by simpa using v12
              clear s12
              refine wpOp_mono (fun a' w' (h : ∃ v, a' = A0.put (some 42) v ∧ Hid (conf9 g6 N0 (i : Int) ra rb K E p5 p100 13 v w') ∧ Hid (Below W.heap.size W w')) => by obtain ⟨v, h1, h2, h3⟩ := h; exact ⟨v, h1, .inl ⟨by decide, HTc.out.trans (h3.out.mono HTs.out), .inl ⟨Nm.out, h2.out⟩, h3.out⟩⟩) ?_
              refine wpOp_plain rfl rfl ?_
              clear hdep h0'
              unfold Oper.wp
              go_simp
              exact ⟨_, rfl, Lib.hid rfl, Lib.hid (Below.refl _ _)⟩
            · obtain rfl := Option.some.inj ho
              refine wpOp_mono (fun a' w' (h : ∃ v, a' = A0.put (some 7) v ∧ Hid (conf9 g6 N0 (i : Int) ra rb K E p5 p100 14 v w') ∧ Hid (Below W.heap.size W w')) => by obtain ⟨v, h1, h2, h3⟩ := h; exact ⟨v, h1, .inl ⟨by decide, HTc.out.trans (h3.out.mono HTs.out), .inl ⟨Nm.out, h2.out⟩, h3.out⟩⟩) ?_
              refine wpOp_plain rfl rfl ?_
              clear hdep h0'
              unfold Oper.wp
              go_simp
              exact ⟨_, rfl, Lib.hid ⟨_, rfl, HTs.out, Blk.new W 24 [.string ⟨#[]⟩, .string ⟨#[]⟩, .string ⟨#[]⟩, .int .i64 0, .slice none 0 0]⟩, Lib.hid ((Below.refl _ _).alloc (Nat.le_refl _) _)⟩
            · obtain rfl := Option.some.inj ho
              have v13 : A0.tmps.getD 42 undef = F 13 := Hget.out 13 42 (by decide) (hdep ⟨13, .data⟩ (by simp) rfl) rfl
              have s13 := Hsp.out 13 (by decide) (hdep ⟨13, .data⟩ (by simp) rfl)
              rw [show F 13 = _ from s13] at v13
              clear s13
              have v14 : A0.tmps.getD 7 undef = F 14 := Hget.out 14 7 (by decide) (hdep ⟨14, .data⟩ (by simp) rfl) rfl
              have s14 := Hsp.out 14 (by decide) (hdep ⟨14, .data⟩ (by simp) rfl)
              obtain ⟨bp, hp14, hNb, hblk⟩ := s14
              have H14 := Lib.hid hp14
              rw [hp14] at v14
              obtain ⟨W2, hst, hb2, hg2⟩ := run_storeBlk hblk [.string K, .string ⟨#[]⟩, .string E, .int .i64 (p100 : Int), .slice none 0 0] size_peer rfl rfl
              have HW2 : Hid (Below N0 w5 W2) := Lib.hid (HTc.out.grown hg2 HTs.out (fun q hq => by injection hq with hq; omega))
              have HB2 := Lib.hid hb2
              have HNb := Lib.hid hNb
              clear hblk hp14 hb2 hg2 hNb
              refine wpOp_mono (fun a' w' (h : ∃ v, a' = A0.put none v ∧ w' = W2) => by
                obtain ⟨v, h1, rfl⟩ := h
                refine ⟨v, h1, .inr ⟨rfl, HW2.out, .inr ⟨rfl, fun hj => by cases hj⟩, fun q _ _ => .inr ⟨rfl, fun hq => ?_⟩⟩⟩
                subst hq
                exact ⟨bp, H14.out, HNb.out, HB2.out⟩) ?_
              refine wpOp_plain rfl rfl ?_
              clear hdep h0'
              simp only [List.getElem_toArray, List.getElem_cons_succ, List.getElem_cons_zero]
              unfold Oper.wp execOp
              simp only [Act.eval, v13, v14, Instr.storeAt, Instr.sureAddr, Sem.run_bind, Sem.run_pure, Result.andThen_ok, hst]
              exact ⟨_, rfl, rfl⟩
          case done =>
            intro F W hS hR
            obtain ⟨bp, hF, hbp, hblk⟩ : conf9Fin N0 K E p100 (F 14) W := by
              rcases hR 14 (by decide) with ⟨hx, _⟩ | ⟨_, h⟩
              · exact absurd hx (by decide)
              · exact h rfl
            rw [conf9_put, hF]
            simp only [Act.put, List.setIfInBounds_toArray, List.set_cons_succ, List.set_cons_zero]
            rw [HN0.out] at hS hbp
            have HS := Lib.hid (AllSt.new (r := ⟨rk, ra, rb, rs⟩) HCS.out HR5.out HM6.out hS hbp hblk)
            clear hR hS hbp hblk hF HN0 HP100 HP5 HPk HEc HR5 HCS HM6
            obtain ⟨SS, eS⟩ : ∃ SS : ByteArray, SS = if q3 = 0 then keyOf 7 else ⟨#[]⟩ := ⟨_, rfl⟩
            have ES := Lib.hid eS
            clear eS
            have r0 : W.cell? ⟨g6, 0, none⟩ = some (.int .i64 rk) := HS.out.r.blk.cell 0 rfl
            go_wp2_with fail
            refine (HPK3.out W).mono ?_
            rintro e wx ⟨rfl, hwx⟩
            rw [← hwx]
            clear hwx wx HPK3
            go_upto_if 46 with fail
            go_cut [] (fun wx => Hid (AllSt w1 wx bc bp g6 (Cf.rawPort l : Int) vp L ⟨rk, ra, rb, rs⟩ (.slice xm nm cm) met K SS E (p100 : Int) (.slice none 0 0) []))
            case first =>
              by_cases hq3 : q3 = 0
              · have t3 : ((q3 : Int) == 0) = true := by rw [hq3]; rfl
                have HSS := Lib.hid (show SS = keyOf 7 by rw [ES.out, if_pos hq3])
                clear hq3
                go_wp2_with fail
                refine (HK7.out W).mono ?_
                rintro e wk ⟨rfl, hbk⟩
                have HSk := Lib.hid (HS.out.step hbk)
                have y1 := HSk.out.p.blk.cell 1 rfl
                have z1 := HSk.out.p.blk.frozen (by show 5 ≤ maxLen; decide) 1
                have HC2 : Hid (AllSt w1 (wk.setCell ⟨bp, 1, none⟩ (.string (keyOf 7))) bc bp g6 (Cf.rawPort l : Int) vp L ⟨rk, ra, rb, rs⟩ (.slice xm nm cm) met K SS E (p100 : Int) (.slice none 0 0) []) := Lib.hid (by rw [HSS.out]; exact HSk.out.shared (keyOf 7))
                clear hbk HSk HS
                go_wp2_with fail
                go_meet
                case rel => exact HC2
              · have t3 : ((q3 : Int) == 0) = false := by simpa using hq3
                have HSS := Lib.hid (show SS = ⟨#[]⟩ by rw [ES.out, if_neg hq3])
                clear hq3
                have HC2 : Hid (AllSt w1 W bc bp g6 (Cf.rawPort l : Int) vp L ⟨rk, ra, rb, rs⟩ (.slice xm nm cm) met K SS E (p100 : Int) (.slice none 0 0) []) := Lib.hid (by rw [HSS.out]; exact HS.out)
                go_wp2_with fail
                go_meet
                case rel => exact HC2
            case rest =>
              clear HS HK7 r0
              have HS := hcut
              clear hcut
              have r0 : wc.cell? ⟨g6, 0, none⟩ = some (.int .i64 rk) := HS.out.r.blk.cell 0 rfl
              go_wp2_with fail
              refine (HPK4.out wc).mono ?_
              rintro e wx ⟨rfl, hwx⟩
              rw [← hwx]
              clear hwx wx HPK4
              go_wp2
              go_loopw [4, 52] (fun v4 v52 wr => ∃ (k m1 : Nat) (xm1 : Option Addr) (cm1 : Nat), k ≤ q4 ∧ v52 = .int .i64 (k : Int) ∧ v4 = .slice xm1 m1 cm1 ∧ Hid (m1 = (met ++ Cf.newNs met ⟨rk, ra, rb, rs⟩ k).length) ∧ Hid (∃ xn cn, AllSt w1 wr bc bp g6 (Cf.rawPort l : Int) vp L ⟨rk, ra, rb, rs⟩ (.slice xm1 m1 cm1) (met ++ Cf.newNs met ⟨rk, ra, rb, rs⟩ k) K SS E (p100 : Int) (.slice xn (Cf.newNs met ⟨rk, ra, rb, rs⟩ k).length cn) (Cf.newNs met ⟨rk, ra, rb, rs⟩ k))) (fun _ v52 _ => q4 - (intOf v52).toNat)
              case atStart => exact ⟨0, nm, xm, cm, Nat.zero_le _, rfl, rfl, Lib.hid (by rw [Hnm.out]; simp [Cf.newNs]), Lib.hid ⟨none, 0, by rw [show met ++ Cf.newNs met ⟨rk, ra, rb, rs⟩ 0 = met from List.append_nil _]; exact HS.out⟩⟩
              case round =>
                obtain ⟨k, m1, xm1, cm1, hk, rfl, rfl, Hm1, HI⟩ := hrel
                obtain ⟨wi, hwi⟩ : ∃ wi, wi = wr := ⟨_, rfl⟩
                subst hwi
                clear HS r0
                obtain ⟨xn, cn, hs⟩ := HI.out
                clear HI
                by_cases hkq : k < q4
                · have ik : (k : Int) < (q4 : Int) := by omega
                  have hk3 : (k : Int) ≤ 2 := by omega
                  have Hok := Lib.hid (Cf.newNs_ok met ⟨rk, ra, rb, rs⟩ k)
                  have Hsucc := Lib.hid (show Cf.newNs met ⟨rk, ra, rb, rs⟩ (k + 1) = if Cf.rawNet ⟨rk, ra, rb, rs⟩ k ∈ met ++ Cf.newNs met ⟨rk, ra, rb, rs⟩ k then Cf.newNs met ⟨rk, ra, rb, rs⟩ k else Cf.newNs met ⟨rk, ra, rb, rs⟩ k ++ [Cf.rawNet ⟨rk, ra, rb, rs⟩ k] from rfl)
                  obtain ⟨xa, hxa⟩ : ∃ xa, xa = IntKind.i64.wrap (ra + 5 * (k : Int)) := ⟨_, rfl⟩
                  obtain ⟨xb, hxb⟩ : ∃ xb, xb = IntKind.i64.wrap (rb + (k : Int)) := ⟨_, rfl⟩
                  have xa01 : -9223372036854775808 ≤ xa ∧ xa ≤ 9223372036854775807 := by rw [hxa, IntKind.wrap_i64]; omega
                  have xb01 : -9223372036854775808 ≤ xb ∧ xb ≤ 9223372036854775807 := by rw [hxb, IntKind.wrap_i64]; omega
                  have HN := Lib.hid (fun W => keep_Net rk xa xb ⟨#[]⟩ W k0 k1 xa01.1 xa01.2 xb01.1 xb01.2)
                  unfold rawV netV at HN
                  have Hx0 := Lib.hid (show Cf.rawNet ⟨rk, ra, rb, rs⟩ k = (Nt.rawA rk xa xb, (Nt.rawB rk xa xb : Int)) by rw [hxa, hxb]; rfl)
                  generalize Nt.rawA rk xa xb = na at *
                  generalize ((Nt.rawB rk xa xb : Nat) : Int) = nb at *
                  rw [Hx0.out] at Hsucc
                  generalize Cf.newNs met ⟨rk, ra, rb, rs⟩ k = ns at *
                  have hnl : ns.length ≤ k := Hok.out.1
                  obtain ⟨n2, hn2⟩ : ∃ n2, n2 = ns.length := ⟨_, rfl⟩
                  rw [← hn2] at hs
                  have Hn2 := Lib.hid hn2
                  have HS := Lib.hid hs
                  have hm1 : m1 ≤ 24 := by rw [Hm1.out, List.length_append]; omega
                  clear hs hn2 Hok Hx0
                  have r0 : wi.cell? ⟨g6, 0, none⟩ = some (.int .i64 rk) := HS.out.r.blk.cell 0 rfl
                  have r1 : wi.cell? ⟨g6, 1, none⟩ = some (.int .i64 ra) := HS.out.r.blk.cell 1 rfl
                  have r2 : wi.cell? ⟨g6, 2, none⟩ = some (.int .i64 rb) := HS.out.r.blk.cell 2 rfl
                  have ea : IntKind.i64.wrap (ra + 5 * (k : Int)) = xa := hxa.symm
                  have eb : IntKind.i64.wrap (rb + (k : Int)) = xb := hxb.symm
                  have ea' : RowKit.wrap64 (ra + 5 * (k : Int)) = xa := by rw [hxa, IntKind.wrap_i64]; unfold RowKit.wrap64; rfl
                  have eb' : RowKit.wrap64 (rb + (k : Int)) = xb := by rw [hxb, IntKind.wrap_i64]; unfold RowKit.wrap64; rfl
                  clear hxa hxb xa01 xb01
                  go_wp2_with fail
                  refine (HN.out wi).mono ?_
                  rintro e w2 ⟨rfl, hb2⟩
                  clear ea eb ea' eb' r0 r1 r2
                  have HS2 := Lib.hid (HS.out.step (hb2.alloc hb2.size (.cells #[.int .u32 (na : Int), .int .i64 nb] 44)))
                  have HG := Lib.hid (show Blk (w2.alloc (.cells #[.int .u32 (na : Int), .int .i64 nb] 44)) w2.heap.size 44 [.int .u32 (na : Int), .int .i64 nb] from Blk.new w2 _ _)
                  have hbp2 : bp < w2.heap.size := Nat.lt_of_lt_of_le HS.out.p.blk.lt hb2.size
                  have Hvm : Hid ((Value.slice xm1 m1 cm1).ownBlock ≠ some w2.heap.size) := Lib.hid (fun e => by have := (HS.out.c.met.lt _ e).2; have := hb2.size; omega)
                  have Hvn : Hid ((Value.slice xn n2 cn).ownBlock ≠ some w2.heap.size) := Lib.hid (fun e => by have := (HS.out.p.nets.lt _ e).2; have := hb2.size; omega)
                  go_upto_region 16 with fail
                  clear HS hb2 HN
                  generalize w2.alloc (.cells #[.int .u32 (na : Int), .int .i64 nb] 44) = w3 at *
                  generalize w2.heap.size = g9 at *
                  clear w2
                  obtain ⟨xm2, cm2, esl, -, hat⟩ := HS2.out.c.met.at
                  injection esl with e1 e2 e3
                  have hcat := netT_at.1 hat
                  rw [← e1, ← e2] at hcat
                  have HCt := Lib.hid (nets_Contains xm1 m1 cm1 (met ++ ns) (na, nb) w3 hcat (by unfold maxLen; omega))
                  clear e1 e2 e3 hat hcat xm2 cm2
                  have g0 := HG.out.cell 0 rfl
                  have g1 := HG.out.cell 1 rfl
                  by_cases hmem : (na, nb) ∈ met ++ ns
                  · rw [decide_eq_true hmem] at HCt
                    have HE1 := Lib.hid (show Cf.newNs met ⟨rk, ra, rb, rs⟩ (k + 1) = ns by rw [Hsucc.out, if_pos hmem])
                    clear hmem Hsucc
                    go_wp2_with fail
                    refine HCt.out.mono ?_
                    rintro e w4 ⟨rfl, hb4⟩
                    have HS4 := Lib.hid (HS2.out.step hb4)
                    clear hb4 HCt HS2 g0 g1 HG
                    go_wp2
                    go_roundw
                    case rel => exact ⟨k + 1, m1, xm1, cm1, by omega, by go_num, rfl, Lib.hid (by rw [HE1.out]; exact Hm1.out), Lib.hid ⟨xn, cn, by rw [HE1.out, ← Hn2.out]; exact HS4.out⟩⟩
                    case measure => simp [intOf]; omega
                  · rw [decide_eq_false hmem] at HCt
                    have HE1 := Lib.hid (show Cf.newNs met ⟨rk, ra, rb, rs⟩ (k + 1) = ns ++ [(na, nb)] by rw [Hsucc.out, if_neg hmem])
                    clear hmem Hsucc
                    go_wp2_with fail
                    refine HCt.out.mono ?_
                    rintro e w4 ⟨rfl, hb4⟩
                    have HS4 := Lib.hid (HS2.out.step hb4)
                    have HG4 := Lib.hid (HG.out.kept hb4)
                    have hg9 : g9 < w4.heap.size := HG4.out.lt
                    clear hb4 HCt HS2 g0 g1 HG
                    have g0 := HG4.out.cell 0 rfl
                    have g1 := HG4.out.cell 1 rfl
                    have Hnw := Lib.hid (netT.at_one (x := (na, nb)) (Blk.new w4 44 [.int .u32 (na : Int), .int .i64 nb]))
                    have HS5 := Lib.hid (HS4.out.step ((Below.refl _ _).alloc (Nat.le_refl _) (.cells #[.int .u32 (na : Int), .int .i64 nb] 44)))
                    have HG5 := Lib.hid (HG4.out.kept ((Below.refl _ _).alloc (Nat.le_refl _) (.cells #[.int .u32 (na : Int), .int .i64 nb] 44)))
                    have hz5 : (w4.alloc (.cells #[.int .u32 (na : Int), .int .i64 nb] 44)).heap.size = w4.heap.size + 1 := by simp
                    have hbc5 : bc + 1 ≤ (w4.alloc (.cells #[.int .u32 (na : Int), .int .i64 nb] 44)).heap.size := by have := HS5.out.c.conf.lt; omega
                    have hmax : ((met ++ ns).length + 1) * netT.k ≤ maxLen := by rw [← Hm1.out]; show (m1 + 1) * 2 ≤ maxLen; unfold maxLen; omega
                    have hby : ((met ++ ns).length + 1) * netT.bytes ≤ 140737488355328 := by rw [← Hm1.out]; show (m1 + 1) * 16 ≤ _; omega
                    clear HS4 HG4
                    go_upto_region 17 with fail
                    go_wp2_with (at_builtin; refine wpL_append_R netT _ (o := ⟨some 75, _, _, _, _, _⟩) rfl (.tmp 72) (.tmp 74) rfl (bc + 1) (.slice xm1 m1 cm1) (met ++ ns) rfl HS5.out.c.met (some ⟨w4.heap.size, 0, none⟩) 1 1 [(na, nb)] rfl (fun h => by cases h) Hnw.out hmax hby hbc5 ?_)
                    intro v1 w6 ho6 hg6 hat6
                    have hs6 := HS5.out.mets hg6 ho6 (by rw [hz5]; exact hat6.out)
                    have HG6 := Lib.hid (HG5.out.grown hg6 Hvm.out)
                    obtain ⟨xm2, cm2, rfl, -, -⟩ := ho6.slice
                    obtain ⟨m2, hm2⟩ : ∃ m2, m2 = (met ++ (ns ++ [(na, nb)])).length := ⟨_, rfl⟩
                    rw [← hm2] at hs6 ⊢
                    have HS6 := Lib.hid hs6
                    have Hm2 : Hid (m2 = (met ++ (ns ++ [(na, nb)])).length) := Lib.hid hm2
                    have hg96 : g9 < w6.heap.size := HG6.out.lt
                    clear hs6 hm2 ho6 hg6 hat6 HS5 HG5 Hnw hz5 hbc5 g0 g1 hmax hby hg9
                    have y4 : w6.cell? ⟨bp, 4, none⟩ = some (.slice xn n2 cn) := HS6.out.p.blk.cell 4 rfl
                    have g0 := HG6.out.cell 0 rfl
                    have g1 := HG6.out.cell 1 rfl
                    have Hnw := Lib.hid (netT.at_one (x := (na, nb)) (Blk.new w6 44 [.int .u32 (na : Int), .int .i64 nb]))
                    have HS7 := Lib.hid (HS6.out.step ((Below.refl _ _).alloc (Nat.le_refl _) (.cells #[.int .u32 (na : Int), .int .i64 nb] 44)))
                    have hz7 : (w6.alloc (.cells #[.int .u32 (na : Int), .int .i64 nb] 44)).heap.size = w6.heap.size + 1 := by simp
                    have hbc7 : bc + 1 ≤ (w6.alloc (.cells #[.int .u32 (na : Int), .int .i64 nb] 44)).heap.size := by have := HS7.out.c.conf.lt; omega
                    have hmax : (ns.length + 1) * netT.k ≤ maxLen := by show (ns.length + 1) * 2 ≤ maxLen; unfold maxLen; omega
                    have hby : (ns.length + 1) * netT.bytes ≤ 140737488355328 := by show (ns.length + 1) * 16 ≤ _; omega
                    clear HS6 HG6
                    go_upto_region 18 with fail
                    go_wp2_with (at_builtin; refine wpL_append_R netT _ (o := ⟨some 80, _, _, _, _, _⟩) rfl (.tmp 77) (.tmp 79) rfl (bc + 1) (.slice xn n2 cn) ns rfl HS7.out.p.nets (some ⟨w6.heap.size, 0, none⟩) 1 1 [(na, nb)] rfl (fun h => by cases h) Hnw.out hmax hby hbc7 ?_)
                    intro v2 w8 ho8 hg8 hat8
                    have hs8 := HS7.out.netsAt hg8 ho8 (by rw [hz7]; exact hat8.out)
                    have hbk := HS7.out.p.blk.grown hg8 HS7.out.p.nbp
                    obtain ⟨xn2, cn2, rfl, -, -⟩ := ho8.slice
                    have z4 := hbk.cell 4 rfl
                    have f4 := hbk.frozen (by show 5 ≤ maxLen; decide) 4
                    have HS8 := Lib.hid hs8
                    clear hs8 hbk ho8 hg8 hat8 HS7 Hnw hz7 hbc7 g0 g1 hmax hby hg96 y4
                    generalize hn3 : (ns ++ [(na, nb)]).length = n3 at *
                    have Hn3 := Lib.hid hn3
                    clear hn3
                    go_wp2
                    go_roundw
                    case rel => exact ⟨k + 1, m2, xm2, cm2, by omega, by go_num, rfl, Lib.hid (by rw [HE1.out]; exact Hm2.out), Lib.hid ⟨xn2, cn2, by rw [HE1.out, Hn3.out]; exact HS8.out⟩⟩
                    case measure => simp [intOf]; omega
                · obtain rfl : k = q4 := by omega
                  have Hok := Lib.hid (Cf.newNs_ok met ⟨rk, ra, rb, rs⟩ k)
                  obtain ⟨ns, hns⟩ : ∃ ns, ns = Cf.newNs met ⟨rk, ra, rb, rs⟩ k := ⟨_, rfl⟩
                  rw [← hns] at hs Hm1 Hok
                  have Hns := Lib.hid (show ns = Cf.newNs met ⟨rk, ra, rb, rs⟩ (pick rk 4) by rw [← E4.out]; exact hns)
                  have Hsl := Lib.hid (Nt.sort_length ns)
                  obtain ⟨n2, hn2⟩ : ∃ n2, n2 = ns.length := ⟨_, rfl⟩
                  rw [← hn2] at hs
                  have hn2l : n2 ≤ 3 := by have := Hok.out.1; omega
                  have Hn2 := Lib.hid (show n2 = (Nt.sortN ns).length by rw [Hsl.out]; exact hn2)
                  have HS := Lib.hid hs
                  have HSo := Lib.hid (nets_SortFunc (.slice xn n2 cn) ns wi (bc + 1) hs.p.nets (by omega))
                  have HL7 := Lib.hid (show L.length ≤ 7 by
                    have h1 := (Cf.rawSt_ok l i (by omega)).many
                    have h2 := congrArg List.length HLm.out
                    rw [List.length_map] at h2
                    omega)
                  have y4 : wi.cell? ⟨bp, 4, none⟩ = some (.slice xn n2 cn) := HS.out.p.blk.cell 4 rfl
                  clear hs hns hn2
                  go_wp2_with fail
                  refine HSo.out.mono ?_
                  rintro e w2 ⟨rfl, ho2, hg2⟩
                  have HS2 := Lib.hid (HS.out.sorted hg2 ho2)
                  have r0 : w2.cell? ⟨g6, 0, none⟩ = some (.int .i64 rk) := HS2.out.r.blk.cell 0 rfl
                  clear ho2 hg2 HS HSo y4
                  go_wp2_with fail
                  refine (HPK5.out w2).mono ?_
                  rintro e wx ⟨rfl, hwx⟩
                  rw [← hwx]
                  clear hwx wx HPK5 r0
                  by_cases h5 : 0 < q5
                  · have t5 : (0 : Int) < (q5 : Int) := by omega
                    obtain ⟨xp, cp, hvp, hcp1, hcp2, -, -⟩ := HS2.out.c.peers.at
                    subst hvp
                    obtain ⟨ll, hll⟩ : ∃ ll, ll = L.length := ⟨_, rfl⟩
                    rw [← hll] at HS2 HL7
                    have Hll := Lib.hid hll
                    have hll7 : ll ≤ 7 := HL7.out
                    clear hll hcp1 hcp2 HL7
                    have H5 := Lib.hid h5
                    have H0 := Lib.hid h0
                    clear h5 h0
                    have k2 : w2.cell? ⟨bc, 2, none⟩ = some (.slice xp ll cp) := HS2.out.c.conf.cell 2 rfl
                    have z0 : w2.cell? ⟨bp, 0, none⟩ = some (.string K) := HS2.out.p.blk.cell 0 rfl
                    have z1 : w2.cell? ⟨bp, 1, none⟩ = some (.string SS) := HS2.out.p.blk.cell 1 rfl
                    have z2 : w2.cell? ⟨bp, 2, none⟩ = some (.string E) := HS2.out.p.blk.cell 2 rfl
                    have z3 : w2.cell? ⟨bp, 3, none⟩ = some (.int .i64 (p100 : Int)) := HS2.out.p.blk.cell 3 rfl
                    have z4 : w2.cell? ⟨bp, 4, none⟩ = some (.slice xn n2 cn) := HS2.out.p.blk.cell 4 rfl
                    have Henc := Lib.hid (show peerT.enc (⟨K, SS, E, (p100 : Int), Nt.sortN ns⟩, xn, cn) = [.string K, .string SS, .string E, .int .i64 (p100 : Int), .slice xn n2 cn] by rw [Hn2.out]; rfl)
                    have Hnw := Lib.hid (peerT.at_one (x := (⟨K, SS, E, (p100 : Int), Nt.sortN ns⟩, xn, cn)) (show Blk (w2.alloc (.cells #[.string K, .string SS, .string E, .int .i64 (p100 : Int), .slice xn n2 cn] 24)) w2.heap.size 24 (peerT.enc (⟨K, SS, E, (p100 : Int), Nt.sortN ns⟩, xn, cn)) by rw [Henc.out]; exact Blk.new w2 _ _))
                    have HS5 := Lib.hid (HS2.out.step ((Below.refl _ _).alloc (Nat.le_refl _) (.cells #[.string K, .string SS, .string E, .int .i64 (p100 : Int), .slice xn n2 cn] 24)))
                    have hz5 : (w2.alloc (.cells #[.string K, .string SS, .string E, .int .i64 (p100 : Int), .slice xn n2 cn] 24)).heap.size = w2.heap.size + 1 := by simp
                    have hbc5 : bc + 1 ≤ (w2.alloc (.cells #[.string K, .string SS, .string E, .int .i64 (p100 : Int), .slice xn n2 cn] 24)).heap.size := by have := HS5.out.c.conf.lt; omega
                    have HO5 := Lib.hid (show peerT.own (w2.alloc (.cells #[.string K, .string SS, .string E, .int .i64 (p100 : Int), .slice xn n2 cn] 24)) (bc + 1) (.slice xp ll cp) L from HS5.out.c.peers.row)
                    have hmax : (L.length + 1) * peerT.k ≤ maxLen := by rw [← Hll.out]; show (ll + 1) * 5 ≤ maxLen; unfold maxLen; omega
                    have hby : (L.length + 1) * peerT.bytes ≤ 140737488355328 := by rw [← Hll.out]; show (ll + 1) * 80 ≤ _; omega
                    clear HS2 Henc
                    go_upto_region 22 with fail
                    go_wp2_with (at_builtin; refine wpL_append_R peerT _ (o := ⟨some 94, _, _, _, _, _⟩) rfl (.tmp 91) (.tmp 93) rfl (bc + 1) (.slice xp ll cp) L rfl HO5.out (some ⟨w2.heap.size, 0, none⟩) 1 1 [(⟨K, SS, E, (p100 : Int), Nt.sortN ns⟩, xn, cn)] rfl (fun h => by cases h) Hnw.out hmax hby hbc5 ?_)
                    intro v1 w6 ho6 hg6 hat6
                    have hA : AllSt w1 (w2.alloc (.cells #[.string K, .string SS, .string E, .int .i64 (p100 : Int), .slice xn n2 cn] 24)) bc bp g6 (Cf.rawPort l : Int) (.slice xp ll cp) L ⟨rk, ra, rb, rs⟩ (.slice xm1 m1 cm1) (met ++ ns) (keyOf i) SS E (p100 : Int) (.slice xn (Nt.sortN ns).length cn) (Nt.sortN ns) := by rw [← EK.out, ← Hn2.out]; exact HS5.out
                    have hbk := HS5.out.c.conf.grown hg6 (fun e => by have := (HS5.out.c.peers.row.lt bc e).1; omega)
                    have y2 := hbk.cell 2 rfl
                    have f2 := hbk.frozen (by show 3 ≤ maxLen; decide) 2
                    have HP := Lib.hid (AtC.push Hmet.out Hns.out (by rw [ES.out, E3.out]) (by rw [EE.out, E5.out]) (by rw [E100.out]) hA HLm.out H0.out (by rw [← E5'.out]; exact H5.out) Hr.out hg6 (by rw [← EK.out]; exact ho6) (by rw [hz5]; exact hat6.out))
                    have HL1 := Lib.hid (show m1 = (Cf.rawSt l (i + 1)).1.length by
                      rw [Hm1.out, Hmet.out, Cf.rawSt_succ, if_neg H0.out, Hr.out, if_pos (by rw [← E5'.out]; exact H5.out), Hns.out, Hmet.out])
                    obtain ⟨xq, cq, rfl, -, -⟩ := ho6.slice
                    generalize (L ++ [((⟨K, SS, E, (p100 : Int), Nt.sortN ns⟩, xn, cn) : Cf.Q)]).length = lq at *
                    clear hA hbk ho6 hg6 hat6 HS5 HO5 Hnw hz5 hbc5 hmax hby k2 z0 z1 z2 z3 z4
                    go_wp2
                    go_roundw
                    case rel => exact ⟨i + 1, xm1, cm1, by omega, by omega, by go_num, by rw [HL1.out], by rw [← HL1.out]; exact HP⟩
                    case measure => simp [intOf]; omega
                  · have t5 : ¬ (0 : Int) < (q5 : Int) := by omega
                    have HX := Lib.hid (Cf.left_all met ns (Nt.sortN ns) (Nt.sort_perm ns) (fun x hx => Hok.out.2.2.1 x hx))
                    have H5 := Lib.hid h5
                    have H0 := Lib.hid h0
                    have Hm0 := Lib.hid (show m1 = (Cf.left (met ++ ns) (Nt.sortN ns) 0).length by rw [Cf.left_zero]; exact Hm1.out)
                    have HS0 : Hid (AllSt w1 w2 bc bp g6 (Cf.rawPort l : Int) vp L ⟨rk, ra, rb, rs⟩ (.slice xm1 m1 cm1) (Cf.left (met ++ ns) (Nt.sortN ns) 0) K SS E (p100 : Int) (.slice xn n2 cn) (Nt.sortN ns)) := Lib.hid (by rw [Cf.left_zero]; exact HS2.out)
                    have z4 : w2.cell? ⟨bp, 4, none⟩ = some (.slice xn n2 cn) := HS2.out.p.blk.cell 4 rfl
                    clear h5 h0 HS2
                    generalize Nt.sortN ns = S at *
                    have Hn2' := Lib.hid Hn2.out.symm
                    go_wp2
                    rename_i hcn
                    clear z4 t5 hcn
                    go_loopw [4, 99] (fun v4 v99 wr => ∃ (j m2 : Nat) (xm2 : Option Addr) (cm2 : Nat), j ≤ n2 ∧ v99 = .int .i64 (j : Int) ∧ v4 = .slice xm2 m2 cm2 ∧ Hid (m2 = (Cf.left (met ++ ns) S j).length) ∧ Hid (AllSt w1 wr bc bp g6 (Cf.rawPort l : Int) vp L ⟨rk, ra, rb, rs⟩ (.slice xm2 m2 cm2) (Cf.left (met ++ ns) S j) K SS E (p100 : Int) (.slice xn n2 cn) S)) (fun _ v99 _ => n2 - (intOf v99).toNat)
                    case atStart => exact ⟨0, m1, xm1, cm1, Nat.zero_le _, rfl, rfl, Hm0, HS0⟩
                    case round =>
                      obtain ⟨j, m2, xm2, cm2, hj, rfl, rfl, Hm2, HSj⟩ := hrel
                      obtain ⟨wj, hwj⟩ : ∃ wj, wj = wr := ⟨_, rfl⟩
                      subst hwj
                      clear HS0 Hm0
                      by_cases hjn : j < n2
                      · have ij : (j : Int) < (n2 : Int) := by omega
                        have hjS : j < S.length := by have := Hn2'.out; omega
                        obtain ⟨xq, cq, esl, -, hat⟩ := HSj.out.p.nets.at
                        injection esl with e1 e2 e3
                        have hcat := netT_at.1 hat
                        rw [← e1, ← e2] at hcat
                        obtain ⟨bq, oq, rfl, hbq, hcs⟩ := hcat.2 (by omega)
                        obtain ⟨x0, x1⟩ := hcs j hjS
                        have Hls := Lib.hid (Cf.left_succ (met ++ ns) S j hjS)
                        clear e1 e2 e3 hat hcat hcs
                        generalize S[j] = y at *
                        obtain ⟨ya, yb⟩ := y
                        simp only at x0 x1
                        obtain ⟨wa, hwa⟩ : ∃ wa, wa = wj.alloc (.cells #[.int .u32 (ya : Int), .int .i64 yb] 44) := ⟨_, rfl⟩
                        have hba : Below wj.heap.size wj wa := by rw [hwa]; exact (Below.refl _ _).alloc (Nat.le_refl _) _
                        have HSa := Lib.hid (HSj.out.step hba)
                        have hba2 : Blk wa wj.heap.size 44 [.int .u32 (ya : Int), .int .i64 yb] := by rw [hwa]; exact Blk.new wj _ _
                        obtain ⟨ga, hga⟩ : ∃ ga, ga = wj.heap.size := ⟨_, rfl⟩
                        rw [← hga] at hba2
                        have HDel := Lib.hid (nets_DeleteFunc 27 ga (fun x => decide (x = (ya, yb))) (.slice xm2 m2 cm2) (Cf.left (met ++ ns) S j) wa (bc + 1) HSa.out.c.met (sel_conf ga (ya, yb) wa hba2) (fun e => by have := (HSj.out.c.met.lt ga e).2; omega))
                        rw [Hls.out] at HDel
                        clear hba hba2 HSj Hls
                        go_upto_region 26 with fail
                        rw [← hwa, ← hga]
                        clear hwa hga x0 x1
                        go_wp2_with fail
                        refine HDel.out.mono ?_
                        rintro e wb ⟨⟨v', rfl, ho, hat⟩, hg⟩
                        have hs := HSa.out.mets hg ho (.inl hat)
                        obtain ⟨xm3, cm3, rfl, -, -⟩ := ho.slice
                        obtain ⟨m3, hm3⟩ : ∃ m3, m3 = (Cf.left (met ++ ns) S (j + 1)).length := ⟨_, rfl⟩
                        rw [← hm3] at hs ⊢
                        have HSb := Lib.hid hs
                        have Hm3 := Lib.hid hm3
                        clear hs hm3 ho hat hg HSa HDel
                        go_wp2
                        go_roundw
                        case rel => exact ⟨j + 1, m3, xm3, cm3, by omega, by go_num, rfl, Hm3, HSb⟩
                        case measure => simp [intOf]; omega
                      · obtain rfl : j = n2 := by omega
                        have hX : Cf.left (met ++ ns) S j = met := by rw [Hn2.out]; exact HX.out
                        have hm := Hm2.out
                        have hs := HSj.out.c
                        rw [hX] at hm hs
                        rw [Hmet.out] at hs
                        have HP := Lib.hid (AtC.drop hs HLm.out H0.out (by show ¬ 0 < pick rk 5; rw [← E5'.out]; exact H5.out) Hr.out)
                        have HL1 := Lib.hid (show m2 = (Cf.rawSt l (i + 1)).1.length by
                          rw [hm, Hmet.out, Cf.rawSt_succ, if_neg H0.out, Hr.out, if_neg (by show ¬ 0 < pick rk 5; rw [← E5'.out]; exact H5.out)])
                        clear hX hm hs
                        go_wp2
                        go_roundw
                        case rel => exact ⟨i + 1, xm2, cm2, by omega, by omega, by go_num, by rw [HL1.out], by rw [← HL1.out]; exact HP⟩
                        case measure => simp [intOf]; omega
    · obtain rfl : i = n := by omega
      have HT := HC
      clear HC
      obtain ⟨xa, xc, L, hcf, hop, hmap, hbel, hbw⟩ := HT.out.done (by omega)
      have HCf := Lib.hid hcf
      have HOp := Lib.hid hop
      have HMap := Lib.hid hmap
      have HBel := Lib.hid (HA.out.trans (hbel.mono HA.out.size))
      have HRt := Lib.hid (HR.out.kept hbel)
      have f0 := hcf.cell 0 rfl
      have f1 := hcf.cell 1 rfl
      have f2 := hcf.cell 2 rfl
      have hbc : w.heap.size < bc := by omega
      clear hcf hop hmap hbel hbw HT
      go_wp2_with (refine wpL_storeBlk (o := ⟨none, _, _, _, _, _⟩) rfl 31 (.tmp 2) (.tmp 108) rfl w.heap.size _ [.string (keyOf 0), .int .i64 (Cf.rawPort l : Int), .slice xa L.length xc] rfl rfl HRt.out size_confK rfl rfl ?_)
      intro w9 hR9 hgr9 hsz9
      have HB9 := Lib.hid (HBel.out.grown hgr9 HBel.out.size (fun j hj => by injection hj with hj; omega))
      have HO9 := Lib.hid (result_own (N := w.heap.size) HOp.out hgr9 hbc (by omega))
      go_wp2
      exact bodyPost_ret (ret_cell1 (load_confK hR9 rfl) Tryd.results7 rfl) rfl ⟨⟨_, L, rfl, HMap.out, HO9.out⟩, HB9.out⟩
end Go.Proofs.YtjdflnnpamjjcaaDoor

namespace Go.Proofs.YtjdflnnpamjjcaaDoor
open Go.RowKit

theorem keep_ConfAt (a : Option Addr) (n c : Nat) (l : List RawD) (w : World) (h : RawsAt w w.heap.size a n l) (hn : n ≤ maxLen) (hok : ∀ r ∈ l, r.ok) :
    Calls Tryd.prog 7 #[.slice a n c] w fun e w' => (∃ xa xc, e = .returned (confV (Cf.rawC l) xa xc) ∧ (Cf.rawC l).ps.length ≤ xc ∧ PeersAt w' w'.heap.size xa (Cf.rawC l).ps.length (Cf.rawC l).ps) ∧ Below w.heap.size w w' := by
  refine (keep_Conf a n c l w h hn hok).mono fun e w' ⟨⟨v, L, he, hm, ho⟩, hb⟩ => ?_
  obtain ⟨xa, xc, rfl, h1, -, -, h2⟩ := ho.at
  rw [hm] at h2
  have hl : L.length = (Cf.rawC l).ps.length := by rw [← hm, List.length_map]
  rw [hl] at he h1 h2
  exact ⟨⟨xa, xc, he, h1, h2⟩, hb⟩
end Go.Proofs.YtjdflnnpamjjcaaDoor
