/- The contract of the laws' helper taken. -/
import Derived.Test.YtgcaapehfnmelaaWinCode
import Derived.Test.YtgcaapehfnmelaaWinDesc
import Derived.Test.YtgcaapehfnmelaaIntMem
import Derived.Test.YtgcaapehfnmelaaMemG
import Derived.Test.YtgcaapehfnmelaaKeepPick
import Derived.Test.YtgcaapehfnmelaaShelfSlices
import Derived.OneCell
import Derived.BigRegion
namespace Go.Proofs.Ytgcaapehfnmelaa
open Go.RowKit

def pk (x : Int) : Int := (pick x 200 : Int)
theorem pk_lt (x : Int) : 0 ≤ pk x ∧ pk x < 200 := by have := pick_lt x 200 (by decide); unfold pk; omega
theorem takenL_snoc (f : Int → Int) : ∀ (xs : List Int) (x : Int) (cs : List Int), Wn.takenL f (xs ++ [x]) cs = (if Wn.late (Wn.takenL f xs cs) (f x) = true then Wn.takenL f xs cs else Wn.takenL f xs cs ++ [f x])
  | [], x, cs => rfl
  | y :: xs, x, cs => by simp only [List.cons_append, Wn.takenL]; exact takenL_snoc f xs x _
/-- What taken holds behind k of the numbers. -/
def Came (zs : List Int) (w : World) (k : Nat) (v : Value) (wr : World) : Prop :=
  ∃ so la b cs av cv, v = .slice av cs.length cv ∧ Wn.Desc so la b cs ∧ cs = Wn.takenL pk (zs.take k) [] ∧ (∀ c ∈ cs, 0 ≤ c ∧ c < 200) ∧ cs.length ≤ k ∧
    wr.ownsRow (w.heap.size + 2) 3 1 (.slice av cs.length cv) cs.length (icells cs) ∧
    wr.ownsRow w.heap.size 24 1 (.slice (some ⟨w.heap.size + 1, 0, none⟩) 3 3) 3 [.bool so, .int .i64 la, .int .u64 (b : Int)] ∧
    wr.ownsRow w.heap.size 24 1 (.slice (some ⟨w.heap.size, 0, none⟩) 3 3) 3 [.bool false, .int .i64 0, .int .u64 0] ∧ Below w.heap.size w wr
theorem contains_dec (cs : List Int) (x : Int) : cs.contains x = decide (x ∈ cs) := by simp
theorem keep_Contains (a : Option Addr) (n c B : Nat) (cs : List Int) (x : Int) (w : World) (h : IntsAt w B a n cs) (hn : n ≤ 1000) :
    Calls Try.prog 17 #[.slice a n c, .int .i64 x] w fun e w' => e = .returned (.bool (decide (x ∈ cs))) ∧ w' = w := by
  by_cases h0 : 0 < n
  · obtain ⟨b, off, rfl, hc⟩ := ints_all h h0
    have hl := h.1
    refine (Try.slices_Contains_int b off n c cs x w (by omega) (by omega) hc).mono ?_
    rintro e w' ⟨rfl, rfl⟩
    rw [List.take_of_length_le (by omega), contains_dec]
    exact ⟨rfl, rfl⟩
  · obtain rfl : n = 0 := by omega
    obtain rfl : cs = [] := List.eq_nil_of_length_eq_zero h.1
    exact Try.slices_Contains_int_empty a c x w

theorem row_kept {w w' : World} {o : Obj} {base g : Nat} {xs : List Value} {row : Option Nat} (h : w.ownsRow base 24 1 (.slice (some ⟨g, 0, none⟩) 3 3) 3 xs) (hg : (w.alloc o).drew.grownBy w' row) (hne : row = some g → False) :
    w'.ownsRow base 24 1 (.slice (some ⟨g, 0, none⟩) 3 3) 3 xs :=
  World.ownsRow.kept ((h.alloc o).drew) hg (.inr fun e => hne e.symm)
theorem news_drewG (w : World) (x : Value) (t : TypeId) : ∀ ad, (some (⟨w.heap.size, 0, none⟩ : Addr)) = some ad → ∀ j u, [x][j]? = some u → (w.alloc (.cells #[x] t)).drew.cell? (ad.add j) = some u := by
  intro ad ha j u hu
  injection ha with ha
  subst ha
  match j, hu with
  | 0, hu => simp at hu; subst hu; simp [Addr.add]

theorem came_step {zs : List Int} {w w4 : World} {k : Nat} {so X0 : Bool} {la X1 : Int} {b X2 p : Nat} {cs : List Int} {a4 : Option Addr} {c4 : Nat} (hD : Wn.Desc so la b cs) (hp : p < 200) (hL : Wn.late cs (p : Int) = false) (hV : takeV so la b (p : Int) = seenV X0 X1 X2)
    (hT : Wn.takenL pk (zs.take (k + 1)) [] = if Wn.late cs (p : Int) = true then cs else cs ++ [(p : Int)]) (hc2 : ∀ c ∈ cs, 0 ≤ c ∧ c < 200) (hcl : cs.length ≤ k)
    (ho : w4.ownsRow (w.heap.size + 2) 3 1 (.slice a4 (cs.length + 1) c4) (cs.length + 1) (icells cs ++ [.int .i64 (p : Int)]))
    (hs : w4.ownsRow w.heap.size 24 1 (.slice (some ⟨w.heap.size + 1, 0, none⟩) 3 3) 3 [.bool so, .int .i64 la, .int .u64 (b : Int)])
    (hr : w4.ownsRow w.heap.size 24 1 (.slice (some ⟨w.heap.size, 0, none⟩) 3 3) 3 [.bool false, .int .i64 0, .int .u64 0]) (hB : Below w.heap.size w w4) :
    Came zs w (k + 1) (.slice a4 (cs.length + 1) c4) (((w4.setCell ⟨w.heap.size + 1, 0, none⟩ (.bool X0)).setCell ⟨w.heap.size + 1, 1, none⟩ (.int .i64 X1)).setCell ⟨w.heap.size + 1, 2, none⟩ (.int .u64 (X2 : Int))) := by
  have hE := Wn.desc_takeErr hD (p : Int) (by omega) (by omega)
  rw [hL] at hE hT
  have hV2 : takeV so la b (p : Int) = seenV true (Wn.last so la p) (Wn.takeBits so la b p) := by unfold takeV; rw [hE]; rfl
  rw [hV2] at hV
  have h1 : X0 = true ∧ X1 = Wn.last so la p ∧ X2 = Wn.takeBits so la b p := by
    unfold seenV at hV
    injection hV with hV
    have h := congrArg Array.toList hV
    simp at h
    exact ⟨by first | exact h.1 | exact h.1.symm, by first | exact h.2.1.symm | exact h.2.1, by omega⟩
  obtain ⟨rfl, rfl, rfl⟩ := h1
  refine ⟨true, _, _, cs ++ [(p : Int)], a4, c4, by simp, Wn.desc_take hD (p : Int) (by omega) (by omega) hL, by rw [hT]; rfl, ?_, by simp; omega, ?_, three_set hs _ _ _, ?_, ((hB.setCell (by simp) _).setCell (by simp) _).setCell (by simp) _⟩
  · intro c hc
    rcases List.mem_append.1 hc with h | h
    · exact hc2 c h
    · simp at h; subst h; omega
  · rw [icells_append, List.length_append]
    exact ownsRow_setCell_below (ownsRow_setCell_below (ownsRow_setCell_below ho (by simp) _) (by simp) _) (by simp) _
  · exact ownsRow_setCell_other (ownsRow_setCell_other (ownsRow_setCell_other hr (by simp [Value.ownBlock]) _) (by simp [Value.ownBlock]) _) (by simp [Value.ownBlock]) _
theorem came_stay {zs : List Int} {w w4 : World} {k : Nat} {so : Bool} {la : Int} {b p : Nat} {cs : List Int} {av : Option Addr} {cv : Nat} (hD : Wn.Desc so la b cs) (hL : Wn.late cs (p : Int) = true)
    (hT : Wn.takenL pk (zs.take (k + 1)) [] = if Wn.late cs (p : Int) = true then cs else cs ++ [(p : Int)]) (hc2 : ∀ c ∈ cs, 0 ≤ c ∧ c < 200) (hcl : cs.length ≤ k)
    (ho : w4.ownsRow (w.heap.size + 2) 3 1 (.slice av cs.length cv) cs.length (icells cs))
    (hs : w4.ownsRow w.heap.size 24 1 (.slice (some ⟨w.heap.size + 1, 0, none⟩) 3 3) 3 [.bool so, .int .i64 la, .int .u64 (b : Int)])
    (hr : w4.ownsRow w.heap.size 24 1 (.slice (some ⟨w.heap.size, 0, none⟩) 3 3) 3 [.bool false, .int .i64 0, .int .u64 0]) (hB : Below w.heap.size w w4) :
    Came zs w (k + 1) (.slice av cs.length cv) w4 := by
  rw [hL] at hT
  exact ⟨so, la, b, cs, av, cv, rfl, hD, by rw [hT]; rfl, hc2, by omega, ho, hs, hr, hB⟩

theorem seven : takeV false 0 0 7 = seenV true 7 (Wn.takeBits false 0 0 7) ∧ Wn.takeErr false 0 0 7 = 0 := by
  have h : Wn.takeErr false 0 0 7 = 0 := rfl
  exact ⟨by unfold takeV; rw [h]; rfl, h⟩
/-- A state, a slice and a bool, the first out of its own cells. -/
theorem seen_ret3 {fn : Func} {w : World} {base g : Nat} {x y z : Value} {p u v : Nat} {e f : Value} {tmps : Array Value} (h : fn.results = #[.cell p 24, .tmp u, .tmp v]) (hp : tmps.getD p undef = .pointer (some ⟨g, 0, none⟩)) (hu : tmps.getD u undef = e) (hv : tmps.getD v undef = f)
    (R : w.ownsRow base 24 1 (.slice (some ⟨g, 0, none⟩) 3 3) 3 [x, y, z]) : (results fn tmps).run Try.prog w = .ok (.tuple #[.agg #[x, y, z], e, f]) w := by
  have hl := run_loadVar_row (P := Try.prog) w g 24 24 #[x, y, z] (0, 0) _ (three_block R) Try.underlying24 rfl size_seen
  have hp' : tmps[p]?.getD undef = .pointer (some ⟨g, 0, none⟩) := by simpa using hp
  have hu' : tmps[u]?.getD undef = e := by simpa using hu
  have hv' : tmps[v]?.getD undef = f := by simpa using hv
  simp [results, h, hp', hu', hv', asAddr, hl]

set_option maxRecDepth 100000 in
set_option maxHeartbeats 4000000 in
theorem keep_taken (a : Option Addr) (n c : Nat) (zs : List Int) (w : World) (h : IntsAt w w.heap.size a n zs) (hz : ∀ z ∈ zs, -9223372036854775808 ≤ z ∧ z ≤ 9223372036854775807) :
    Calls Try.prog 14 #[.slice a n c] w fun e w' => ∃ so la b cs av cv, e = .returned (.tuple #[seenV so la b, .slice av cs.length cv, .bool true]) ∧ Wn.Desc so la b cs ∧ (∀ c ∈ cs, 0 ≤ c ∧ c < 200) ∧ cs.length ≤ 41 ∧
      w'.ownsRow w.heap.size 3 1 (.slice av cs.length cv) cs.length (icells cs) ∧ Below w.heap.size w w' := by
  have Hz := Lib.hid hz
  have Hi := Lib.hid h
  clear hz h
  go_enter Try.func14, Try.ntmps14
  go_wp2
  go_loopw [6, 19] (fun v i wr => ∃ k : Nat, k ≤ n ∧ k ≤ 41 ∧ i = .int .i64 k ∧ Came zs w k v wr) (fun _ i _ => 41 - (intOf i).toNat)
  case atStart =>
    refine ⟨0, Nat.zero_le _, by decide, rfl, false, 0, 0, [], none, 0, rfl, Wn.desc_nil, rfl, fun c h => (by cases h), Nat.zero_le _, World.ownsRow_nil _ _ _ _, own_three (heap_alloc2_new w _ _) (by omega), own_three ?_ (Nat.le_refl _), ((Below.refl _ _).alloc (Nat.le_refl _) _).alloc (by simp) _⟩
    rw [heap_alloc_old _ _ (by simp)]
    exact heap_alloc_new w _
  case round =>
    obtain ⟨k, hk, hk41, rfl, so, la, b, cs, av, cv, rfl, hD, hcs, hc2, hcl, hoc, hos, hor, hB⟩ := hrel
    have hz := hB.size
    obtain ⟨wo, hwo⟩ : ∃ wo, wo = wr := ⟨_, rfl⟩
    subst hwo
    by_cases hlt : k < n
    · by_cases h41 : k < 41
      · obtain ⟨ga, oa, rfl, cz⟩ := ints_lt (Hi.out.below hB) hlt
        have hkz : k < zs.length := by rw [Hi.out.1]; exact hlt
        have hzk : zs.getD k 0 = zs[k] := by rw [List.getD_eq_getElem?_getD, List.getElem?_eq_getElem hkz]; rfl
        have hzb := Hz.out _ (List.getElem_mem hkz)
        rw [← hzk] at hzb
        have HT := Lib.hid (show Wn.takenL pk (zs.take (k + 1)) [] = (if Wn.late cs (pk (zs.getD k 0)) = true then cs else cs ++ [pk (zs.getD k 0)]) by
          rw [List.take_succ_eq_append_getElem hkz, takenL_snoc, ← hcs, hzk])
        have hpl := pick_lt (zs.getD k 0) 200 (by decide)
        have HP := Lib.hid (fun W => keep_picked (zs.getD k 0) 200 W hzb.1 hzb.2 (by decide) (by decide))
        have hpk : pk (zs.getD k 0) = (pick (zs.getD k 0) 200 : Int) := rfl
        rw [hpk] at HT
        clear hpk hzk hzb
        generalize zs.getD k 0 = z at *
        generalize pick z 200 = p at *
        have hbl := Wn.desc_lt hD
        have hte := Wn.desc_takeErr hD (p : Int) (by omega) (by omega)
        obtain ⟨X0, X1, X2, hV⟩ : ∃ X0 X1 X2, takeV so la b (p : Int) = seenV X0 X1 X2 := by
          unfold takeV; split
          · exact ⟨_, _, _, rfl⟩
          · exact ⟨_, _, _, rfl⟩
        have HTk := Lib.hid (fun W => win_Take so la b (p : Int) W (by omega) (by omega) hbl.1 (by omega) (by omega))
        obtain ⟨s0, s1, s2⟩ := three_cells hos
        have HD := Lib.hid hD
        have Hc2 := Lib.hid hc2
        have Hcs := Lib.hid hcs
        have Hte := Lib.hid hte
        have HV := Lib.hid hV
        clear hD hc2 hcs hte hV
        go_wp2_with fail
        refine (HP.out _).mono ?_
        rintro e w0 ⟨rfl, rfl⟩
        go_wp2_with fail
        refine (HTk.out _).mono ?_
        rintro e w1 ⟨rfl, hb1⟩
        rw [HV.out]
        unfold seenV
        have hoc1 := own_below hoc hb1
        have hos1 := own_below hos hb1
        have hor1 := own_below hor hb1
        have hB1 := hB.trans (hb1.mono hz)
        have hz1 := hB1.size
        clear hoc hos hor s0 s1 s2 cz
        generalize Wn.takeErr so la b (p : Int) = er at *
        go_wp2
        obtain ⟨wx, hwx⟩ : ∃ wx, wx = w1.alloc (.cells #[.bool X0, .int .i64 X1, .int .u64 (X2 : Int)] 24) := ⟨_, rfl⟩
        have hoc2 : wx.ownsRow (w.heap.size + 2) 3 1 (.slice av cs.length cv) cs.length (icells cs) := by rw [hwx]; exact hoc1.alloc _
        have hos2 : wx.ownsRow w.heap.size 24 1 (.slice (some ⟨w.heap.size + 1, 0, none⟩) 3 3) 3 [.bool so, .int .i64 la, .int .u64 (b : Int)] := by rw [hwx]; exact hos1.alloc _
        have hor2 : wx.ownsRow w.heap.size 24 1 (.slice (some ⟨w.heap.size, 0, none⟩) 3 3) 3 [.bool false, .int .i64 0, .int .u64 0] := by rw [hwx]; exact hor1.alloc _
        have hx3 : wx.ownsRow w1.heap.size 24 1 (.slice (some ⟨w1.heap.size, 0, none⟩) 3 3) 3 [.bool X0, .int .i64 X1, .int .u64 (X2 : Int)] := by rw [hwx]; exact own_three (heap_alloc_last w1 _) (Nat.le_refl _)
        have hB2 : Below w.heap.size w wx := by rw [hwx]; exact hB1.alloc hz1 _
        have hzx : wx.heap.size = w1.heap.size + 1 := by rw [hwx]; simp
        rw [← hwx]
        have hrow : ∀ g', (Value.slice av cs.length cv).ownBlock = some g' → w.heap.size + 2 ≤ g' ∧ g' < w1.heap.size := fun g' e => hoc1.lt g' e
        clear hwx hoc1 hos1 hor1 hB1
        have Hoc := Lib.hid hoc2
        have Hos := Lib.hid hos2
        have Hor := Lib.hid hor2
        have Hx3 := Lib.hid hx3
        have HB2 := Lib.hid hB2
        have HI := Lib.hid (IntsAt.own hoc2)
        clear hoc2 hos2 hor2 hx3 hB2
        go_loopw [11, 36] (fun mv j W => ∃ jn : Nat, jn ≤ cs.length ∧ j = .int .i64 jn ∧ mv = .int .i64 ((cs.take jn).foldl max (-1)) ∧ W = wx) (fun _ j _ => cs.length - (intOf j).toNat)
        case atStart => exact ⟨0, Nat.zero_le _, rfl, rfl, rfl⟩
        case round =>
          obtain ⟨jn, hj, rfl, rfl, rfl⟩ := hrel
          by_cases hjl : jn < cs.length
          · obtain ⟨gc, oc, rfl, cj⟩ := ints_lt HI.out hjl
            have Hm := Lib.hid (show (cs.take (jn + 1)).foldl max (-1) = max ((cs.take jn).foldl max (-1)) (cs.getD jn 0) by
              rw [List.take_succ_eq_append_getElem hjl, List.foldl_append, List.getD_eq_getElem?_getD, List.getElem?_eq_getElem hjl]; rfl)
            generalize (cs.take jn).foldl max (-1) = M at *
            generalize cs.getD jn 0 = C at *
            go_wp2
            go_roundw
            case rel => exact ⟨jn + 1, by omega, by go_num, by rw [Hm.out], trivial⟩
            case measure => simp [intOf]; omega
          · obtain rfl : jn = cs.length := by omega
            have Hmo := Lib.hid (show (cs.take cs.length).foldl max (-1) = Wn.most cs by rw [List.take_of_length_le (Nat.le_refl _)]; rfl)
            rw [Hmo.out]
            have hmb : -1 ≤ Wn.most cs ∧ Wn.most cs < 200 := by
              have hf := Wn.foldl_max cs (-1)
              refine ⟨hf.2.1, ?_⟩
              rcases hf.2.2 with e | e
              · unfold Wn.most; omega
              · exact (Hc2.out _ e).2
            have Hlate := Lib.hid (show Wn.late cs (p : Int) = (decide ((p : Int) ∈ cs) || decide (64 ≤ Wn.most cs - (p : Int))) from rfl)
            generalize Wn.most cs = mo at *
            go_wp2_with fail
            refine (keep_Contains _ _ _ _ cs (p : Int) _ HI.out (by omega)).mono ?_
            rintro e w3 ⟨rfl, hw3⟩
            subst hw3
            have hmp : -9223372036854775808 ≤ mo - (p : Int) ∧ mo - (p : Int) ≤ 9223372036854775807 := by omega
            cases hL : Wn.late cs (p : Int)
            · have hp1 : decide ((p : Int) ∈ cs) = false := by
                have := Hlate.out; rw [hL] at this; simp at this; simp [this.1]
              have hp2 : ¬ 64 ≤ mo - (p : Int) := by
                intro hx; have := Hlate.out; rw [hL, decide_eq_true hx] at this; simp at this
              obtain rfl : er = 0 := by have := Hte.out; rw [hL] at this; simpa using this
              obtain ⟨x0, x1, x2⟩ := three_cells Hx3.out
              obtain ⟨s0, s1, s2⟩ := three_cells Hos.out
              have e0 := Hos.out.frozenAt 0
              have e1 := Hos.out.frozenAt 1
              have e2 := Hos.out.frozenAt 2
              obtain ⟨i0, hi0, hi1, hi2, hi3⟩ := info_i64
              have Hi4 := Lib.hid (And.intro hi0 (And.intro hi1 (And.intro hi2 hi3)))
              clear hi0 hi1 hi2 hi3
              rw [hp1, show ((0 : Nat) : Int) = (0 : Int) from rfl]
              go_wp2_with fail
              have Hrow := Lib.hid hrow
              have HsK := fun w4 hg4 => row_kept (o := .cells #[.int .i64 (p : Int)] 3) (w' := w4) Hos.out hg4 (fun e => by have := (Hrow.out _ e).1; omega)
              have HrK := fun w4 hg4 => row_kept (o := .cells #[.int .i64 (p : Int)] 3) (w' := w4) Hor.out hg4 (fun e => by have := (Hrow.out _ e).1; omega)
              have HxK := fun w4 hg4 => row_kept (o := .cells #[.int .i64 (p : Int)] 3) (w' := w4) Hx3.out hg4 (fun e => by have := (Hrow.out _ e).2; omega)
              have HsKh := Lib.hid HsK
              have HrKh := Lib.hid HrK
              have HxKh := Lib.hid HxK
              clear HsK HrK HxK
              go_region_law (refine step_append_any _ rfl (.tmp 70) (.tmp 72) 32 rfl (w.heap.size + 2) 3 i0 (.int .i64 0) 8 Try.underlying32 Hi4.out.1 Hi4.out.2.1 Hi4.out.2.2.1 Hi4.out.2.2.2 rfl av cs.length cv (icells cs) (by simp [Act.eval]) (by exact (Hoc.out.alloc _).drew) (some ⟨w3.heap.size, 0, none⟩) 1 1 [.int .i64 (p : Int)] (by simp [Act.eval]) rfl (by intro h; cases h) (news_drewG _ _ _) (one_one _ _) (by unfold maxLen; omega) (by omega) (by have := HB2.out.size; simp; omega) ?_; intro a4 c4 w4 ho4 hg4; obtain ⟨y0, y1, y2⟩ := three_cells (HxKh.out w4 hg4); obtain ⟨v0, v1, v2⟩ := three_cells (HsKh.out w4 hg4); have fe0 := (HsKh.out w4 hg4).frozenAt 0; have fe1 := (HsKh.out w4 hg4).frozenAt 1; have fe2 := (HsKh.out w4 hg4).frozenAt 2)
              all_goals
                have hB4 : Below w.heap.size w w4 := below_own (B := w.heap.size) (((HB2.out.alloc HB2.out.size _).drew)) ((Hoc.out.alloc _).drew) hg4 (by omega) (by have := HB2.out.size; simp; omega)
                have HC := Lib.hid (came_step (zs := zs) (w := w) (k := k) HD.out hpl hL HV.out HT.out Hc2.out (by omega) ho4 (HsKh.out w4 hg4) (HrKh.out w4 hg4) hB4)
                clear ho4 hg4 y0 y1 y2 v0 v1 v2 fe0 fe1 fe2 hB4 x0 x1 x2 s0 s1 s2 e0 e1 e2
                go_wp2
                go_roundw
                case rel => exact ⟨k + 1, by omega, by omega, by go_num, HC.out⟩
                case measure => simp [intOf]; omega
            · obtain rfl : er = 10 := by have := Hte.out; rw [hL] at this; simpa using this
              have HC := Lib.hid (came_stay (zs := zs) (w := w) (k := k) HD.out hL HT.out Hc2.out (by omega) Hoc.out Hos.out Hor.out HB2.out)
              have Hl2 := Hlate.out
              rw [hL] at Hl2
              have hcase : decide ((p : Int) ∈ cs) = true ∨ (decide ((p : Int) ∈ cs) = false ∧ 64 ≤ mo - (p : Int)) := by
                cases hd : decide ((p : Int) ∈ cs)
                · right; rw [hd] at Hl2; simp at Hl2; exact ⟨rfl, by omega⟩
                · left; rfl
              rw [show ((10 : Nat) : Int) = (10 : Int) from rfl]
              clear Hl2 hL
              rcases hcase with hd | ⟨hd, hge⟩
              · rw [hd]
                go_wp2
                go_roundw
                case rel => exact ⟨k + 1, by omega, by omega, by go_num, HC.out⟩
                case measure => simp [intOf]; omega
              · rw [hd]
                go_wp2
                go_roundw
                case rel => exact ⟨k + 1, by omega, by omega, by go_num, HC.out⟩
                case measure => simp [intOf]; omega
      · have hk40 : (40 : Int) < (k : Int) := by omega
        obtain ⟨ga, oa, rfl, cz⟩ := ints_lt (Hi.out.below hB) hlt
        clear hcs
        obtain ⟨r0, r1, r2⟩ := three_cells hor
        have H7 := Lib.hid seven
        go_wp2_with fail
        refine (win_Take false 0 0 7 _ (by decide) (by decide) (by decide) (by decide) (by decide)).mono ?_
        rintro e w1 ⟨rfl, hb1⟩
        rw [H7.out.1, H7.out.2]
        unfold seenV
        have hoc1 := own_below hoc hb1
        have hos1 := own_below hos hb1
        have hor1 := own_below hor hb1
        have hB1 := hB.trans (hb1.mono hz)
        have hz1 := hB1.size
        have hlt2 := (hos.lt (w.heap.size + 1) rfl).2
        have hlt3 := hb1.size
        have hne1 : ¬ w1.heap.size = w.heap.size := by omega
        have hne2 : ¬ w.heap.size = w1.heap.size := by omega
        generalize Wn.takeBits false 0 0 7 = tb at *
        clear hoc hos hor r0 r1 r2 hb1
        obtain ⟨wx, hwx⟩ : ∃ wx, wx = w1.alloc (.cells #[.bool true, .int .i64 7, .int .u64 (tb : Int)] 24) := ⟨_, rfl⟩
        have hoc2 : wx.ownsRow (w.heap.size + 2) 3 1 (.slice av cs.length cv) cs.length (icells cs) := by rw [hwx]; exact hoc1.alloc _
        have hos2 : wx.ownsRow w.heap.size 24 1 (.slice (some ⟨w.heap.size + 1, 0, none⟩) 3 3) 3 [.bool so, .int .i64 la, .int .u64 (b : Int)] := by rw [hwx]; exact hos1.alloc _
        have hor2 : wx.ownsRow w.heap.size 24 1 (.slice (some ⟨w.heap.size, 0, none⟩) 3 3) 3 [.bool false, .int .i64 0, .int .u64 0] := by rw [hwx]; exact hor1.alloc _
        have hx3 : wx.ownsRow w1.heap.size 24 1 (.slice (some ⟨w1.heap.size, 0, none⟩) 3 3) 3 [.bool true, .int .i64 7, .int .u64 (tb : Int)] := by rw [hwx]; exact own_three (heap_alloc_last w1 _) (Nat.le_refl _)
        have hB2 : Below w.heap.size w wx := by rw [hwx]; exact hB1.alloc hz1 _
        clear hoc1 hos1 hor1 hB1
        rw [show ((0 : Nat) : Int) = (0 : Int) from rfl]
        go_wp2_with fail
        rw [← hwx]
        obtain ⟨r0, r1, r2⟩ := three_cells hor2
        obtain ⟨s0, s1, s2⟩ := three_cells hos2
        obtain ⟨x0, x1, x2⟩ := three_cells hx3
        have f0 := hor2.frozenAt 0
        have f1 := hor2.frozenAt 1
        have f2 := hor2.frozenAt 2
        have R5 := three_set hor2 (.bool so) (.int .i64 la) (.int .u64 (b : Int))
        have Hoc := Lib.hid hoc2
        have HR5 := Lib.hid R5
        have HB2 := Lib.hid hB2
        have HD := Lib.hid hD
        have Hc2 := Lib.hid hc2
        clear hwx hoc2 hos2 hor2 hx3 R5 hB2 hD hc2
        go_region
        all_goals
          go_wp2
          exact bodyPost_ret (seen_ret3 Try.results14 rfl rfl rfl HR5.out.drew) rfl ⟨so, la, b, cs, av, cv, rfl, HD.out, Hc2.out, by omega, ownsRow_base (ownsRow_setCell_below (ownsRow_setCell_below (ownsRow_setCell_below Hoc.out (by simp) _) (by simp) _) (by simp) _).drew (by omega), (((HB2.out.setCell (Nat.le_refl _) _).setCell (Nat.le_refl _) _).setCell (Nat.le_refl _) _).drew⟩
    · clear hcs
      obtain ⟨r0, r1, r2⟩ := three_cells hor
      have H7 := Lib.hid seven
      go_wp2_with fail
      refine (win_Take false 0 0 7 _ (by decide) (by decide) (by decide) (by decide) (by decide)).mono ?_
      rintro e w1 ⟨rfl, hb1⟩
      rw [H7.out.1, H7.out.2]
      unfold seenV
      have hoc1 := own_below hoc hb1
      have hos1 := own_below hos hb1
      have hor1 := own_below hor hb1
      have hB1 := hB.trans (hb1.mono hz)
      have hz1 := hB1.size
      have hlt2 := (hos.lt (w.heap.size + 1) rfl).2
      have hlt3 := hb1.size
      have hne1 : ¬ w1.heap.size = w.heap.size := by omega
      have hne2 : ¬ w.heap.size = w1.heap.size := by omega
      generalize Wn.takeBits false 0 0 7 = tb at *
      clear hoc hos hor r0 r1 r2 hb1
      obtain ⟨wx, hwx⟩ : ∃ wx, wx = w1.alloc (.cells #[.bool true, .int .i64 7, .int .u64 (tb : Int)] 24) := ⟨_, rfl⟩
      have hoc2 : wx.ownsRow (w.heap.size + 2) 3 1 (.slice av cs.length cv) cs.length (icells cs) := by rw [hwx]; exact hoc1.alloc _
      have hos2 : wx.ownsRow w.heap.size 24 1 (.slice (some ⟨w.heap.size + 1, 0, none⟩) 3 3) 3 [.bool so, .int .i64 la, .int .u64 (b : Int)] := by rw [hwx]; exact hos1.alloc _
      have hor2 : wx.ownsRow w.heap.size 24 1 (.slice (some ⟨w.heap.size, 0, none⟩) 3 3) 3 [.bool false, .int .i64 0, .int .u64 0] := by rw [hwx]; exact hor1.alloc _
      have hx3 : wx.ownsRow w1.heap.size 24 1 (.slice (some ⟨w1.heap.size, 0, none⟩) 3 3) 3 [.bool true, .int .i64 7, .int .u64 (tb : Int)] := by rw [hwx]; exact own_three (heap_alloc_last w1 _) (Nat.le_refl _)
      have hB2 : Below w.heap.size w wx := by rw [hwx]; exact hB1.alloc hz1 _
      clear hoc1 hos1 hor1 hB1
      rw [show ((0 : Nat) : Int) = (0 : Int) from rfl]
      go_wp2_with fail
      rw [← hwx]
      obtain ⟨r0, r1, r2⟩ := three_cells hor2
      obtain ⟨s0, s1, s2⟩ := three_cells hos2
      obtain ⟨x0, x1, x2⟩ := three_cells hx3
      have f0 := hor2.frozenAt 0
      have f1 := hor2.frozenAt 1
      have f2 := hor2.frozenAt 2
      have R5 := three_set hor2 (.bool so) (.int .i64 la) (.int .u64 (b : Int))
      have Hoc := Lib.hid hoc2
      have HR5 := Lib.hid R5
      have HB2 := Lib.hid hB2
      have HD := Lib.hid hD
      have Hc2 := Lib.hid hc2
      clear hwx hoc2 hos2 hor2 hx3 R5 hB2 hD hc2
      go_region
      all_goals
        go_wp2
        exact bodyPost_ret (seen_ret3 Try.results14 rfl rfl rfl HR5.out.drew) rfl ⟨so, la, b, cs, av, cv, rfl, HD.out, Hc2.out, by omega, ownsRow_base (ownsRow_setCell_below (ownsRow_setCell_below (ownsRow_setCell_below Hoc.out (by simp) _) (by simp) _) (by simp) _).drew (by omega), (((HB2.out.setCell (Nat.le_refl _) _).setCell (Nat.le_refl _) _).setCell (Nat.le_refl _) _).drew⟩
end Go.Proofs.Ytgcaapehfnmelaa
