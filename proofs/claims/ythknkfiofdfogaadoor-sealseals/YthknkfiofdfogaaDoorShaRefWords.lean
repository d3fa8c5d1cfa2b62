/- The reference's rotated and compressed: what they answer. -/
import Derived.Test.YthknkfiofdfogaaDoorArr
import Derived.Test.YthknkfiofdfogaaDoorShaNext
import Derived.IntWalk
import Derived.Deep.Cut
import Derived.BigRegion
namespace Go.Proofs.YthknkfiofdfogaaDoor
open Go.RowKit

set_option maxHeartbeats 400000 in
theorem ref_rotated (x : BitVec 32) (n : Int) (w : World) (h0 : 0 < n) (h1 : n < 32) :
    Calls Tryd.prog 59 #[U x, .int .i64 n] w fun e w' => e = .returned (U (Sh.rotr x n.toNat)) ∧ w' = w := by
  obtain ⟨k, rfl⟩ : ∃ k : Nat, n = (k : Int) := ⟨n.toNat, by omega⟩
  rw [Int.toNat_natCast]
  go_enter Tryd.func59, Tryd.ntmps59
  go_wp2_with (go_at_call 65; refine (bits_Rotate _ _ (by omega) (by omega) _).mono ?_; rintro e w' ⟨rfl, rfl⟩)
  go_ret
  exact ⟨rfl, rfl⟩
theorem ch_alt (e f g : BitVec 32) : g ^^^ (e &&& (f ^^^ g)) = Sh.ch e f g := by
  unfold Sh.ch
  ext i hi
  simp only [BitVec.getElem_xor, BitVec.getElem_and, BitVec.getElem_not]
  cases e[i] <;> cases f[i] <;> cases g[i] <;> rfl
theorem maj_alt (a b c : BitVec 32) : (a &&& b) ||| (c &&& (a ||| b)) = Sh.maj a b c := by
  unfold Sh.maj
  ext i hi
  simp only [BitVec.getElem_xor, BitVec.getElem_and, BitVec.getElem_or]
  cases a[i] <;> cases b[i] <;> cases c[i] <;> rfl
theorem next_alt (x a y b : BitVec 32) : x + a + y + b = x + y + a + b := by
  rw [BitVec.add_assoc x a y, BitVec.add_comm a y, ← BitVec.add_assoc]
theorem info_u32 : ∃ i, Tryd.prog.info? 69 = some i ∧ i.zero = some (.int .u32 0) ∧ i.size = 1 ∧ i.bytes = 4 := info_parts (by kernel_rfl)
/-- append at []uint32 of this program. -/
theorem wpL_append32 (w : World) {ops : Array Oper} {rest : List Oper} {o : Oper} {a : Act} {Q : Exit → Act → World → Prop} (hgd : o.guard = none) (s x : Operand)
    (ho : o.op = .call { callee := .builtin .append, args := #[s, x], argTypes := #[70, 70] }) (base : Nat)
    (av : Option Addr) (n c : Nat) (xs : List Value) (hs : a.eval s = .slice av n c) (hown : w.ownsRow base 69 1 (.slice av n c) n xs)
    (ao : Option Addr) (m cx : Nat) (news : List Value) (hx : a.eval x = .slice ao m cx) (hl : news.length = m) (hnil : ao = none → m = 0 ∧ cx = 0) (hnews : ∀ ad, ao = some ad → ∀ j u, news[j]? = some u → w.cell? (ad.add j) = some u)
    (h1 : ∀ u ∈ news, u.oneCell' = true) (hmax : n + m ≤ 1000000) (hbase : base ≤ w.heap.size)
    (h : ∀ a' c' w', w'.ownsRow base 69 1 (.slice a' (n + m) c') (n + m) (xs ++ news) → w.grownBy w' (Value.slice av n c).ownBlock → wpList Tryd.prog ops Q rest (a.put o.dst (.slice a' (n + m) c')) w') : wpList Tryd.prog ops Q (o :: rest) a w := by
  obtain ⟨i, hi, hz0, hz1, hz2⟩ := info_u32
  exact wpList_append_any w hgd s x 70 ho base 69 i (.int .u32 0) 4 Tryd.underlying70 hi hz0 hz1 hz2 rfl av n c xs hs hown ao m cx news hx hl hnil hnews h1 (by unfold maxLen; omega) (by omega) hbase h
/-- Words at the head of a block. -/
def WordsAt (w : World) (g : Nat) (ws : List (BitVec 32)) : Prop := g < w.heap.size ∧ ∀ i, i < ws.length → w.cell? ⟨g, i, none⟩ = some (U (ws.getD i 0))
theorem WordsAt.below {w w' : World} {g : Nat} {ws : List (BitVec 32)} (h : WordsAt w g ws) (hb : Below w.heap.size w w') : WordsAt w' g ws :=
  ⟨Nat.lt_of_lt_of_le h.1 hb.size, fun i hi => (hb.cell (p := ⟨g, i, none⟩) h.1).trans (h.2 i hi)⟩
theorem WordsAt.arr {w : World} {g : Nat} {t : TypeId} {ws : List (BitVec 32)} (h : ArrAt w g t ws) : WordsAt w g ws := ⟨h.lt, fun i hi => h.cell i hi⟩
theorem WordsAt.news {w : World} {g : Nat} {ws : List (BitVec 32)} (h : WordsAt w g ws) : ∀ ad, some (⟨g, 0, none⟩ : Addr) = some ad → ∀ j u, (wcells ws)[j]? = some u → w.cell? (ad.add j) = some u := by
  intro ad ha j u hu
  injection ha with ha
  subst ha
  have hj : j < ws.length := by have := (List.getElem?_eq_some_iff.1 hu).1; rwa [wcells_length] at this
  rw [wcells_getD ws j hj] at hu
  rw [Addr.add_lit, Nat.zero_add, h.2 j hj]
  exact hu
theorem WordsAt.own {w : World} {base e n c g : Nat} {ws : List (BitVec 32)} (h : w.ownsRow base e 1 (.slice (some ⟨g, 0, none⟩) n c) n (wcells ws)) (hl : ws.length = n) : WordsAt w g ws := by
  refine ⟨(h.lt g rfl).2, fun i hi => ?_⟩
  rw [h.cellAt i (by omega), wcells_getD ws i hi]
theorem own_formW {w : World} {base e n c : Nat} {a : Option Addr} {xs : List Value} (h : w.ownsRow base e 1 (.slice a n c) n xs) (hn : 0 < n) : ∃ g, a = some ⟨g, 0, none⟩ ∧ base ≤ g ∧ g < w.heap.size := own_form h hn

theorem news_drew (w : World) (x : Value) (t : TypeId) : ∀ ad, (some (⟨w.heap.size, 0, none⟩ : Addr)) = some ad → ∀ j u, [x][j]? = some u → (w.alloc (.cells #[x] t)).drew.cell? (ad.add j) = some u := by
  intro ad ha j u hu
  injection ha with ha
  subst ha
  exact World.news_of_block (heap_alloc_last w (.cells #[x] t)) j u hu
theorem one_U1 (x : BitVec 32) : ∀ u ∈ [U x], u.oneCell' = true := by
  intro u hu; simp at hu; subst hu; rfl
/-- Where compressed is in its first loop. -/
def CompAt (w : World) (bl : List (BitVec 32)) (j : Nat) (v : Value) (wr : World) : Prop :=
  ∃ g n c, v = .slice (some ⟨g, 0, none⟩) n c ∧ n = 16 + j ∧ wr.ownsRow w.heap.size 69 1 (.slice (some ⟨g, 0, none⟩) n c) n (wcells (Sh.ext bl j)) ∧ Below w.heap.size w wr
def RefPost (out : List (BitVec 32)) (w : World) (e : Ending) (w' : World) : Prop :=
  ∃ g, e = .returned (.slice (some ⟨g, 0, none⟩) 8 8) ∧ w.heap.size ≤ g ∧ ArrAt w' g 69 out ∧ Below w.heap.size w w'

/-- Where compressed is in its second loop. -/
def RndAt (w : World) (hs bl : List (BitVec 32)) (g k : Nat) (va vb vc vd ve vf vg vh : Value) (wr : World) : Prop :=
  ∃ a b c d e f g' h, Sh.runTo hs Sh.K0 (Sh.ext bl 48) k = [a, b, c, d, e, f, g', h] ∧ va = U a ∧ vb = U b ∧ vc = U c ∧ vd = U d ∧ ve = U e ∧ vf = U f ∧ vg = U g' ∧ vh = U h ∧ Below w.heap.size w wr ∧ WordsAt wr g (Sh.ext bl 48)

set_option maxRecDepth 100000 in
set_option maxHeartbeats 1000000 in
theorem ref_compressed (gh gw gk ch cw ck : Nat) (hs bl : List (BitVec 32)) (w : World) (h8 : hs.length = 8) (h16 : bl.length = 16) (hH : WordsAt w gh hs) (hW : WordsAt w gw bl) (hK : WordsAt w gk Sh.K0) :
    Calls Tryd.prog 49 #[.slice (some ⟨gh, 0, none⟩) 8 ch, .slice (some ⟨gw, 0, none⟩) 16 cw, .slice (some ⟨gk, 0, none⟩) 64 ck] w (RefPost (Sh.compress hs bl) w) := by
  have H8 := Lib.hid h8
  have H16 := Lib.hid h16
  clear h8 h16
  obtain ⟨i0, hi, hz0, hz1, hz2⟩ := info_u32
  have Hi := Lib.hid (And.intro hi (And.intro hz0 (And.intro hz1 hz2)))
  clear hi hz0 hz1 hz2
  go_enter Tryd.func49, Tryd.ntmps49
  go_wp2_with (at_builtin; refine wpL_append32 _ rfl _ _ rfl w.heap.size _ 0 _ [] rfl ?c0 _ 16 _ (wcells bl) rfl ?c1 ?c2 ?c3 (wcells_one _) ?c4 ?c6 ?_)
  case c0 => exact own_block (heap_alloc_last w _) (Nat.le_refl _) rfl (by decide)
  case c1 => rw [wcells_length]; exact H16.out
  case c2 => intro h; cases h
  case c3 => exact (hW.below ((Below.refl _ _).alloc (Nat.le_refl _) _)).news
  case c4 => decide
  case c6 => simp
  intro a1 c1 w1 ho1 hg1
  have hb1 : Below w.heap.size w w1 := below_own ((Below.refl _ _).alloc (Nat.le_refl _) _) (own_block (heap_alloc_last w _) (Nat.le_refl w.heap.size) rfl (by decide)) hg1 (Nat.le_refl _) (by simp)
  have ho1' : w1.ownsRow w.heap.size 69 1 (.slice a1 16 c1) 16 (wcells bl) := by simpa using ho1
  obtain ⟨g1, rfl, hg1b, hg1h⟩ := own_form ho1' (by decide)
  have hI : CompAt w bl 0 (.slice (some ⟨g1, 0, none⟩) 16 c1) w1 := ⟨g1, 16, c1, rfl, rfl, ho1', hb1⟩
  clear ho1 ho1' hg1 hb1 hW
  go_wp2
  go_loopw [7] (fun v wr => ∃ j : Nat, j ≤ 48 ∧ CompAt w bl j v wr) (fun v _ => 64 - lenV v)
  case atStart => exact ⟨0, Nat.zero_le _, hI⟩
  case round =>
    clear hI
    obtain ⟨j, hj, g, n, c, rfl, hn, ho, hb⟩ := hrel
    have Hn := Lib.hid hn
    have hlen : (Sh.ext bl j).length = n := by rw [Sh.ext_length, H16.out]; omega
    have hWA := WordsAt.own ho hlen
    by_cases hlt : n < 64
    · have y : ∀ i, i < n → wr.cell? ⟨g, i, none⟩ = some (U ((Sh.ext bl j).getD i 0)) := fun i hi => hWA.2 i (by omega)
      have Hnx := Lib.hid (show Sh.nextW (Sh.ext bl j) = (Sh.ext bl j).getD (n - 16) 0 + (Sh.ext bl j).getD (n - 7) 0 + Sh.s0 ((Sh.ext bl j).getD (n - 15) 0) + Sh.s1 ((Sh.ext bl j).getD (n - 2) 0) by unfold Sh.nextW; rw [hlen])
      obtain ⟨j16, hj16⟩ : ∃ i, i = n - 16 := ⟨_, rfl⟩
      obtain ⟨j15, hj15⟩ : ∃ i, i = n - 15 := ⟨_, rfl⟩
      obtain ⟨j7, hj7⟩ : ∃ i, i = n - 7 := ⟨_, rfl⟩
      obtain ⟨j2, hj2⟩ : ∃ i, i = n - 2 := ⟨_, rfl⟩
      rw [← hj16, ← hj15, ← hj7, ← hj2] at Hnx
      have d16 := y j16 (by omega)
      have d15 := y j15 (by omega)
      have d7 := y j7 (by omega)
      have d2 := y j2 (by omega)
      have y16 : IntKind.i64.wrap ((n : Int) - 16) = (j16 : Int) := (IntWalk.i64_in _ (by omega)).trans (by omega)
      have y15 : IntKind.i64.wrap ((n : Int) - 15) = (j15 : Int) := (IntWalk.i64_in _ (by omega)).trans (by omega)
      have y7 : IntKind.i64.wrap ((n : Int) - 7) = (j7 : Int) := (IntWalk.i64_in _ (by omega)).trans (by omega)
      have y2 : IntKind.i64.wrap ((n : Int) - 2) = (j2 : Int) := (IntWalk.i64_in _ (by omega)).trans (by omega)
      have b16 : (j16 : Int) < (n : Int) := by omega
      have b15 : (j15 : Int) < (n : Int) := by omega
      have b7 : (j7 : Int) < (n : Int) := by omega
      have b2 : (j2 : Int) < (n : Int) := by omega
      have Hext := Lib.hid (show wcells (Sh.ext bl j) ++ [U (Sh.nextW (Sh.ext bl j))] = wcells (Sh.ext bl (j + 1)) by show _ = wcells (Sh.ext bl j ++ [Sh.nextW (Sh.ext bl j)]); rw [wcells_append]; rfl)
      clear hn hlen y hj16 hj15 hj7 hj2
      generalize (Sh.ext bl j).getD j16 0 = X16 at *
      generalize (Sh.ext bl j).getD j15 0 = X15 at *
      generalize (Sh.ext bl j).getD j7 0 = X7 at *
      generalize (Sh.ext bl j).getD j2 0 = X2 at *
      go_wp2_with fail
      go_quiet ((go_at_call 59; exact Calls.quiet_of_same (ref_rotated _ _ _ (by omega) (by omega))))
      obtain ⟨W2, hW2⟩ : ∃ W2, W2 = wr.drewN nq := ⟨_, rfl⟩
      have hb2 : Below w.heap.size w W2 := by rw [hW2]; exact below_drewN hb nq
      have ho2 : W2.ownsRow w.heap.size 69 1 (.slice (some ⟨g, 0, none⟩) n c) n (wcells (Sh.ext bl j)) := by rw [hW2]; exact ho
      rw [← World.cell?_drewN wr nq, ← hW2] at d16 d7 d2
      rw [← hW2]
      clear hW2 hb ho d15 hWA
      go_wp2_with fail
      go_quiet ((go_at_call 59; exact Calls.quiet_of_same (ref_rotated _ _ _ (by omega) (by omega))))
      obtain ⟨W3, hW3⟩ : ∃ W3, W3 = W2.drewN nq := ⟨_, rfl⟩
      have hb3 : Below w.heap.size w W3 := by rw [hW3]; exact below_drewN hb2 nq
      have ho3 : W3.ownsRow w.heap.size 69 1 (.slice (some ⟨g, 0, none⟩) n c) n (wcells (Sh.ext bl j)) := by rw [hW3]; exact ho2
      rw [← World.cell?_drewN W2 nq, ← hW3] at d16 d7
      rw [← hW3]
      clear hW3 hb2 ho2 d2
      go_wp2_with fail
      go_region_law (refine step_append_any _ rfl (.tmp 70) (.tmp 86) 70 rfl w.heap.size 69 i0 (.int .u32 0) 4 Tryd.underlying70 Hi.out.1 Hi.out.2.1 Hi.out.2.2.1 Hi.out.2.2.2 rfl (some ⟨g, 0, none⟩) n c _ (by simp [Act.eval]) (by exact (ho3.alloc _).drew) (some ⟨W3.heap.size, 0, none⟩) 1 1 [_] (by simp [Act.eval]) rfl (by intro h; cases h) (news_drew _ _ _) (one_U1 _) (by unfold maxLen; omega) (by omega) (by have := hb3.size; simp; omega) ?_; intro a4 c4 w4 ho4 hg4)
      all_goals
        have hz3 := hb3.size
        have hb4 : Below w.heap.size w w4 := below_own ((hb3.alloc hz3 _).drew) ((ho3.alloc _).drew) hg4 (Nat.le_refl _) (by simp; omega)
        have e4 : X16 + (Sh.rotr X15 7 ^^^ Sh.rotr X15 18 ^^^ X15 >>> 3) + X7 + (Sh.rotr X2 17 ^^^ Sh.rotr X2 19 ^^^ X2 >>> 10) = Sh.nextW (Sh.ext bl j) := by rw [next_alt, Hnx.out]; rfl
        rw [e4, Hext.out] at ho4
        obtain ⟨g4, rfl, hg4b, hg4h⟩ := own_form ho4 (by omega)
        have hI : CompAt w bl (j + 1) (.slice (some ⟨g4, 0, none⟩) (n + 1) c4) w4 := ⟨g4, n + 1, c4, rfl, by have := Hn.out; omega, ho4, hb4⟩
        clear e4 hg4 ho4 ho3 hb3 hz3 hb4 d16 d7 y16 y15 y7 y2 Hnx Hext
        go_simp
        go_wp2
        go_roundw
        case rel => exact ⟨j + 1, by have := Hn.out; omega, hI⟩
        case measure => simp only [lenV]; omega
    · have hj48 : j = 48 := by omega
      subst hj48
      obtain rfl : n = 64 := Hn.out
      have Ho := Lib.hid ho
      have hWL := Lib.hid hlen
      clear hlen ho
      have hS : WordsAt wr g (Sh.ext bl 48) := hWA
      obtain ⟨ya, yb, yc, yd, ye, yf, yg, yh, hy⟩ := eight H8.out
      have HH := Lib.hid (show ∀ W, Below w.heap.size w W → W.cell? ⟨gh, 0, none⟩ = some (U ya) ∧ W.cell? ⟨gh, 1, none⟩ = some (U yb) ∧ W.cell? ⟨gh, 2, none⟩ = some (U yc) ∧ W.cell? ⟨gh, 3, none⟩ = some (U yd) ∧ W.cell? ⟨gh, 4, none⟩ = some (U ye) ∧ W.cell? ⟨gh, 5, none⟩ = some (U yf) ∧ W.cell? ⟨gh, 6, none⟩ = some (U yg) ∧ W.cell? ⟨gh, 7, none⟩ = some (U yh) by
        intro W hBW
        have hc := (hH.below hBW).2
        rw [hy] at hc
        exact ⟨hc 0 (by simp), hc 1 (by simp), hc 2 (by simp), hc 3 (by simp), hc 4 (by simp), hc 5 (by simp), hc 6 (by simp), hc 7 (by simp)⟩)
      have Hy := Lib.hid hy
      obtain ⟨h0, h1, h2, h3, h4, h5, h6, h7⟩ := HH.out wr hb
      have hI : ∀ m, RndAt w hs bl g 0 (U ya) (U yb) (U yc) (U yd) (U ye) (U yf) (U yg) (U yh) (wr.drewN m) := fun m => ⟨ya, yb, yc, yd, ye, yf, yg, yh, hy, rfl, rfl, rfl, rfl, rfl, rfl, rfl, rfl, below_drewN hb m, hS.1, hS.2⟩
      have HI := Lib.hid hI
      clear hI hy hS hWA hb hWL Ho
      go_upto_region 7 with (fail)
      go_quiet (fail)
      clear h0 h1 h2 h3 h4 h5 h6 h7
      go_wp2
      go_loopw [11, 12, 13, 14, 15, 16, 17, 18, 19] (fun va vb vc vd ve vf vg vh i wr => ∃ k : Nat, k ≤ 64 ∧ i = .int .i64 k ∧ RndAt w hs bl g k va vb vc vd ve vf vg vh wr) (fun _ _ _ _ _ _ _ _ i _ => 64 - (intOf i).toNat)
      case atStart => exact ⟨0, Nat.zero_le _, rfl, HI.out _⟩
      case round =>
        clear HI
        obtain ⟨k, hk, rfl, xa, xb, xc, xd, xe, xf, xg, xh, hx, rfl, rfl, rfl, rfl, rfl, rfl, rfl, rfl, hb, hS⟩ := hrel
        by_cases hlt : k < 64
        · have cw1 := hS.2 k (by rw [Sh.ext_length, H16.out]; exact hlt)
          have ck1 := (hK.below hb).2 k hlt
          have Hn := Lib.hid (show Sh.runTo hs Sh.K0 (Sh.ext bl 48) (k + 1) = Sh.rnd [xa, xb, xc, xd, xe, xf, xg, xh] (Sh.K0.getD k 0 + (Sh.ext bl 48).getD k 0) by rw [← hx]; rfl)
          have bk : (k : Int) < 64 := by omega
          clear hx
          generalize (Sh.ext bl 48).getD k 0 = XW at *
          generalize Sh.K0.getD k 0 = XK at *
          go_wp2_with fail
          go_quiet ((go_at_call 59; exact Calls.quiet_of_same (ref_rotated _ _ _ (by omega) (by omega))))
          obtain ⟨X, hX⟩ : ∃ X, X = xh + (Sh.rotr xe 6 ^^^ Sh.rotr xe 11 ^^^ Sh.rotr xe 25) + (xg ^^^ xe &&& (xf ^^^ xg)) + XK + XW := ⟨_, rfl⟩
          have Hnx := Lib.hid (show Sh.runTo hs Sh.K0 (Sh.ext bl 48) (k + 1) = [X + ((Sh.rotr xa 2 ^^^ Sh.rotr xa 13 ^^^ Sh.rotr xa 22) + (xa &&& xb ||| xc &&& (xa ||| xb))), xa, xb, xc, xd + X, xe, xf, xg] by
            have e : X = xh + Sh.e1 xe + Sh.ch xe xf xg + (XK + XW) := by rw [hX, ch_alt, BitVec.add_assoc _ XK XW]; rfl
            rw [Hn.out, e, maj_alt]
            rfl)
          rw [← hX]
          have hI : RndAt w hs bl g (k + 1) (U (X + ((Sh.rotr xa 2 ^^^ Sh.rotr xa 13 ^^^ Sh.rotr xa 22) + (xa &&& xb ||| xc &&& (xa ||| xb))))) (U xa) (U xb) (U xc) (U (xd + X)) (U xe) (U xf) (U xg) (wr.drewN nq) := ⟨_, _, _, _, _, _, _, _, Hnx.out, rfl, rfl, rfl, rfl, rfl, rfl, rfl, rfl, below_drewN hb nq, hS.1, hS.2⟩
          obtain ⟨W2, hW2⟩ : ∃ W2, W2 = wr.drewN nq := ⟨_, rfl⟩
          rw [← hW2] at hI
          rw [← hW2]
          clear hX hW2 hb hS cw1 ck1 Hn Hnx
          go_wp2_with (go_at_call 59; (with_reducible refine (ref_rotated _ _ _ (by omega) (by omega)).mono ?_); rintro x w' ⟨rfl, rfl⟩)
          go_roundw
          case rel => exact ⟨k + 1, by omega, by go_num, hI⟩
          case measure => simp [intOf]; omega
        · have hk64 : k = 64 := by omega
          subst hk64
          rw [show ((64 : Nat) : Int) = (64 : Int) from rfl]
          obtain ⟨h0, h1, h2, h3, h4, h5, h6, h7⟩ := HH.out wr hb
          have Hfin := Lib.hid (show Sh.compress hs bl = [ya + xa, yb + xb, yc + xc, yd + xd, ye + xe, yf + xf, yg + xg, yh + xh] by
            unfold Sh.compress
            rw [hx, Hy.out]
            simp only [List.zipWith_cons_cons, List.zipWith_nil_left, BitVec.add_comm])
          have q : ∀ ad : Addr, ({ heap := wr.heap, tape := wr.tape, drawn := wr.drawn + 1, os := wr.os, output := wr.output } : World).cell? ad = wr.cell? ad := fun _ => rfl
          clear hx hS
          go_upto_region 14 with (fail)
          go_still_tail 40, (by kernel_rfl)
          change wpList _ _ _ _ _ wr.drew
          clear h0 h1 h2 h3 h4 h5 h6 h7 q
          have hbd := hb.drew
          generalize wr.drew = W5 at *
          go_wp2
          go_ret
          rw [Hfin.out]
          exact ⟨W5.heap.size, rfl, hbd.size, ArrAt.new W5 69 _ _ rfl, hbd.alloc hbd.size _⟩
end Go.Proofs.YthknkfiofdfogaaDoor
