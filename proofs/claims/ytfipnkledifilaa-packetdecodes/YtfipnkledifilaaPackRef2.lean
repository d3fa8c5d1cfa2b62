/- The contract of the reference's PacketOf. -/
import Derived.Test.YtfipnkledifilaaPackRef1
import Derived.Test.YtfipnkledifilaaPackCode5
import Derived.BigRegion
namespace Go.Proofs.Ytfipnkledifilaa
open Go.RowKit

/-- The first k bytes from place i on, as a number. -/
def Pk.pre (l : List UInt8) (i : Nat) : Nat → Nat
  | 0 => 0
  | k + 1 => Pk.pre l i k * 256 + (l.getD (i + k) 0).toNat
theorem Pk.pre_four (l : List UInt8) (i : Nat) : Pk.pre l i 4 = Pk.a4 l i := by
  simp [Pk.pre, Pk.a4]
theorem Pk.pre_lt (l : List UInt8) (i : Nat) : ∀ k, Pk.pre l i k < 256 ^ k
  | 0 => by simp [Pk.pre]
  | k + 1 => by
    have h := Pk.pre_lt l i k
    have hb := (l.getD (i + k) 0).toNat_lt
    unfold Pk.pre
    rw [Nat.pow_succ]
    omega
theorem Pk.pre_small (l : List UInt8) (i k : Nat) (h : k < 4) : Pk.pre l i k < 16777216 := by
  have h1 := Pk.pre_lt l i k
  have : 256 ^ k ≤ 256 ^ 3 := Nat.pow_le_pow_right (by decide) (by omega)
  omega
/-- The packet that grows: its block, and its data beside it. -/
def Grows (w1 : World) (g m : Nat) (a : Option Addr) (c : Nat) (bs : List UInt8) (S D : Nat) (W : World) : Prop :=
  W.ownsRow w1.heap.size 57 1 (.slice (some ⟨g, 0, none⟩) 3 3) 3 [.int .u32 (S : Int), .int .u32 (D : Int), .slice a m c] ∧
  W.ownsRow w1.heap.size 5 1 (.slice a m c) m (bcells bs) ∧ (∀ k, (Value.slice a m c).ownBlock = some k → k ≠ g) ∧ Below w1.heap.size w1 W
theorem Grows.drew {w1 W : World} {g m c S D : Nat} {a : Option Addr} {bs : List UInt8} (h : Grows w1 g m a c bs S D W) : Grows w1 g m a c bs S D W.drew :=
  ⟨h.1.drew, h.2.1.drew, h.2.2.1, h.2.2.2.drew⟩
theorem Grows.set0 {w1 W : World} {g m c S D : Nat} {a : Option Addr} {bs : List UInt8} (h : Grows w1 g m a c bs S D W) (Z : Nat) : Grows w1 g m a c bs Z D (W.setCell ⟨g, 0, none⟩ (.int .u32 (Z : Int))) := by
  have s := h.1.stored 0 (.int .u32 (Z : Int))
  refine ⟨s.1, h.2.1.kept s.2 ?_, h.2.2.1, h.2.2.2.setCell (h.1.lt g rfl).1 _⟩
  cases hb : (Value.slice a m c).ownBlock with
  | none => exact .inl rfl
  | some k => exact .inr (fun e => by injection e with e; exact h.2.2.1 k hb e)
theorem Grows.set1 {w1 W : World} {g m c S D : Nat} {a : Option Addr} {bs : List UInt8} (h : Grows w1 g m a c bs S D W) (Z : Nat) : Grows w1 g m a c bs S Z (W.setCell ⟨g, 1, none⟩ (.int .u32 (Z : Int))) := by
  have s := h.1.stored 1 (.int .u32 (Z : Int))
  refine ⟨s.1, h.2.1.kept s.2 ?_, h.2.2.1, h.2.2.2.setCell (h.1.lt g rfl).1 _⟩
  cases hb : (Value.slice a m c).ownBlock with
  | none => exact .inl rfl
  | some k => exact .inr (fun e => by injection e with e; exact h.2.2.1 k hb e)

set_option maxRecDepth 100000 in
set_option maxHeartbeats 8000000 in
theorem ref_PacketOf (a : Option Addr) (n c : Nat) (bs : List UInt8) (w : World) (h : BytesAt w w.heap.size a n bs) (hc : n ≤ c) :
    Calls Try.prog 33 #[.slice a n c] w (PackPost (Pk.decErr bs) (Pk.src bs) (Pk.dst bs) (Pk.data bs) w) := by
  have hl := h.1
  have hA : Below w.heap.size w (w.alloc (.cells #[.int .u32 0, .int .u32 0, .slice none 0 0] 57)) := (Below.refl _ _).alloc (Nat.le_refl _) _
  have hP := heap_alloc_last w (.cells #[.int .u32 0, .int .u32 0, .slice none 0 0] 57)
  have R0 := Lib.hid (own_pack (base := w.heap.size) hP (Nat.le_refl _))
  rcases Pk.dec_cases bs with ⟨h1, he⟩ | ⟨h1, h2, he⟩ | h4
  · rw [hl] at h1
    have Hx := Lib.hid (Pk.dec_err bs (by rw [he]; decide))
    have He := Lib.hid he
    have HA := Lib.hid hA
    clear he hl h hP hA
    go_enter Try.func33, Try.ntmps33
    go_wp2
    exact bodyPost_ret (pack_ret Try.results33 rfl rfl R0.out) rfl (by rw [He.out, Hx.out.1, Hx.out.2.1, Hx.out.2.2]; exact packPost_none (err := 8) rfl HA.out)
  · rw [hl] at h1 h2
    have Hx := Lib.hid (Pk.dec_err bs (by rw [he]; decide))
    have He := Lib.hid he
    have HA := Lib.hid hA
    clear he hl h hP hA
    go_enter Try.func33, Try.ntmps33
    go_wp2
    exact bodyPost_ret (pack_ret Try.results33 rfl rfl R0.out) rfl (by rw [He.out, Hx.out.1, Hx.out.2.1, Hx.out.2.2]; exact packPost_none (err := 1) rfl HA.out)
  · have hn : 20 ≤ n ∧ n ≤ 220 := by rcases h4 with ⟨x, y, _⟩ | ⟨x, y, _⟩ <;> omega
    obtain ⟨hn1, hn2⟩ := hn
    obtain ⟨b, off, rfl, hbl, _⟩ := h.2 (by omega)
    obtain ⟨w1, hw1⟩ : ∃ w1, w1 = w.alloc (.cells #[.int .u32 0, .int .u32 0, .slice none 0 0] 57) := ⟨_, rfl⟩
    have hz1 : w1.heap.size = w.heap.size + 1 := by rw [hw1]; simp
    rw [← hw1] at hA hP
    obtain ⟨off', hoff⟩ : ∃ off', (if c = 20 then (some ⟨b, off, none⟩ : Option Addr) else some ⟨b, off + 20, none⟩) = some ⟨b, off', none⟩ := by
      by_cases hc20 : c = 20
      · exact ⟨off, if_pos hc20⟩
      · exact ⟨off + 20, if_neg hc20⟩
    have hd : BytesAt w w.heap.size (some ⟨b, off', none⟩) (n - 20) (bs.drop 20) := by
      by_cases hc20 : c = 20
      · refine ⟨by rw [List.length_drop, hl], fun hp => absurd hp (by omega)⟩
      · rw [if_neg hc20] at hoff
        rw [← hoff]
        exact h.part (by omega)
    have Hd1 := Lib.hid (hd.below hA)
    have HX : Hid (Pk.decErr bs = 0 → Pk.src bs = Pk.a4 bs 12 ∧ Pk.dst bs = Pk.a4 bs 16 ∧ Pk.data bs = bs.drop 20) := Lib.hid (fun h0 => ⟨by unfold Pk.src; rw [if_pos h0], by unfold Pk.dst; rw [if_pos h0], by unfold Pk.data; rw [if_pos h0]⟩)
    have Hb := Lib.hid h
    have HA := Lib.hid hA
    have HP := Lib.hid hP
    have HW := Lib.hid hw1
    have Hl := Lib.hid hl
    have H4 := Lib.hid h4
    have hz2 : w.heap.size < w1.heap.size := by omega
    have i20 : (20 : Int) ≤ (n : Int) := by omega
    have inc : (n : Int) ≤ (c : Int) := by omega
    clear h hA hP hw1 hz1 hl h4 hd
    go_enter Try.func33, Try.ntmps33
    go_upto_region 5 with fail
    rw [← HW.out]
    go_wp2_with (at_builtin; refine wpL_append8 _ rfl _ _ rfl w1.heap.size _ 0 _ [] rfl (World.ownsRow_nil _ _ _ _) _ (n - 20) _ (bcells (bs.drop 20)) rfl (by rw [bcells_length, List.length_drop, Hl.out]) (by intro h; cases h) Hd1.out.news (bcells_one _) (by omega) (Nat.le_refl _) ?_)
    intro a3 c3 w3 ho3 hg3
    have hb3 : Below w1.heap.size w1 w3 := (Below.refl _ _).grown hg3 (Nat.le_refl _) (fun k h => by cases h)
    have HG0 : Hid (Grows w1 w3.heap.size (n - 20) a3 c3 (bs.drop 20) (Pk.pre bs 12 0) (Pk.pre bs 16 0) (w3.alloc (.cells #[.int .u32 0, .int .u32 0, .slice a3 (n - 20) c3] 57))) :=
      Lib.hid ⟨own_pack (heap_alloc_last w3 _) hb3.size, ho3.alloc _, fun k hk => by have := (ho3.lt k hk).2; omega, hb3.alloc hb3.size _⟩
    obtain ⟨g, hg⟩ : ∃ g, g = w3.heap.size := ⟨_, rfl⟩
    rw [← hg] at HG0
    have Hg := Lib.hid hg
    clear ho3 hg3 hb3 hg
    go_wp2
    rw [← Hg.out]
    go_loopw [5] (fun vi wr => ∃ k : Nat, k ≤ 4 ∧ vi = .int .i64 (k : Int) ∧ Hid (Grows w1 g (n - 20) a3 c3 (bs.drop 20) (Pk.pre bs 12 k) (Pk.pre bs 16 k) wr)) (fun vi _ => 4 - (intOf vi).toNat)
    case atStart => exact ⟨0, by omega, rfl, HG0⟩
    case round =>
      clear HG0
      obtain ⟨k, hk, rfl, HG⟩ := hrel
      by_cases hlt : k < 4
      · obtain ⟨r0, r1, r2⟩ := pack_row_cells HG.out.1
        have f0 := HG.out.1.frozenAt 0
        have f1 := HG.out.1.frozenAt 1
        have hby := Hb.out.below (HA.out.trans (HG.out.2.2.2.mono (by omega)))
        obtain ⟨b', o', e', x0⟩ := bytes_lt hby (k := 12 + k) (by omega)
        cases e'
        obtain ⟨b', o', e', y0⟩ := bytes_lt hby (k := 16 + k) (by omega)
        cases e'
        have lx := (bs.getD (12 + k) 0).toNat_lt
        have ly := (bs.getD (16 + k) 0).toNat_lt
        have sx := Pk.pre_small bs 12 k hlt
        have sy := Pk.pre_small bs 16 k hlt
        have HZ := Lib.hid (show Pk.pre bs 12 (k + 1) = Pk.pre bs 12 k * 256 + (bs.getD (12 + k) 0).toNat from rfl)
        have HU := Lib.hid (show Pk.pre bs 16 (k + 1) = Pk.pre bs 16 k * 256 + (bs.getD (16 + k) 0).toNat from rfl)
        clear hby
        obtain ⟨j, hj⟩ : ∃ j, j = 12 + k := ⟨_, rfl⟩
        obtain ⟨l, hl⟩ : ∃ l, l = 16 + k := ⟨_, rfl⟩
        rw [← hj] at x0 lx HZ
        rw [← hl] at y0 ly HU
        have wj : IntKind.i64.wrap ((12 : Int) + (k : Int)) = (j : Int) := by rw [hj]; have := IntWalk.i64_in ((12 + k : Nat) : Int) (by omega); simpa using this
        have wl : IntKind.i64.wrap ((16 : Int) + (k : Int)) = (l : Int) := by rw [hl]; have := IntWalk.i64_in ((16 + k : Nat) : Int) (by omega); simpa using this
        have lj : (j : Int) < (n : Int) := by omega
        have ll : (l : Int) < (n : Int) := by omega
        have lj' : j < n := by omega
        have ll' : l < n := by omega
        generalize (bs.getD j 0).toNat = x at *
        obtain ⟨y, hy⟩ : ∃ y, y = (bs.getD l 0).toNat := ⟨_, rfl⟩
        rw [← hy] at y0 ly HU
        have Hy := Lib.hid hy.symm
        clear hy
        generalize Pk.pre bs 12 k = X at *
        generalize Pk.pre bs 16 k = Y at *
        have mX : IntKind.u32.wrap ((X : Int) * 256) = ((X * 256 : Nat) : Int) := by rw [IntKind.wrap_u32]; omega
        have mY : IntKind.u32.wrap ((Y : Int) * 256) = ((Y * 256 : Nat) : Int) := by rw [IntKind.wrap_u32]; omega
        have aX : IntKind.u32.wrap (((X * 256 : Nat) : Int) + (x : Int)) = ((X * 256 + x : Nat) : Int) := by rw [IntKind.wrap_u32]; omega
        have aY : IntKind.u32.wrap (((Y * 256 : Nat) : Int) + (y : Int)) = ((Y * 256 + y : Nat) : Int) := by rw [IntKind.wrap_u32]; omega
        have cx : IntKind.u32.wrap (x : Int) = (x : Int) := by rw [IntKind.wrap_u32]; omega
        have cy : IntKind.u32.wrap (y : Int) = (y : Int) := by rw [IntKind.wrap_u32]; omega
        have HS0 := Lib.hid ((HG.out.set0 (X * 256 + x)).drew)
        rw [← HZ.out] at aX HS0
        rw [← HU.out] at aY
        obtain ⟨Z, hZ⟩ : ∃ Z, Z = Pk.pre bs 12 (k + 1) := ⟨_, rfl⟩
        obtain ⟨U, hU⟩ : ∃ U, U = Pk.pre bs 16 (k + 1) := ⟨_, rfl⟩
        rw [← hZ] at aX HS0
        rw [← hU] at aY
        have HZ' := Lib.hid hZ
        have HU' := Lib.hid hU
        clear hZ hU HU
        generalize X * 256 = P at *
        generalize Y * 256 = Q at *
        clear hj hl HZ
        go_upto_region 9 with fail
        go_region
        go_upto_region 10 with fail
        generalize (wr.setCell ⟨g, 0, none⟩ (.int .u32 (Z : Int))).drew = W1 at *
        clear r0 r1 r2 f0 f1 HG x0 y0
        obtain ⟨r0, r1, r2⟩ := pack_row_cells HS0.out.1
        have f1 := HS0.out.1.frozenAt 1
        have hby := Hb.out.below (HA.out.trans (HS0.out.2.2.2.mono (by omega)))
        obtain ⟨b', o', e', y0⟩ := bytes_lt hby (k := l) (by omega)
        cases e'
        rw [Hy.out] at y0
        have HS1 := Lib.hid ((HS0.out.set1 U).drew)
        clear hby
        go_region
        go_wp2_with fail
        go_roundw
        case rel => exact ⟨k + 1, by omega, by go_num, by rw [← HZ'.out, ← HU'.out]; exact HS1⟩
        case measure => simp [intOf]; omega
      · obtain rfl : k = 4 := by omega
        rw [show ((4 : Nat) : Int) = (4 : Int) from rfl]
        have l1 := Pk.a4_lt bs 12
        have l2 := Pk.a4_lt bs 16
        have hG := HG.out
        rw [Pk.pre_four, Pk.pre_four] at hG
        generalize Pk.a4 bs 12 = S at *
        generalize Pk.a4 bs 16 = D at *
        obtain ⟨d0, d1, d2⟩ := pack_row_cells hG.1
        have hby := BytesAt.own (show wr.ownsRow w1.heap.size 5 1 (.slice a3 (n - 20) c3) (bs.drop 20).length (bcells (bs.drop 20)) by rw [List.length_drop, Hl.out]; exact hG.2.1)
        have HE : Hid (Calls Try.prog 30 #[packV S D a3 (n - 20) c3] wr (ReadPost 0 (Pk.enc S D (bs.drop 20)) wr)) := Lib.hid (by
          have := ref_PacketBytes S D (n - 20) c3 a3 (bs.drop 20) wr l1 l2 hby
          have e1 : Pk.encErr (n - 20) = 0 := by unfold Pk.encErr; rw [if_neg (by omega)]
          have e2 : Pk.encOut S D (bs.drop 20) = Pk.enc S D (bs.drop 20) := by unfold Pk.encOut; rw [if_neg (by rw [List.length_drop, Hl.out]; omega)]
          rw [e1, e2] at this
          exact this)
        unfold packV at HE
        have HGG := Lib.hid hG
        clear hby HG hG
        go_wp2_with fail
        refine HE.out.mono ?_
        rintro e w5 ⟨a5, n5, c5, rfl, hb5', hn5, hb5⟩
        have hB5 := HGG.out.2.2.2.trans (hb5.mono HGG.out.2.2.2.size)
        have hbs5 := Hb.out.below (HA.out.trans (hB5.mono (by omega)))
        have Hres := Lib.hid (own_pack (base := w.heap.size) ((hB5.block w.heap.size hz2).trans HP.out) (Nat.le_refl _))
        obtain ⟨r0, r1, r2⟩ := pack_row_cells Hres.out
        have f0 := Hres.out.frozenAt 0
        have f1 := Hres.out.frozenAt 1
        have f2 := Hres.out.frozenAt 2
        clear d0 d1 d2
        obtain ⟨d0, d1, d2⟩ := pack_row_cells (pack_below HGG.out.1 hb5)
        have Ho5 := Lib.hid (own_below HGG.out.2.1 hb5)
        have HB5 := Lib.hid (HA.out.trans (hB5.mono (by omega)))
        have k1 := conv_bytes (P := Try.prog) hb5' 55 5 9 c5 Try.underlying55 Try.underlying5 Try.underlying9
        have k2 := conv_bytes (P := Try.prog) hbs5 55 5 9 c Try.underlying55 Try.underlying5 Try.underlying9
        have hq := strOf_beq (Pk.enc S D (bs.drop 20)) bs
        clear hb5 hB5 hbs5 hb5' hn5
        rcases H4.out with ⟨_, _, h5, h6⟩ | ⟨_, _, h5, h6⟩
        · rw [decide_eq_true h5] at hq
          have H6 := Lib.hid h6
          clear h5 h6
          generalize strOf (Pk.enc S D (bs.drop 20)) = E1 at *
          generalize strOf bs = E2 at *
          have R5 := Lib.hid (pack_set Hres.out (.int .u32 (S : Int)) (.int .u32 (D : Int)) (.slice a3 (n - 20) c3))
          have hbes := bytes_beside Ho5.out Hres.out hz2 (.int .u32 (S : Int)) (.int .u32 (D : Int)) (.slice a3 (n - 20) c3)
          have Hby := Lib.hid (BytesAt.own (show World.ownsRow _ w1.heap.size 5 1 (.slice a3 (n - 20) c3) (bs.drop 20).length (bcells (bs.drop 20)) by rw [List.length_drop, Hl.out]; exact hbes.1))
          have Hx := HX.out H6.out
          have Hxs := Lib.hid Hx
          clear hbes Hx
          go_wp2
          exact bodyPost_ret (pack_ret Try.results33 rfl rfl R5.out) rfl (by rw [H6.out, Hxs.out.1, Hxs.out.2.1, Hxs.out.2.2]; exact ⟨a3, n - 20, c3, rfl, Hby.out, own_none Ho5.out, (own_cap Ho5.out).1, ((HB5.out.setCell (Nat.le_refl _) _).setCell (Nat.le_refl _) _).setCell (Nat.le_refl _) _⟩)
        · rw [decide_eq_false h5] at hq
          have H6 := Lib.hid h6
          clear h5 h6
          generalize strOf (Pk.enc S D (bs.drop 20)) = E1 at *
          generalize strOf bs = E2 at *
          have R5 := Lib.hid (pack_set Hres.out (.int .u32 0) (.int .u32 0) (.slice none 0 0))
          have Hxs := Lib.hid (Pk.dec_err bs (by rw [H6.out]; decide))
          go_wp2
          exact bodyPost_ret (pack_ret Try.results33 rfl rfl R5.out) rfl (by rw [H6.out, Hxs.out.1, Hxs.out.2.1, Hxs.out.2.2]; exact packPost_none (err := 3) rfl (((HB5.out.setCell (Nat.le_refl _) _).setCell (Nat.le_refl _) _).setCell (Nat.le_refl _) _))
end Go.Proofs.Ytfipnkledifilaa
