/- The walks of the laws ShaPads and ShaPadded. -/
import Derived.Test.YtfhddongflecpaaShaPad
import Derived.Test.YtfhddongflecpaaShaPadRef
import Derived.Test.YtfhddongflecpaaSame
import Derived.SizedLaws
import Derived.IntWalk
namespace Go.Proofs.Ytfhddongflecpaa
open Go.RowKit

set_option maxHeartbeats 400000 in
theorem law_ShaPads (a : Option Addr) (n c : Nat) (bs : List UInt8) (w : World) (h : BytesAt w w.heap.size a n bs) (hnc : n ≤ c) (hnil : a = none → n = 0 ∧ c = 0) (hc : c ≤ reachBytes) :
    Calls Try.prog 3 #[.slice a n c] w fun e w' => e = .returned (.bool true) ∧ Below w.heap.size w w' := by
  have hn : n ≤ maxLen := Nat.le_trans hnc (Nat.le_trans hc (by decide))
  have Hn := Lib.hid hnil
  clear hnil hnc hc
  go_enter Try.func3, Try.ntmps3
  go_wp2_with fail
  refine (sha_Pad a n c bs _ h hn).mono ?_
  rintro e w1 ⟨a1, n1, c1, rfl, ho1, hb1⟩
  have z1 := hb1.size
  have h2 := (h.below hb1).up z1
  have o1 := BytesAt.own ho1
  clear h ho1
  go_wp2_with fail
  refine (ref_ShaPad a n c bs _ h2 Hn.out hn).mono ?_
  rintro e w2 ⟨a2, n2, c2, rfl, ho2, hb2⟩
  have z2 := hb2.size
  have o2 := BytesAt.own ho2
  have o1' := o1.below hb2
  clear ho2 h2 o1
  go_wp2_with (go_at_call 7; refine (same_bytes _ _ _ _ _ _ _ _ _ _ o1' o2).mono ?_; rintro e w' ⟨rfl, rfl⟩)
  go_ret
  exact ⟨by simp, hb1.trans (hb2.mono z1)⟩
theorem pad_take (bs : List UInt8) : (Sh.pad bs).take bs.length = bs := by unfold Sh.pad; rw [List.append_assoc, List.take_left]
theorem pad_mark (bs : List UInt8) (h : bs.length < (Sh.pad bs).length) : (Sh.pad bs)[bs.length] = 128 := by
  have : (Sh.pad bs)[bs.length]? = some 128 := by
    unfold Sh.pad; rw [List.append_assoc, List.getElem?_append_right (Nat.le_refl _), Nat.sub_self]; rfl
  exact (List.getElem?_eq_some_iff.1 this).2
theorem pad_tail (bs : List UInt8) (k : Nat) (hk : k < 8) (h : (Sh.pad bs).length - 8 + k < (Sh.pad bs).length) : (Sh.pad bs)[(Sh.pad bs).length - 8 + k] = UInt8.ofNat (8 * bs.length / 256 ^ (7 - k)) := by
  have hl : (bs ++ 128 :: List.replicate (Sh.zeros bs.length) (0 : UInt8)).length = (Sh.pad bs).length - 8 := by rw [Sh.pad_length]; simp; omega
  have e := Sh.be8_get (8 * bs.length) (7 - k) (by omega)
  have hp : Sh.pad bs = (bs ++ 128 :: List.replicate (Sh.zeros bs.length) (0 : UInt8)) ++ Sh.be8 (8 * bs.length) := rfl
  have : (Sh.pad bs)[(Sh.pad bs).length - 8 + k]? = some (UInt8.ofNat (8 * bs.length / 256 ^ (7 - k))) := by
    rw [← e]
    generalize (Sh.pad bs).length - 8 = z at hl
    rw [hp, List.getElem?_append_right (by rw [hl]; omega), hl, show z + k - z = 7 - (7 - k) by omega, List.getElem?_eq_getElem]
  exact (List.getElem?_eq_some_iff.1 this).2
/-- The number that the first k bytes of the length make. -/
theorem tail_step (n k : Nat) (hk : k < 8) : 256 * (8 * n / 256 ^ (8 - k)) + (8 * n / 256 ^ (7 - k)) % 256 = 8 * n / 256 ^ (8 - (k + 1)) := by
  rw [show 8 - (k + 1) = 7 - k by omega, show 8 - k = (7 - k) + 1 by omega, Nat.pow_succ, ← Nat.div_div_eq_div_mul]
  omega

set_option maxHeartbeats 1000000 in
theorem law_ShaPadded (a : Option Addr) (n c : Nat) (bs : List UInt8) (w : World) (h : BytesAt w w.heap.size a n bs) (hnc : n ≤ c) (hc : c ≤ reachBytes) :
    Calls Try.prog 4 #[.slice a n c] w fun e w' => e = .returned (.bool true) ∧ Below w.heap.size w w' := by
  unfold reachBytes at hc
  obtain ⟨m, xs, hx, hm, hle, hsel⟩ : ∃ m xs, BytesAt w w.heap.size a m xs ∧ xs.length = m ∧ m ≤ 900 ∧ ((n ≤ 900 ∧ m = n) ∨ (900 < n ∧ m = 900)) := by
    by_cases h9 : n ≤ 900
    · exact ⟨n, bs, h, h.1, h9, .inl ⟨h9, rfl⟩⟩
    · exact ⟨900, _, h.cut (m := 900) (by omega), (h.cut (m := 900) (by omega)).1, Nat.le_refl _, .inr ⟨by omega, rfl⟩⟩
  have Hm := Lib.hid hm
  have He := Lib.hid (show Sh.padErr xs = 0 ∧ Sh.padOut xs = Sh.pad xs by unfold Sh.padErr Sh.padOut; rw [if_neg (by omega), if_neg (by omega)]; exact ⟨rfl, rfl⟩)
  clear hm h
  have hmc : m ≤ c := by omega
  rcases hsel with ⟨h9, rfl⟩ | ⟨h9, hmn⟩
  rotate_left
  focus
    have Hmn := Lib.hid hmn
    clear hmn
    go_enter Try.func4, Try.ntmps4
    go_wp2_with fail
    rw [← Hmn.out]
  rotate_left
  focus
    go_enter Try.func4, Try.ntmps4
    go_wp2_with fail
  all_goals
    refine (sha_Pad a _ c xs _ hx (by unfold maxLen; omega)).mono ?_
    rintro e w1 ⟨a1, n1, c1, rfl, ho1, hb1⟩
    rw [He.out.1]
    rw [He.out.2] at ho1
    have o1 := BytesAt.own ho1
    have hn1 := o1.1
    have hpl := Sh.pad_length xs
    have hz : Sh.zeros m < 64 := by unfold Sh.zeros; omega
    have hm' := Hm.out
    rw [hm'] at hpl
    have hmod : n1 % 64 = 0 := by rw [← hn1]; exact Sh.pad_blocks xs
    rw [hn1] at ho1
    obtain ⟨g, rfl, hgB, hgH⟩ := own_form ho1 (by omega)
    have hcap : n1 ≤ c1 := by
      rcases ho1.2 with ⟨hv, _⟩ | ⟨g', cap, cur, hv, _, _, hk, _⟩
      · cases hv
      · injection hv with _ _ h3; omega
    have hcap2 : c1 ≤ maxLen := by
      rcases ho1.2 with ⟨hv, _⟩ | ⟨g', cap, cur, hv, _, _, _, hk, _⟩
      · cases hv
      · injection hv with _ _ h3; omega
    unfold maxLen at hcap2
    have x1 : ((n1 : Int).tmod 64 != 0) = false := by rw [bne_eq_false_iff_eq, Int.tmod_eq_emod_of_nonneg (by omega)]; omega
    have x2 : decide ((n1 : Int) < (m : Int) + 9) = false := by simp; omega
    have x3 : decide ((m : Int) + 9 + 64 ≤ (n1 : Int)) = false := by simp; omega
    have k1 := fun nq => conv_bytes (P := Try.prog) ((hx.below hb1).drewN nq) 22 5 9 c Try.underlying22 Try.underlying5 Try.underlying9
    have ocut : BytesAt w1 w1.heap.size (some ⟨g, 0, none⟩) m xs := by
      have := o1.cut (m := m) (by omega)
      rw [← hm', pad_take, hm'] at this
      exact this
    have k2 := fun nq => conv_bytes (P := Try.prog) (ocut.drewN nq) 22 5 9 c1 Try.underlying22 Try.underlying5 Try.underlying9
    have k3 : w1.cell? ⟨g, m, none⟩ = some (.int .u8 128) := by
      have hlt : m < (Sh.pad xs).length := by omega
      have := own_cell ho1 (bcells_get (Sh.pad xs) m hlt)
      subst hm'
      rw [this, pad_mark]
      rfl
    have y1 : IntKind.i64.wrap ((m : Int) + 9) = (m : Int) + 9 := IntWalk.i64_in _ (by omega)
    have y2 : IntKind.i64.wrap ((m : Int) + 9 + 64) = (m : Int) + 9 + 64 := IntWalk.i64_in _ (by omega)
    have x4 : (m : Int) < (n1 : Int) := by omega
    have x5 : (n1 : Int) ≤ (c1 : Int) := by omega
    have x6 : (m : Int) ≤ (c1 : Int) := by omega
    have hn8 : 8 ≤ n1 := by omega
    have Hn1 := Lib.hid hn1
    have Ho := Lib.hid ho1
    have Hpl := Lib.hid hpl
    have Hmod := Lib.hid hmod
    have z1 := hb1.size
    clear hn1 ho1 hpl hmod o1 ocut hm' hx
    go_wp2_with fail
    go_quiet (fail)
    clear k1 k2 k3 x1 x2 x3 y1 y2
    obtain ⟨n8, rfl⟩ : ∃ n8, n1 = n8 + 8 := ⟨n1 - 8, by omega⟩
    have hne : ¬ c1 = n8 := by omega
    go_wp2
    go_loop [5, 67] (fun s i => ∃ k : Nat, k ≤ 8 ∧ i = .int .i64 k ∧ s = .int .i64 ((8 * m / 256 ^ (8 - k) : Nat) : Int)) (fun _ i => 8 - (intOf i).toNat)
    case atStart => refine ⟨0, Nat.zero_le _, rfl, ?_⟩; rw [Nat.div_eq_of_lt (by omega)]; rfl
    case round =>
      obtain ⟨k, hk, rfl, rfl⟩ := hrel
      have hbd : 8 * m / 256 ^ (8 - k) ≤ 8 * m := Nat.div_le_self _ _
      by_cases hlt : k < 8
      · have hcell : w1.cell? ⟨g, n8 + k, none⟩ = some (.int .u8 (((8 * m / 256 ^ (7 - k)) % 256 : Nat) : Int)) := by
          have hn := Hn1.out
          have hpl : n8 + k < (Sh.pad xs).length := by omega
          have e := own_cell Ho.out (bcells_get (Sh.pad xs) (n8 + k) hpl)
          have e2 := pad_tail xs k hlt (by omega)
          have e3 : (Sh.pad xs)[n8 + k] = UInt8.ofNat (8 * xs.length / 256 ^ (7 - k)) := by
            rw [← e2]; congr 1; omega
          rw [e, e3, Hm.out, UInt8.toNat_ofNat']
        have hs := tail_step m k hlt
        have hs2 : (256 : Int) * ((8 * m / 256 ^ (8 - k) : Nat) : Int) + ((8 * m / 256 ^ (7 - k) % 256 : Nat) : Int) = ((8 * m / 256 ^ (8 - (k + 1)) : Nat) : Int) := by omega
        have hlt2 : 8 * m / 256 ^ (7 - k) % 256 < 256 := Nat.mod_lt _ (by decide)
        have Hs := Lib.hid hs2
        clear hs hs2
        generalize 8 * m / 256 ^ (8 - k) = X at *
        generalize 8 * m / 256 ^ (7 - k) % 256 = Y at *
        go_wp2
        go_round
        case rel => exact ⟨k + 1, by omega, by go_num, by rw [← Hs.out]⟩
        case measure => simp [intOf]; omega
      · have hk8 : k = 8 := by omega
        subst hk8
        rw [show 8 * m / 256 ^ (8 - 8) = 8 * m by simp]
        have hx8 : (((8 * m : Nat) : Int) == 8 * (m : Int)) = true := by rw [beq_iff_eq]; omega
        go_wp2
        go_ret
        exact ⟨by simp, below_drewN hb1 _⟩
end Go.Proofs.Ytfhddongflecpaa
