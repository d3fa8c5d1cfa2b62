/- Plain words of a trie: what an owner's dropping leaves; what a right trie is like. -/
import Derived.Test.YtjdflnnpamjjcaaGreatDoorSz15
import Derived.Test.YtjdflnnpamjjcaaGreatDoorSz12
import Derived.WideShapes
namespace Go.Proofs.YtjdflnnpamjjcaaGreatDoor
open Go.RowKit

set_option maxRecDepth 20000 in
set_option maxHeartbeats 1600000 in
theorem trie_owned (a : Option Addr) (n c : Nat) (l : List Tr.Node) (w : World) (h : NodesAt w w.heap.size a n l) (hn : n ≤ 3518437208780) :
    Calls Tryz.prog 36 #[.slice a n c] w fun e w' => ∃ v, e = .returned v ∧ OwnN w' w.heap.size v (Tr.owned l) ∧ Below w.heap.size w w' := by
  have Hh := Lib.hid h
  clear h
  go_enter Tryz.func36, Tryz.ntmps36
  go_wp2
  go_loopw [3, 8] (fun v i wr => ∃ k : Nat, k ≤ n ∧ i = .int .i64 k ∧ OwnSo w l k v wr) (fun _ i _ => n - (intOf i).toNat)
  case atStart => exact ⟨0, Nat.zero_le _, rfl, OwnN.nil _ _, Below.refl _ _⟩
  case round =>
    obtain ⟨k, hk, rfl, hO, hB⟩ := hrel
    obtain ⟨wo, hwo⟩ : ∃ wo, wo = wr := ⟨_, rfl⟩
    subst hwo
    have hsz := hB.size
    by_cases hlt : k < n
    · obtain ⟨b, off, rfl, hbl, hcs⟩ := (Hh.out.below hB).2 (by omega)
      have hkl : k < l.length := by rw [Hh.out.1]; exact hlt
      obtain ⟨c0, c1, c2, c3⟩ := hcs k hkl
      have Hs := Lib.hid (Tr.owned_snoc (l.take k) l[k])
      rw [← List.take_succ_eq_append_getElem hkl] at Hs
      have hol := Tr.owned_le (l.take k)
      rw [List.length_take] at hol
      have HO := Lib.hid hO
      have HB := Lib.hid hB
      clear hcs hO hB
      generalize l[k] = nd at *
      obtain ⟨na, nb, no, ns⟩ := nd
      by_cases hz : 0 < no.size
      · rw [if_pos hz] at Hs
        have hse : no.toList.isEmpty = false := by
          rw [ByteArray.toList_eq]
          cases hx : no.data.toList with
          | nil => have : no.size = 0 := by show no.data.size = 0; rw [← Array.length_toList, hx]; rfl
                   omega
          | cons _ _ => rfl
        have hnl : (Tr.owned (l.take k)).length + 1 ≤ 3518437208883 := by omega
        have HO2 := Lib.hid ((HO.out.alloc (.cells #[.int .u32 (na : Int), .int .i64 nb, .string no, .int .i64 1] 53)).alloc (.cells #[.int .u32 (na : Int), .int .i64 nb, .string no, .int .i64 1] 53))
        have hnw := news_node (wo.alloc (.cells #[.int .u32 (na : Int), .int .i64 nb, .string no, .int .i64 1] 53)) ⟨na, nb, no, 1⟩ 53
        rw [show (wo.alloc (.cells #[.int .u32 (na : Int), .int .i64 nb, .string no, .int .i64 1] 53)).heap.size = wo.heap.size + 1 by simp] at hnw
        have Hnw := Lib.hid hnw
        clear hnw
        go_wp2_with (at_builtin; refine wpL_append_node _ rfl _ _ rfl w.heap.size _ (Tr.owned (l.take k)) rfl HO2.out _ 1 _ [⟨na, nb, no, 1⟩] rfl rfl Hnw.out hnl (by simp; omega) ?_)
        intro v' w2 hO2 hb2
        have hB2 := ((HB.out.alloc hsz _).alloc (by simp; omega) _).trans hb2
        rw [← Hs.out] at hO2
        have HO3 := Lib.hid hO2
        clear hO2 hb2
        go_wp2
        go_roundw
        case rel => exact ⟨k + 1, by omega, by go_num, HO3.out, hB2⟩
        case measure => simp [intOf]; omega
      · rw [if_neg hz, List.append_nil] at Hs
        obtain rfl : no = ⟨#[]⟩ := by
          apply WideShapes.bytes_inj
          have : no.data.toList.length = 0 := by have : no.data.toList.length = no.size := by simp
                                                 omega
          rw [List.eq_nil_of_length_eq_zero this]
        go_wp2
        go_roundw
        case rel => exact ⟨k + 1, by omega, by go_num, by unfold OwnSo; rw [Hs.out]; exact ⟨HO.out.alloc _, HB.out.alloc hsz _⟩⟩
        case measure => simp [intOf]; omega
    · have hta : l.take k = l := List.take_of_length_le (by rw [Hh.out.1]; omega)
      rw [hta] at hO
      have HO := Lib.hid hO
      clear hO
      go_wp2
      go_ret
      exact ⟨_, rfl, HO.out, hB⟩
end Go.Proofs.YtjdflnnpamjjcaaGreatDoor

namespace Go.Proofs.YtjdflnnpamjjcaaGreatDoor
open Go.RowKit

theorem OwnN.cap {w : World} {B c : Nat} {a : Option Addr} {l : List Tr.Node} (h : OwnN w B (.slice a l.length c) l) : l.length ≤ c := by
  obtain ⟨a', c', e, ho⟩ := h
  injection e with e1 _ e3
  subst e1 e3
  rcases ho.2 with ⟨_, hz⟩ | ⟨g, cap, cur, hv, _, _, hk, _⟩
  · omega
  · injection hv with _ _ h3
    subst h3
    exact hk
/-- Nodes as values of their types. -/
def Tr.fit (l : List Tr.Node) : Prop := ∀ x ∈ l, x.a < 4294967296 ∧ -9223372036854775808 ≤ x.b ∧ x.b ≤ 9223372036854775807
theorem Tr.fit_good {l : List Tr.Node} (h : Tr.fit l) (he : Tr.errs l = 0) : ∀ x ∈ l, Tr.good (Tr.nw x) := fun x hx => ⟨(h x hx).1, Tr.errs_zero.1 he x hx⟩
theorem Tr.fault_err {l : List Tr.Node} (h : Tr.errs l ≠ 0) : Tr.fault l = Tr.errs l := if_neg h
theorem Tr.fault_ok {l : List Tr.Node} (h : Tr.errs l = 0) (hf : Tr.Fits l) : Tr.fault l = 0 := by unfold Tr.fault; rw [if_pos h, if_pos hf]
theorem Tr.fault_bad {l : List Tr.Node} (h : Tr.errs l = 0) (hf : ¬ Tr.Fits l) : Tr.fault l = 14 := by unfold Tr.fault; rw [if_pos h, if_neg hf]
theorem Tr.fault_zero {l : List Tr.Node} (h : Tr.fault l = 0) : Tr.errs l = 0 ∧ Tr.Fits l := by
  unfold Tr.fault at h
  by_cases h1 : Tr.errs l = 0
  · rw [if_pos h1] at h
    by_cases h2 : Tr.Fits l
    · exact ⟨h1, h2⟩
    · rw [if_neg h2] at h; omega
  · rw [if_neg h1] at h; exact absurd h h1

set_option maxRecDepth 20000 in
set_option maxHeartbeats 3200000 in
theorem trie_Check (a : Option Addr) (n c : Nat) (l : List Tr.Node) (w : World) (h : NodesAt w w.heap.size a n l) (hf : Tr.fit l) (hn : n ≤ 3518437208780) :
    Calls Tryz.prog 52 #[.slice a n c] w fun e w' => e = .returned (.int .i64 (Tr.fault l : Int)) ∧ Below w.heap.size w w' := by
  have Hh := Lib.hid h
  have Hf := Lib.hid hf
  have hl := h.1
  clear h hf
  go_enter Tryz.func52, Tryz.ntmps52
  go_wp2
  go_loopw [9] (fun i wr => ∃ k : Nat, k ≤ n ∧ i = .int .i64 k ∧ Hid (Tr.errs (l.take k) = 0) ∧ Below w.heap.size w wr) (fun i _ => n - (intOf i).toNat)
  case atStart => exact ⟨0, Nat.zero_le _, rfl, Lib.hid rfl, Below.refl _ _⟩
  case round =>
    obtain ⟨k, hk, rfl, He, hB⟩ := hrel
    obtain ⟨wo, hwo⟩ : ∃ wo, wo = wr := ⟨_, rfl⟩
    subst hwo
    have hsz := hB.size
    by_cases hlt : k < n
    · obtain ⟨b, off, rfl, hbl, hcs⟩ := (Hh.out.below hB).2 (by omega)
      have hkl : k < l.length := by omega
      obtain ⟨c0, c1, c2, c3⟩ := hcs k hkl
      have hat := Tr.errs_at hkl He.out
      have hfx := Hf.out _ (List.getElem_mem hkl)
      generalize l[k] = nd at *
      obtain ⟨na, nb, no, ns⟩ := nd
      have HC := Lib.hid (fun W => net_Check na nb W hfx.1 hfx.2.1 hfx.2.2)
      unfold netV at HC
      have Hat := Lib.hid hat
      clear hcs hat hfx
      change Hid (Tr.errs (l.take (k + 1)) = Nt.err na nb ∧ (Nt.err na nb ≠ 0 → Tr.errs l = Nt.err na nb)) at Hat
      by_cases hz : Nt.err na nb = 0
      · rw [hz] at HC Hat
        go_wp2_with fail
        refine (HC.out _).mono ?_
        rintro e w2 ⟨rfl, hb2⟩
        have hB2 := (hB.alloc hsz _).trans (hb2.mono (by simp; omega))
        clear c0 c1 c2 c3 hb2
        go_wp2
        go_roundw
        case rel => exact ⟨k + 1, by omega, by go_num, Lib.hid Hat.out.1, hB2⟩
        case measure => simp [intOf]; omega
      · have hne := Hat.out.2 hz
        have Hfa := Lib.hid ((Tr.fault_err (by rw [hne]; exact hz)).trans hne)
        have hz' : ((Nt.err na nb : Int) != 0) = true := by simp; omega
        clear Hat hne hz
        generalize Nt.err na nb = E at *
        go_wp2_with fail
        refine (HC.out _).mono ?_
        rintro e w2 ⟨rfl, hb2⟩
        have hB2 := (hB.alloc hsz _).trans (hb2.mono (by simp; omega))
        clear c0 c1 c2 c3 hb2
        go_wp2
        go_ret
        exact ⟨by rw [Hfa.out]; rfl, hB2⟩
    · obtain rfl : k = n := by omega
      have he0 : Tr.errs l = 0 := by have := He.out; rwa [List.take_of_length_le (by omega)] at this
      have hg := Tr.fit_good Hf.out he0
      have HO := Lib.hid (trie_owned a k c l wo ((Hh.out.below hB).up hsz) (by omega))
      have Hg := Lib.hid (Tr.owned_good hg)
      have hol := Tr.owned_le l
      clear He
      go_wp2_with fail
      refine HO.out.mono ?_
      rintro e w2 ⟨v2, rfl, o2, b2⟩
      obtain ⟨a2, c2, rfl, n2, at2⟩ := o2.at
      have hcap := o2.cap
      have hB2 := hB.trans (b2.mono hsz)
      have HI := Lib.hid (trie_inOrder a2 _ c2 (Tr.owned l) w2 at2 Hg.out (by omega))
      have HAt2 := Lib.hid at2
      have hsz2 := hB2.size
      clear o2 b2 n2 at2 HO
      go_wp2_with fail
      refine HI.out.mono ?_
      rintro e w3 ⟨r3, rfl, hr3, b3⟩
      have hB3 := hB2.trans (b3.mono hsz2)
      have hsz3 := hB3.size
      cases r3 with
      | false =>
        have hns : ¬ Tr.Fits l := fun hfi => by have := hr3.2 (Tr.fits_sorted hg hfi); cases this
        have Hfa := Lib.hid (Tr.fault_bad he0 hns)
        clear hr3 b3 HI hg Hg HAt2 he0
        go_wp2
        go_ret
        exact ⟨by rw [Hfa.out]; rfl, hB3⟩
      | true =>
        have hso := hr3.1 rfl
        have hole := Tr.once_le Hg.out (Tr.sorted_once hso)
        have HBd := Lib.hid (trie_build a2 _ c2 (Tr.owned l) w3 ((HAt2.out.below b3).up b3.size) hcap Hg.out hso (by omega))
        have Hif := Lib.hid (Tr.fits_iff hg)
        have HAl := Lib.hid ((Hh.out.below hB3).up hsz3)
        have Hso := Lib.hid hso
        clear hr3 b3 HI hg Hg HAt2 hso
        go_wp2_with fail
        refine HBd.out.mono ?_
        rintro e w4 ⟨v4, rfl, o4, b4⟩
        obtain ⟨a4, c4, rfl, n4, at4⟩ := o4.at
        have hB4 := hB3.trans (b4.mono hsz3)
        have HE := Lib.hid (nodes_Equal a a4 k _ c c4 l (Tr.trie (Tr.owned l)) w4 ((HAl.out.below b4).up b4.size) at4 (by omega))
        have hsz4 := hB4.size
        clear o4 b4 n4 at4 HBd HAl
        go_wp2_with fail
        refine HE.out.mono ?_
        rintro e w5 ⟨r5, rfl, hr5, b5⟩
        have hB5 := hB4.trans (b5.mono hsz4)
        cases r5 with
        | true =>
          have Hfa := Lib.hid (Tr.fault_ok he0 (Hif.out.2 ⟨Hso.out, (hr5.1 rfl).symm⟩))
          clear hr5 HE Hif Hso he0 b5
          go_wp2
          go_ret
          exact ⟨by rw [Hfa.out]; rfl, hB5⟩
        | false =>
          have Hfa := Lib.hid (Tr.fault_bad he0 (fun hfi => by have := hr5.2 (Hif.out.1 hfi).2.symm; cases this))
          clear hr5 HE Hif Hso he0 b5
          go_wp2
          go_ret
          exact ⟨by rw [Hfa.out]; rfl, hB5⟩
end Go.Proofs.YtjdflnnpamjjcaaGreatDoor

namespace Go.Proofs.YtjdflnnpamjjcaaGreatDoor
open Go.RowKit

set_option maxHeartbeats 800000 in
theorem trie_cmp (xa : Nat) (xb : Int) (xo : ByteArray) (xs : Int) (na : Nat) (nb : Int) (w : World) (hx : xa < 4294967296) (hn : na < 4294967296) (b0 : -9223372036854775808 ≤ xb) (b1 : xb ≤ 9223372036854775807) (d0 : -9223372036854775808 ≤ nb) (d1 : nb ≤ 9223372036854775807) :
    Calls Tryz.prog 54 #[.agg #[.int .u32 (xa : Int), .int .i64 xb, .string xo, .int .i64 xs], .agg #[.int .u32 (na : Int), .int .i64 nb]] w fun e w' => e = .returned (.int .i64 (Nt.order xa xb na nb)) ∧ Below w.heap.size w w' := by
  have H := Lib.hid (fun W => net_Compare xa xb na nb W hx hn b0 b1 d0 d1)
  unfold netV at H
  generalize Nt.order xa xb na nb = R at *
  go_enter Tryz.func54, Tryz.ntmps54
  go_wp2_with fail
  refine (H.out _).mono ?_
  rintro e w2 ⟨rfl, b2⟩
  have B2 := (((Below.refl w.heap.size w).alloc (Nat.le_refl _) (.cells #[.int .u32 (xa : Int), .int .i64 xb, .string xo, .int .i64 xs] 53)).alloc (by simp) (.cells #[.int .u32 (na : Int), .int .i64 nb] 47)).trans (b2.mono (by simp; omega))
  clear b2
  go_wp2
  go_ret
  exact ⟨rfl, B2⟩
/-- Where a network is among nodes in order, or would have to be. -/
structure Place (l : List Tr.Node) (x : Tr.Nw) (k : Nat) : Prop where
  le : k ≤ l.length
  low : ∀ i (_ : i < k) (h : i < l.length), Tr.lt (Tr.nw l[i]) x
  high : ∀ i (_ : k ≤ i) (h : i < l.length), ¬ Tr.lt (Tr.nw l[i]) x
/-- Where the search is. -/
structure SeekB (w : World) (l : List Tr.Node) (x : Tr.Nw) (i j : Nat) (wr : World) : Prop where
  le : i ≤ j
  up : j ≤ l.length
  low : ∀ q (_ : q < i) (h : q < l.length), Tr.lt (Tr.nw l[q]) x
  high : ∀ q (_ : j ≤ q) (h : q < l.length), ¬ Tr.lt (Tr.nw l[q]) x
  below : Below w.heap.size w wr
theorem Tr.lt_down {l : List Tr.Node} (hs : Tr.sorted l) {x : Tr.Nw} {i j : Nat} (hi : i ≤ j) (hj : j < l.length) (h : Tr.lt (Tr.nw l[j]) x) : Tr.lt (Tr.nw (l[i]'(by omega))) x := by
  rcases Nat.eq_or_lt_of_le hi with rfl | hi
  · exact h
  · exact Tr.lt_trans (Tr.sorted_get hs hi hj) h

set_option maxRecDepth 20000 in
set_option maxHeartbeats 3200000 in
theorem nodes_Search (a : Option Addr) (n c : Nat) (l : List Tr.Node) (na : Nat) (nb : Int) (w : World) (h : NodesAt w w.heap.size a n l) (hn : n ≤ 3518437208883) (hg : ∀ x ∈ l, Tr.good (Tr.nw x)) (hs : Tr.sorted l) (gn : Tr.good (na, nb)) :
    Calls Tryz.prog 53 #[.slice a n c, .agg #[.int .u32 (na : Int), .int .i64 nb], .func (.func 54) #[] #[]] w fun e w' => (∃ (k : Nat) (r : Bool), e = .returned (.tuple #[.int .i64 (k : Int), .bool r]) ∧ Place l (na, nb) k ∧ (r = true ↔ ∃ h : k < l.length, Tr.nw l[k] = (na, nb))) ∧ Below w.heap.size w w' := by
  obtain ⟨w1, hw1⟩ : ∃ w1, w1 = w.alloc (.cells #[.int .u32 (na : Int), .int .i64 nb] 47) := ⟨_, rfl⟩
  have hA : Below w.heap.size w w1 := by rw [hw1]; exact (Below.refl _ _).alloc (Nat.le_refl _) _
  have hz1 : w.heap.size < w1.heap.size := by rw [hw1]; simp
  have hN1 : NetIn w1 w.heap.size na nb := by rw [hw1]; exact heap_alloc_last w _
  obtain ⟨g4, hg4⟩ : ∃ g4, g4 = w.heap.size := ⟨_, rfl⟩
  have Hh := Lib.hid ((h.below hA).up (show w.heap.size ≤ w1.heap.size by omega))
  have Hg := Lib.hid hg
  have Hs := Lib.hid hs
  have HN1 := Lib.hid hN1
  have hl := h.1
  have bn := good_bits gn.2
  clear h hg hs hN1
  go_enter Tryz.func53, Tryz.ntmps53
  go_wp2
  rw [← hw1, ← hg4]
  rw [← hg4] at HN1
  have hg41 : g4 < w1.heap.size := by omega
  clear hw1 hg4
  go_loopw [9, 10] (fun vi vj wr => ∃ i j : Nat, vi = .int .i64 i ∧ vj = .int .i64 j ∧ Hid (SeekB w1 l (na, nb) i j wr)) (fun vi vj _ => (intOf vj - intOf vi).toNat)
  case atStart => exact ⟨0, n, rfl, rfl, Lib.hid ⟨Nat.zero_le _, by omega, fun x hx => by omega, fun x hx h => by omega, Below.refl _ _⟩⟩
  case round =>
    obtain ⟨i, j, rfl, rfl, HK⟩ := hrel
    obtain ⟨wo, hwo⟩ : ∃ wo, wo = wr := ⟨_, rfl⟩
    subst hwo
    have hij := HK.out.le
    have hjn := HK.out.up
    have hB := HK.out.below
    have hsz := hB.size
    obtain ⟨t0, t1⟩ := two_cells (HN1.out.below hB).own
    by_cases hlt : i < j
    · obtain ⟨m, hm⟩ : ∃ m, m = (i + j) / 2 := ⟨_, rfl⟩
      have hm1 : i ≤ m := by omega
      have hm2 : m < j := by omega
      have hml : m < l.length := by omega
      obtain ⟨b, off, rfl, hbl, hcs⟩ := (Hh.out.below hB).2 (by omega)
      obtain ⟨x0, x1, x2, x3⟩ := hcs m hml
      have gx := Hg.out _ (List.getElem_mem hml)
      have bx := good_bits gx.2
      have Ho := Lib.hid (Tr.order_lt (x := Tr.nw l[m]) (y := (na, nb)))
      have HL := Lib.hid (fun (hh : Tr.lt (Tr.nw l[m]) (na, nb)) => (⟨by omega, hjn, fun q hq h => Tr.lt_down Hs.out (show q ≤ m by omega) hml hh, HK.out.high⟩ : m + 1 ≤ j ∧ j ≤ l.length ∧ (∀ q (_ : q < m + 1) (h : q < l.length), Tr.lt (Tr.nw l[q]) (na, nb)) ∧ ∀ q (_ : j ≤ q) (h : q < l.length), ¬ Tr.lt (Tr.nw l[q]) (na, nb)))
      have HH := Lib.hid (fun (hh : ¬ Tr.lt (Tr.nw l[m]) (na, nb)) => (⟨hm1, by omega, HK.out.low, fun q hq h hc => hh (Tr.lt_down Hs.out hq h hc)⟩ : i ≤ m ∧ m ≤ l.length ∧ (∀ q (_ : q < i) (h : q < l.length), Tr.lt (Tr.nw l[q]) (na, nb)) ∧ ∀ q (_ : m ≤ q) (h : q < l.length), ¬ Tr.lt (Tr.nw l[q]) (na, nb)))
      have e1 : IntKind.i64.wrap ((i : Int) + (j : Int)) = (i : Int) + (j : Int) := IntWalk.i64_in _ (by omega)
      have e2 : ((i : Int) + (j : Int)) / 2 = (m : Int) := by omega
      have i1 : (m : Int) < (n : Int) := by omega
      have i0 : (0 : Int) ≤ (m : Int) := by omega
      clear hm hcs
      generalize l[m] = X at *
      obtain ⟨xa, xb, xo, xs⟩ := X
      change Hid (Nt.order xa xb na nb < 0 ↔ Tr.lt (xa, xb) (na, nb)) at Ho
      change Hid (Tr.lt (xa, xb) (na, nb) → _) at HL
      change Hid (¬ Tr.lt (xa, xb) (na, nb) → _) at HH
      have HS : Hid (∀ W, Below wo.heap.size wo W → (W.cell? ⟨b, off + m * 4, none⟩ = some (.int .u32 (xa : Int)) ∧ W.cell? ⟨b, off + m * 4 + 1, none⟩ = some (.int .i64 xb) ∧ W.cell? ⟨b, off + m * 4 + 2, none⟩ = some (.string xo) ∧ W.cell? ⟨b, off + m * 4 + 3, none⟩ = some (.int .i64 xs) ∧ W.cell? ⟨g4, 0, none⟩ = some (.int .u32 (na : Int)) ∧ W.cell? ⟨g4, 1, none⟩ = some (.int .i64 nb) ∧ Below wo.heap.size wo W)) := Lib.hid fun W hW => by
        refine ⟨?_, ?_, ?_, ?_, ?_, ?_, hW⟩
        · rw [hW.cell (p := ⟨b, off + m * 4, none⟩) (by show b < wo.heap.size; omega)]; exact x0
        · rw [hW.cell (p := ⟨b, off + m * 4 + 1, none⟩) (by show b < wo.heap.size; omega)]; exact x1
        · rw [hW.cell (p := ⟨b, off + m * 4 + 2, none⟩) (by show b < wo.heap.size; omega)]; exact x2
        · rw [hW.cell (p := ⟨b, off + m * 4 + 3, none⟩) (by show b < wo.heap.size; omega)]; exact x3
        · rw [hW.cell (p := ⟨g4, 0, none⟩) (by show g4 < wo.heap.size; omega)]; exact t0
        · rw [hW.cell (p := ⟨g4, 1, none⟩) (by show g4 < wo.heap.size; omega)]; exact t1
      have HC : Hid (∀ W, (W.cell? ⟨b, off + m * 4, none⟩ = some (.int .u32 (xa : Int)) ∧ W.cell? ⟨b, off + m * 4 + 1, none⟩ = some (.int .i64 xb) ∧ W.cell? ⟨b, off + m * 4 + 2, none⟩ = some (.string xo) ∧ W.cell? ⟨b, off + m * 4 + 3, none⟩ = some (.int .i64 xs) ∧ W.cell? ⟨g4, 0, none⟩ = some (.int .u32 (na : Int)) ∧ W.cell? ⟨g4, 1, none⟩ = some (.int .i64 nb) ∧ Below wo.heap.size wo W) → Calls Tryz.prog 54 #[.agg #[.int .u32 (xa : Int), .int .i64 xb, .string xo, .int .i64 xs], .agg #[.int .u32 (na : Int), .int .i64 nb]] W fun e W' => e = .returned (.int .i64 (Nt.order xa xb na nb)) ∧ (W'.cell? ⟨b, off + m * 4, none⟩ = some (.int .u32 (xa : Int)) ∧ W'.cell? ⟨b, off + m * 4 + 1, none⟩ = some (.int .i64 xb) ∧ W'.cell? ⟨b, off + m * 4 + 2, none⟩ = some (.string xo) ∧ W'.cell? ⟨b, off + m * 4 + 3, none⟩ = some (.int .i64 xs) ∧ W'.cell? ⟨g4, 0, none⟩ = some (.int .u32 (na : Int)) ∧ W'.cell? ⟨g4, 1, none⟩ = some (.int .i64 nb) ∧ Below wo.heap.size wo W')) := Lib.hid fun W hW => (trie_cmp xa xb xo xs na nb W gx.1 gn.1 bx.1 bx.2 bn.1 bn.2).mono fun e W' ⟨he, hb⟩ => ⟨he, HS.out W' (hW.2.2.2.2.2.2.trans (hb.mono hW.2.2.2.2.2.2.size))⟩
      clear gx bx
      generalize Nt.order xa xb na nb = R at *
      by_cases hR : R < 0
      · have hR' : decide (R < 0) = true := decide_eq_true hR
        have HL' := HL.out (Ho.out.1 hR)
        have HL2 := Lib.hid HL'
        clear HL HH Ho HL'
        go_wp2_with fail
        go_region_held3 (fun W => (W.cell? ⟨b, off + m * 4, none⟩ = some (.int .u32 (xa : Int)) ∧ W.cell? ⟨b, off + m * 4 + 1, none⟩ = some (.int .i64 xb) ∧ W.cell? ⟨b, off + m * 4 + 2, none⟩ = some (.string xo) ∧ W.cell? ⟨b, off + m * 4 + 3, none⟩ = some (.int .i64 xs) ∧ W.cell? ⟨g4, 0, none⟩ = some (.int .u32 (na : Int)) ∧ W.cell? ⟨g4, 1, none⟩ = some (.int .i64 nb) ∧ Below wo.heap.size wo W)) (first | assumption | (exact ⟨x0, x1, x2, x3, t0, t1, (Below.refl _ _).drew⟩))
          (first
            | (go_at_call 54; refine (HC.out _ (by first | assumption | exact ⟨x0, x1, x2, x3, t0, t1, (Below.refl _ _).drew⟩)).mono ?_; rintro e w2 ⟨rfl, hS2⟩))
        all_goals
          have hB2 := hB.trans (hS2.2.2.2.2.2.2.mono hsz)
          go_wp2
          go_roundw
          case rel => exact ⟨m + 1, j, by go_num, rfl, Lib.hid ⟨HL2.out.1, HL2.out.2.1, HL2.out.2.2.1, HL2.out.2.2.2, hB2⟩⟩
          case measure => simp [intOf]; omega
      · have hR' : decide (R < 0) = false := decide_eq_false hR
        have HH' := HH.out (fun h => hR (Ho.out.2 h))
        have HH2 := Lib.hid HH'
        clear HL HH Ho HH'
        go_wp2_with fail
        go_region_held3 (fun W => (W.cell? ⟨b, off + m * 4, none⟩ = some (.int .u32 (xa : Int)) ∧ W.cell? ⟨b, off + m * 4 + 1, none⟩ = some (.int .i64 xb) ∧ W.cell? ⟨b, off + m * 4 + 2, none⟩ = some (.string xo) ∧ W.cell? ⟨b, off + m * 4 + 3, none⟩ = some (.int .i64 xs) ∧ W.cell? ⟨g4, 0, none⟩ = some (.int .u32 (na : Int)) ∧ W.cell? ⟨g4, 1, none⟩ = some (.int .i64 nb) ∧ Below wo.heap.size wo W)) (first | assumption | (exact ⟨x0, x1, x2, x3, t0, t1, (Below.refl _ _).drew⟩))
          (first
            | (go_at_call 54; refine (HC.out _ (by first | assumption | exact ⟨x0, x1, x2, x3, t0, t1, (Below.refl _ _).drew⟩)).mono ?_; rintro e w2 ⟨rfl, hS2⟩))
        all_goals
          have hB2 := hB.trans (hS2.2.2.2.2.2.2.mono hsz)
          go_wp2
          go_roundw
          case rel => exact ⟨i, m, rfl, rfl, Lib.hid ⟨HH2.out.1, HH2.out.2.1, HH2.out.2.2.1, HH2.out.2.2.2, hB2⟩⟩
          case measure => simp [intOf]; omega
    · obtain rfl : i = j := by omega
      have HP : Hid (Place l (na, nb) i) := Lib.hid ⟨hjn, HK.out.low, HK.out.high⟩
      have hBw := hA.trans (hB.mono (by omega))
      by_cases hin : i < n
      · obtain ⟨m, hm⟩ : ∃ m, m = i := ⟨_, rfl⟩
        have hml : m < l.length := by omega
        obtain ⟨b, off, rfl, hbl, hcs⟩ := (Hh.out.below hB).2 (by omega)
        obtain ⟨x0, x1, x2, x3⟩ := hcs m hml
        have gx := Hg.out _ (List.getElem_mem hml)
        have bx := good_bits gx.2
        have Ho : Hid (Nt.order l[m].a l[m].b na nb = 0 ↔ ∃ h : m < l.length, Tr.nw l[m] = (na, nb)) := Lib.hid ⟨fun hh => ⟨hml, Tr.order_zero.1 hh⟩, fun ⟨_, hh⟩ => Tr.order_zero.2 hh⟩
        rw [← hm] at HP hin ⊢
        have i1 : (m : Int) < (n : Int) := by omega
        have i0 : (0 : Int) ≤ (m : Int) := by omega
        have hd : decide ((m : Int) < (n : Int)) = true := decide_eq_true i1
        clear hm hcs HK hij
        have HEx : Hid (∀ r : Bool, (r = true ↔ Nt.order l[m].a l[m].b na nb = 0) → (r = true ↔ ∃ h : m < l.length, Tr.nw l[m] = (na, nb))) := Lib.hid fun r hr => hr.trans Ho.out
        clear Ho
        generalize l[m] = X at *
        obtain ⟨xa, xb, xo, xs⟩ := X
        change Hid (∀ r : Bool, (r = true ↔ Nt.order xa xb na nb = 0) → (r = true ↔ ∃ h : m < l.length, Tr.nw l[m] = (na, nb))) at HEx
        have HS : Hid (∀ W, Below wo.heap.size wo W → (W.cell? ⟨b, off + m * 4, none⟩ = some (.int .u32 (xa : Int)) ∧ W.cell? ⟨b, off + m * 4 + 1, none⟩ = some (.int .i64 xb) ∧ W.cell? ⟨b, off + m * 4 + 2, none⟩ = some (.string xo) ∧ W.cell? ⟨b, off + m * 4 + 3, none⟩ = some (.int .i64 xs) ∧ W.cell? ⟨g4, 0, none⟩ = some (.int .u32 (na : Int)) ∧ W.cell? ⟨g4, 1, none⟩ = some (.int .i64 nb) ∧ Below wo.heap.size wo W)) := Lib.hid fun W hW => by
          refine ⟨?_, ?_, ?_, ?_, ?_, ?_, hW⟩
          · rw [hW.cell (p := ⟨b, off + m * 4, none⟩) (by show b < wo.heap.size; omega)]; exact x0
          · rw [hW.cell (p := ⟨b, off + m * 4 + 1, none⟩) (by show b < wo.heap.size; omega)]; exact x1
          · rw [hW.cell (p := ⟨b, off + m * 4 + 2, none⟩) (by show b < wo.heap.size; omega)]; exact x2
          · rw [hW.cell (p := ⟨b, off + m * 4 + 3, none⟩) (by show b < wo.heap.size; omega)]; exact x3
          · rw [hW.cell (p := ⟨g4, 0, none⟩) (by show g4 < wo.heap.size; omega)]; exact t0
          · rw [hW.cell (p := ⟨g4, 1, none⟩) (by show g4 < wo.heap.size; omega)]; exact t1
        have HC : Hid (∀ W, (W.cell? ⟨b, off + m * 4, none⟩ = some (.int .u32 (xa : Int)) ∧ W.cell? ⟨b, off + m * 4 + 1, none⟩ = some (.int .i64 xb) ∧ W.cell? ⟨b, off + m * 4 + 2, none⟩ = some (.string xo) ∧ W.cell? ⟨b, off + m * 4 + 3, none⟩ = some (.int .i64 xs) ∧ W.cell? ⟨g4, 0, none⟩ = some (.int .u32 (na : Int)) ∧ W.cell? ⟨g4, 1, none⟩ = some (.int .i64 nb) ∧ Below wo.heap.size wo W) → Calls Tryz.prog 54 #[.agg #[.int .u32 (xa : Int), .int .i64 xb, .string xo, .int .i64 xs], .agg #[.int .u32 (na : Int), .int .i64 nb]] W fun e W' => e = .returned (.int .i64 (Nt.order xa xb na nb)) ∧ (W'.cell? ⟨b, off + m * 4, none⟩ = some (.int .u32 (xa : Int)) ∧ W'.cell? ⟨b, off + m * 4 + 1, none⟩ = some (.int .i64 xb) ∧ W'.cell? ⟨b, off + m * 4 + 2, none⟩ = some (.string xo) ∧ W'.cell? ⟨b, off + m * 4 + 3, none⟩ = some (.int .i64 xs) ∧ W'.cell? ⟨g4, 0, none⟩ = some (.int .u32 (na : Int)) ∧ W'.cell? ⟨g4, 1, none⟩ = some (.int .i64 nb) ∧ Below wo.heap.size wo W')) := Lib.hid fun W hW => (trie_cmp xa xb xo xs na nb W gx.1 gn.1 bx.1 bx.2 bn.1 bn.2).mono fun e W' ⟨he, hb⟩ => ⟨he, HS.out W' (hW.2.2.2.2.2.2.trans (hb.mono hW.2.2.2.2.2.2.size))⟩
        clear gx bx
        generalize Nt.order xa xb na nb = R at *
        go_wp2_with fail
        go_region_held3 (fun W => (W.cell? ⟨b, off + m * 4, none⟩ = some (.int .u32 (xa : Int)) ∧ W.cell? ⟨b, off + m * 4 + 1, none⟩ = some (.int .i64 xb) ∧ W.cell? ⟨b, off + m * 4 + 2, none⟩ = some (.string xo) ∧ W.cell? ⟨b, off + m * 4 + 3, none⟩ = some (.int .i64 xs) ∧ W.cell? ⟨g4, 0, none⟩ = some (.int .u32 (na : Int)) ∧ W.cell? ⟨g4, 1, none⟩ = some (.int .i64 nb) ∧ Below wo.heap.size wo W)) (first | assumption | (exact ⟨x0, x1, x2, x3, t0, t1, (Below.refl _ _).drew⟩))
            (first
              | (go_at_call 54; refine (HC.out _ (by first | assumption | exact ⟨x0, x1, x2, x3, t0, t1, (Below.refl _ _).drew⟩)).mono ?_; rintro e w2 ⟨rfl, hS2⟩))
        all_goals
          have hB2 := hBw.trans (hS2.2.2.2.2.2.2.mono (show w.heap.size ≤ wo.heap.size by omega))
          go_wp2
          go_ret2
          exact ⟨⟨m, R == 0, rfl, HP.out, HEx.out (R == 0) beq_iff_eq⟩, hB2⟩
      · have hd : decide ((i : Int) < (n : Int)) = false := decide_eq_false (by omega)
        have HEx : Hid (¬ ∃ h : i < l.length, Tr.nw l[i] = (na, nb)) := Lib.hid fun ⟨h, _⟩ => by omega
        clear HK Hh
        go_wp2_with fail
        go_quiet (fail)
        go_wp2
        go_ret2
        exact ⟨⟨i, _, rfl, HP.out, ⟨fun h => (by cases h), fun h => absurd h HEx.out⟩⟩, belowDrewN hBw _⟩
end Go.Proofs.YtjdflnnpamjjcaaGreatDoor

namespace Go.Proofs.YtjdflnnpamjjcaaGreatDoor
open Go.RowKit

noncomputable def Tr.dropO (o : ByteArray) (l : List Tr.Node) : List Tr.Node := if Tr.fault l = 0 then Tr.trie ((Tr.owned l).filter fun x => !decide (x.o = o)) else []
theorem Tr.fault_facts {l : List Tr.Node} (hf : Tr.fit l) (h : Tr.fault l = 0) : (∀ x ∈ l, Tr.good (Tr.nw x)) ∧ (∀ x ∈ Tr.owned l, Tr.good (Tr.nw x)) ∧ Tr.sorted (Tr.owned l) ∧ (Tr.owned l).length ≤ 141733920768 ∧ Tr.sorted l ∧ Tr.trie (Tr.owned l) = l := by
  obtain ⟨he0, hfit⟩ := Tr.fault_zero h
  have hg := Tr.fit_good hf he0
  have hso := Tr.fits_sorted hg hfit
  exact ⟨hg, Tr.owned_good hg, hso, Tr.once_le (Tr.owned_good hg) (Tr.sorted_once hso), Tr.fits_all_sorted hg hfit, hfit.2⟩
theorem empty_of_size {o : ByteArray} (h : o.size = 0) : o = ⟨#[]⟩ := by
  apply WideShapes.bytes_inj
  have : o.data.toList.length = 0 := by have : o.data.toList.length = o.size := by simp
                                        omega
  rw [List.eq_nil_of_length_eq_zero this]
theorem isEmpty_of_pos {o : ByteArray} (h : 0 < o.size) : o.toList.isEmpty = false := by
  rw [ByteArray.toList_eq]
  cases hx : o.data.toList with
  | nil => have : o.size = 0 := by show o.data.size = 0; rw [← Array.length_toList, hx]; rfl
           omega
  | cons _ _ => rfl

end Go.Proofs.YtjdflnnpamjjcaaGreatDoor
