/- The contract of the program's trie.Check. -/
import Derived.Test.YtldfamdjdkaloaaTrieCode1
import Derived.Test.YtldfamdjdkaloaaTrieCode2
import Derived.Test.YtldfamdjdkaloaaTrieCode5
import Derived.Test.YtldfamdjdkaloaaNodeEq
namespace Go.Proofs.Ytldfamdjdkaloaa
open Go.RowKit

theorem OwnN.cap {w : World} {B c : Nat} {a : Option Addr} {l : List Tr.Node} (h : OwnN w B (.slice a l.length c) l) : l.length ≤ c := by
  obtain ⟨a', c', e, ho⟩ := h
  injection e with e1 _ e3
  subst e1 e3
  rcases ho.2 with ⟨_, hz⟩ | ⟨g, cap, cur, hv, _, _, hk, _⟩
  · omega
  · injection hv with _ _ h3
    subst h3
    exact hk
/-- Nodes as values of their types. -/
def Tr.fit (l : List Tr.Node) : Prop := ∀ x ∈ l, x.a < 4294967296 ∧ -9223372036854775808 ≤ x.b ∧ x.b ≤ 9223372036854775807
theorem Tr.fit_good {l : List Tr.Node} (h : Tr.fit l) (he : Tr.errs l = 0) : ∀ x ∈ l, Tr.good (Tr.nw x) := fun x hx => ⟨(h x hx).1, Tr.errs_zero.1 he x hx⟩
theorem Tr.fault_err {l : List Tr.Node} (h : Tr.errs l ≠ 0) : Tr.fault l = Tr.errs l := if_neg h
theorem Tr.fault_ok {l : List Tr.Node} (h : Tr.errs l = 0) (hf : Tr.Fits l) : Tr.fault l = 0 := by unfold Tr.fault; rw [if_pos h, if_pos hf]
theorem Tr.fault_bad {l : List Tr.Node} (h : Tr.errs l = 0) (hf : ¬ Tr.Fits l) : Tr.fault l = 14 := by unfold Tr.fault; rw [if_pos h, if_neg hf]
theorem Tr.fault_zero {l : List Tr.Node} (h : Tr.fault l = 0) : Tr.errs l = 0 ∧ Tr.Fits l := by
  unfold Tr.fault at h
  by_cases h1 : Tr.errs l = 0
  · rw [if_pos h1] at h
    by_cases h2 : Tr.Fits l
    · exact ⟨h1, h2⟩
    · rw [if_neg h2] at h; omega
  · rw [if_neg h1] at h; exact absurd h h1

set_option maxRecDepth 20000 in
set_option maxHeartbeats 3200000 in
theorem trie_Check (a : Option Addr) (n c : Nat) (l : List Tr.Node) (w : World) (h : NodesAt w w.heap.size a n l) (hf : Tr.fit l) (hn : n ≤ 3518437208780) :
    Calls Try.prog 15 #[.slice a n c] w fun e w' => e = .returned (.int .i64 (Tr.fault l : Int)) ∧ Below w.heap.size w w' := by
  have Hh := Lib.hid h
  have Hf := Lib.hid hf
  have hl := h.1
  clear h hf
  go_enter Try.func15, Try.ntmps15
  go_wp2
  go_loopw [9] (fun i wr => ∃ k : Nat, k ≤ n ∧ i = .int .i64 k ∧ Hid (Tr.errs (l.take k) = 0) ∧ Below w.heap.size w wr) (fun i _ => n - (intOf i).toNat)
  case atStart => exact ⟨0, Nat.zero_le _, rfl, Lib.hid rfl, Below.refl _ _⟩
  case round =>
    obtain ⟨k, hk, rfl, He, hB⟩ := hrel
    obtain ⟨wo, hwo⟩ : ∃ wo, wo = wr := ⟨_, rfl⟩
    subst hwo
    have hsz := hB.size
    by_cases hlt : k < n
    · obtain ⟨b, off, rfl, hbl, hcs⟩ := (Hh.out.below hB).2 (by omega)
      have hkl : k < l.length := by omega
      obtain ⟨c0, c1, c2, c3⟩ := hcs k hkl
      have hat := Tr.errs_at hkl He.out
      have hfx := Hf.out _ (List.getElem_mem hkl)
      generalize l[k] = nd at *
      obtain ⟨na, nb, no, ns⟩ := nd
      have HC := Lib.hid (fun W => net_Check na nb W hfx.1 hfx.2.1 hfx.2.2)
      unfold netV at HC
      have Hat := Lib.hid hat
      clear hcs hat hfx
      change Hid (Tr.errs (l.take (k + 1)) = Nt.err na nb ∧ (Nt.err na nb ≠ 0 → Tr.errs l = Nt.err na nb)) at Hat
      by_cases hz : Nt.err na nb = 0
      · rw [hz] at HC Hat
        go_wp2_with fail
        refine (HC.out _).mono ?_
        rintro e w2 ⟨rfl, hb2⟩
        have hB2 := (hB.alloc hsz _).trans (hb2.mono (by simp; omega))
        clear c0 c1 c2 c3 hb2
        go_wp2
        go_roundw
        case rel => exact ⟨k + 1, by omega, by go_num, Lib.hid Hat.out.1, hB2⟩
        case measure => simp [intOf]; omega
      · have hne := Hat.out.2 hz
        have Hfa := Lib.hid ((Tr.fault_err (by rw [hne]; exact hz)).trans hne)
        have hz' : ((Nt.err na nb : Int) != 0) = true := by simp; omega
        clear Hat hne hz
        generalize Nt.err na nb = E at *
        go_wp2_with fail
        refine (HC.out _).mono ?_
        rintro e w2 ⟨rfl, hb2⟩
        have hB2 := (hB.alloc hsz _).trans (hb2.mono (by simp; omega))
        clear c0 c1 c2 c3 hb2
        go_wp2
        go_ret
        exact ⟨by rw [Hfa.out]; rfl, hB2⟩
    · obtain rfl : k = n := by omega
      have he0 : Tr.errs l = 0 := by have := He.out; rwa [List.take_of_length_le (by omega)] at this
      have hg := Tr.fit_good Hf.out he0
      have HO := Lib.hid (trie_owned a k c l wo ((Hh.out.below hB).up hsz) (by omega))
      have Hg := Lib.hid (Tr.owned_good hg)
      have hol := Tr.owned_le l
      clear He
      go_wp2_with fail
      refine HO.out.mono ?_
      rintro e w2 ⟨v2, rfl, o2, b2⟩
      obtain ⟨a2, c2, rfl, n2, at2⟩ := o2.at
      have hcap := o2.cap
      have hB2 := hB.trans (b2.mono hsz)
      have HI := Lib.hid (trie_inOrder a2 _ c2 (Tr.owned l) w2 at2 Hg.out (by omega))
      have HAt2 := Lib.hid at2
      have hsz2 := hB2.size
      clear o2 b2 n2 at2 HO
      go_wp2_with fail
      refine HI.out.mono ?_
      rintro e w3 ⟨r3, rfl, hr3, b3⟩
      have hB3 := hB2.trans (b3.mono hsz2)
      have hsz3 := hB3.size
      cases r3 with
      | false =>
        have hns : ¬ Tr.Fits l := fun hfi => by have := hr3.2 (Tr.fits_sorted hg hfi); cases this
        have Hfa := Lib.hid (Tr.fault_bad he0 hns)
        clear hr3 b3 HI hg Hg HAt2 he0
        go_wp2
        go_ret
        exact ⟨by rw [Hfa.out]; rfl, hB3⟩
      | true =>
        have hso := hr3.1 rfl
        have hole := Tr.once_le Hg.out (Tr.sorted_once hso)
        have HBd := Lib.hid (trie_build a2 _ c2 (Tr.owned l) w3 ((HAt2.out.below b3).up b3.size) hcap Hg.out hso (by omega))
        have Hif := Lib.hid (Tr.fits_iff hg)
        have HAl := Lib.hid ((Hh.out.below hB3).up hsz3)
        have Hso := Lib.hid hso
        clear hr3 b3 HI hg Hg HAt2 hso
        go_wp2_with fail
        refine HBd.out.mono ?_
        rintro e w4 ⟨v4, rfl, o4, b4⟩
        obtain ⟨a4, c4, rfl, n4, at4⟩ := o4.at
        have hB4 := hB3.trans (b4.mono hsz3)
        have HE := Lib.hid (nodes_Equal a a4 k _ c c4 l (Tr.trie (Tr.owned l)) w4 ((HAl.out.below b4).up b4.size) at4 (by omega))
        have hsz4 := hB4.size
        clear o4 b4 n4 at4 HBd HAl
        go_wp2_with fail
        refine HE.out.mono ?_
        rintro e w5 ⟨r5, rfl, hr5, b5⟩
        have hB5 := hB4.trans (b5.mono hsz4)
        cases r5 with
        | true =>
          have Hfa := Lib.hid (Tr.fault_ok he0 (Hif.out.2 ⟨Hso.out, (hr5.1 rfl).symm⟩))
          clear hr5 HE Hif Hso he0 b5
          go_wp2
          go_ret
          exact ⟨by rw [Hfa.out]; rfl, hB5⟩
        | false =>
          have Hfa := Lib.hid (Tr.fault_bad he0 (fun hfi => by have := hr5.2 (Hif.out.1 hfi).2.symm; cases this))
          clear hr5 HE Hif Hso he0 b5
          go_wp2
          go_ret
          exact ⟨by rw [Hfa.out]; rfl, hB5⟩
end Go.Proofs.Ytldfamdjdkaloaa
