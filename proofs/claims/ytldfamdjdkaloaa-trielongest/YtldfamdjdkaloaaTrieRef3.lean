/- The contract of the reference's TrieFault. -/
import Derived.Test.YtldfamdjdkaloaaTrieRef2
import Derived.Test.YtldfamdjdkaloaaTrieCode6
namespace Go.Proofs.Ytldfamdjdkaloaa
open Go.RowKit

/-- The first k networks stand once. -/
theorem Tr.once_snoc {l : List Tr.Node} {k : Nat} (hk : k < l.length) (h : Tr.once (l.take k)) (hn : ∀ j (_ : j < k) (hj : j < l.length), Tr.nw l[j] ≠ Tr.nw l[k]) : Tr.once (l.take (k + 1)) := by
  rw [List.take_succ_eq_append_getElem hk]
  refine List.pairwise_append.2 ⟨h, List.pairwise_singleton _ _, fun n hn' m hm => ?_⟩
  obtain rfl : m = l[k] := by simpa using hm
  obtain ⟨i, hi, rfl⟩ := List.mem_iff_getElem.1 hn'
  rw [List.length_take] at hi
  rw [List.getElem_take]
  exact hn i (by omega) (by omega)
theorem Tr.once_get {l : List Tr.Node} (h : Tr.once l) {i j : Nat} (hi : i < j) (hj : j < l.length) : Tr.nw (l[i]'(by omega)) ≠ Tr.nw l[j] := List.pairwise_iff_getElem.1 h i j (by omega) hj hi

set_option maxRecDepth 20000 in
set_option maxHeartbeats 6400000 in
theorem ref_TrieFault (a : Option Addr) (n c : Nat) (l : List Tr.Node) (w : World) (h : NodesAt w w.heap.size a n l) (hf : Tr.fit l) (hn : n ≤ 3518437208780) :
    Calls Try.prog 16 #[.slice a n c] w fun e w' => e = .returned (.int .i64 (Tr.fault l : Int)) ∧ Below w.heap.size w w' := by
  have Hh := Lib.hid h
  have Hf := Lib.hid hf
  have hl := h.1
  clear h hf
  go_enter Try.func16, Try.ntmps16
  go_wp2
  go_loopw [14] (fun i wr => ∃ k : Nat, k ≤ n ∧ i = .int .i64 k ∧ Hid (Tr.errs (l.take k) = 0) ∧ Below w.heap.size w wr) (fun i _ => n - (intOf i).toNat)
  case atStart => exact ⟨0, Nat.zero_le _, rfl, Lib.hid rfl, Below.refl _ _⟩
  case round =>
    obtain ⟨k, hk, rfl, He, hB⟩ := hrel
    obtain ⟨wo, hwo⟩ : ∃ wo, wo = wr := ⟨_, rfl⟩
    subst hwo
    have hsz := hB.size
    by_cases hlt : k < n
    · obtain ⟨b, off, rfl, hbl, hcs⟩ := (Hh.out.below hB).2 (by omega)
      have hkl : k < l.length := by omega
      obtain ⟨c0, c1, c2, c3⟩ := hcs k hkl
      have hat := Tr.errs_at hkl He.out
      have hfx := Hf.out _ (List.getElem_mem hkl)
      generalize l[k] = nd at *
      obtain ⟨na, nb, no, ns⟩ := nd
      have HC := Lib.hid (fun W => ref_NetFault na nb W hfx.1)
      unfold netV at HC
      have Hat := Lib.hid hat
      clear hcs hat hfx
      change Hid (Tr.errs (l.take (k + 1)) = Nt.err na nb ∧ (Nt.err na nb ≠ 0 → Tr.errs l = Nt.err na nb)) at Hat
      by_cases hz : Nt.err na nb = 0
      · rw [hz] at HC Hat
        go_wp2_with fail
        refine (HC.out _).mono ?_
        rintro e w2 ⟨rfl, hb2⟩
        have hB2 := (hB.alloc hsz _).trans (hb2.mono (by simp; omega))
        clear c0 c1 c2 c3 hb2
        go_wp2
        go_roundw
        case rel => exact ⟨k + 1, by omega, by go_num, Lib.hid Hat.out.1, hB2⟩
        case measure => simp [intOf]; omega
      · have hne := Hat.out.2 hz
        have Hfa := Lib.hid ((Tr.fault_err (by rw [hne]; exact hz)).trans hne)
        have hz' : ((Nt.err na nb : Int) != 0) = true := by simp; omega
        clear Hat hne hz
        generalize Nt.err na nb = E at *
        go_wp2_with fail
        refine (HC.out _).mono ?_
        rintro e w2 ⟨rfl, hb2⟩
        have hB2 := (hB.alloc hsz _).trans (hb2.mono (by simp; omega))
        clear c0 c1 c2 c3 hb2
        go_wp2
        go_ret
        exact ⟨by rw [Hfa.out]; rfl, hB2⟩
    · obtain rfl : k = n := by omega
      have he0 : Tr.errs l = 0 := by have := He.out; rwa [List.take_of_length_le (by omega)] at this
      have hg := Tr.fit_good Hf.out he0
      have HO := Lib.hid (ref_owned a k c l wo ((Hh.out.below hB).up hsz) (by omega))
      have Hg := Lib.hid (Tr.owned_good hg)
      have hol := Tr.owned_le l
      clear He
      go_wp2_with fail
      refine HO.out.mono ?_
      rintro e w2 ⟨v2, rfl, o2, b2⟩
      obtain ⟨a2, c2, rfl, n2, at2⟩ := o2.at
      have hB2 := hB.trans (b2.mono hsz)
      have HAt2 := Lib.hid at2
      have hsz2 := hB2.size
      clear o2 b2 n2 at2 HO
      obtain ⟨m, hm⟩ : ∃ m, m = (Tr.owned l).length := ⟨_, rfl⟩
      rw [← hm] at HAt2 hol ⊢
      obtain ⟨al, hal⟩ : ∃ al, al = Tr.owned l := ⟨_, rfl⟩
      rw [← hal] at HAt2 Hg
      have Hal := Lib.hid hal
      have Hm := Lib.hid hm
      clear hal hm
      go_wp2
      go_loopw [29] (fun i wr => ∃ j : Nat, j ≤ m ∧ i = .int .i64 j ∧ Hid (Tr.once (al.take j)) ∧ Below w2.heap.size w2 wr) (fun i _ => m - (intOf i).toNat)
      case atStart => exact ⟨0, Nat.zero_le _, rfl, Lib.hid List.Pairwise.nil, Below.refl _ _⟩
      case round =>
        obtain ⟨j, hj, rfl, Ho, hB3⟩ := hrel
        obtain ⟨wp, hwp⟩ : ∃ wp, wp = wr := ⟨_, rfl⟩
        subst hwp
        have hsz3 := hB3.size
        have hml := HAt2.out.1
        by_cases hlt2 : j < m
        · obtain ⟨b, off, rfl, hbl, hcs⟩ := (HAt2.out.below hB3).2 (by omega)
          have hjl : j < al.length := by omega
          obtain ⟨c0, c1, c2', c3⟩ := hcs j hjl
          have Hon := Lib.hid (fun hh => Tr.once_snoc hjl Ho.out hh)
          have Hog := Lib.hid (fun (ho : Tr.once al) i (hi : i < j) => Tr.once_get ho hi hjl)
          obtain ⟨nd, hnd⟩ : ∃ nd, nd = al[j] := ⟨_, rfl⟩
          rw [← hnd] at c0 c1 c2' c3 Hon Hog
          clear hcs
          have HN3 := Lib.hid ((Below.refl wp.heap.size wp).alloc (Nat.le_refl _) (.cells #[.int .u32 (nd.a : Int), .int .i64 nd.b, .string nd.o, .int .i64 nd.s] 56))
          have HNi : Hid (NodeIn (wp.alloc (.cells #[.int .u32 (nd.a : Int), .int .i64 nd.b, .string nd.o, .int .i64 nd.s] 56)) wp.heap.size nd) := Lib.hid (heap_alloc_last wp _)
          clear hnd
          have i4 : (j : Int) < (m : Int) := by omega
          go_wp2
          clear c0 c1 c2' c3
          go_loopw [9] (fun i wr => ∃ q : Nat, q ≤ j ∧ i = .int .i64 q ∧ Hid (∀ x (_ : x < q) (hx : x < al.length), Tr.nw al[x] ≠ Tr.nw nd) ∧ Below (wp.heap.size + 1) (wp.alloc (.cells #[.int .u32 (nd.a : Int), .int .i64 nd.b, .string nd.o, .int .i64 nd.s] 56)) wr) (fun i _ => j - (intOf i).toNat)
          case atStart => exact ⟨0, Nat.zero_le _, rfl, Lib.hid (fun x hx => by omega), Below.refl _ _⟩
          case round =>
            obtain ⟨q, hq, rfl, Hq, hB4⟩ := hrel
            obtain ⟨wq, hwq⟩ : ∃ wq, wq = wr := ⟨_, rfl⟩
            subst hwq
            have hB5 := hB3.trans ((HN3.out.trans (hB4.mono (by omega))).mono hsz3)
            by_cases hlt3 : q < j
            · obtain ⟨b', off', he', _, hcs⟩ := (HAt2.out.below hB5).2 (by omega)
              injection he' with he'
              injection he' with he1 he2
              subst he1 he2
              have hql : q < al.length := by omega
              obtain ⟨c0, c1, _, _⟩ := hcs q hql
              have hNi := HNi.out.low hB4 (by omega)
              obtain ⟨d0, d1, _, _⟩ := hNi.cells
              have Hqs := Lib.hid (fun (hh : Tr.nw al[q] ≠ Tr.nw nd) x (hx : x < q + 1) (hxl : x < al.length) => (show Tr.nw al[x] ≠ Tr.nw nd by
                rcases Nat.eq_or_lt_of_le (show x ≤ q by omega) with rfl | hlt
                · exact hh
                · exact Hq.out x hlt hxl))
              have Hgq := Lib.hid (fun ho => Hog.out ho q hlt3)
              generalize al[q] = Y at *
              have i5 : (q : Int) < (m : Int) := by omega
              clear hcs hNi
              obtain ⟨ya, yb, yo, ys⟩ := Y
              obtain ⟨na, nb, no, ns⟩ := nd
              rcases (show (ya = na ∧ yb = nb) ∨ ((ya : Int) == (na : Int)) = false ∨ (ya = na ∧ (yb == nb) = false) by
                by_cases h1 : ya = na
                · by_cases h2 : yb = nb
                  · exact .inl ⟨h1, h2⟩
                  · exact .inr (.inr ⟨h1, beq_eq_false_iff_ne.2 h2⟩)
                · exact .inr (.inl (beq_eq_false_iff_ne.2 (by omega)))) with ⟨rfl, rfl⟩ | h0 | ⟨rfl, h0⟩
              · have Hno : Hid (Tr.fault l = 14) := Lib.hid (Tr.fault_bad he0 (fun hfi => Hgq.out (by rw [Hal.out]; exact hfi.1) rfl))
                clear Hgq Hqs Hon Hog Hg hg
                go_wp2_with fail
                go_quiet (fail)
                go_wp2
                go_ret
                exact ⟨by rw [Hno.out]; rfl, hB2.trans (belowDrewN (hB5.mono hsz2) _)⟩
              · have hne : Hid (Tr.nw ⟨ya, yb, yo, ys⟩ ≠ Tr.nw ⟨na, nb, no, ns⟩) := Lib.hid fun h => by injection h with h1 h2; change ya = na at h1; rw [h1] at h0; simp at h0
                go_wp2_with fail
                go_quiet (fail)
                go_wp2
                go_roundw
                case rel => exact ⟨q + 1, by omega, by go_num, Lib.hid (Hqs.out hne.out), belowDrewN hB4 _⟩
                case measure => simp [intOf]; omega
              · have hne : Hid (Tr.nw ⟨ya, yb, yo, ys⟩ ≠ Tr.nw ⟨ya, nb, no, ns⟩) := Lib.hid fun h => by injection h with h1 h2; change yb = nb at h2; rw [h2] at h0; simp at h0
                go_wp2_with fail
                go_quiet (fail)
                go_wp2
                go_roundw
                case rel => exact ⟨q + 1, by omega, by go_num, Lib.hid (Hqs.out hne.out), belowDrewN hB4 _⟩
                case measure => simp [intOf]; omega
            · obtain rfl : q = j := by omega
              have Hnx := Lib.hid (Hon.out Hq.out)
              clear Hq Hon Hog
              go_wp2
              go_roundw
              case rel => exact ⟨q + 1, by omega, by go_num, Hnx, hB5⟩
              case measure => simp [intOf]; omega
        · obtain rfl : j = m := by omega
          have hon : Tr.once al := by have := Ho.out; rwa [List.take_of_length_le (by omega)] at this
          have hole := Tr.once_le Hg.out hon
          have HG := Lib.hid (ref_grown 33 a2 j c2 al wp ((HAt2.out.below hB3).up hsz3) Hg.out Tr.deep (by omega) (by omega))
          have hB4 := hB2.trans (hB3.mono hsz2)
          have hsz4 := hB4.size
          have HAl := Lib.hid ((Hh.out.below hB4).up hsz4)
          have Hfi : Hid (Tr.grown 33 al = l ↔ Tr.Fits l) := Lib.hid ⟨fun h => ⟨by rw [← Hal.out]; exact hon, by rw [← Hal.out]; exact h⟩, fun h => by rw [Hal.out]; exact h.2⟩
          have hg2 := Tr.grown_two 33 al Hg.out
          clear Ho hg Hg HAt2
          go_wp2_with fail
          refine HG.out.mono ?_
          rintro e w4 ⟨v4, rfl, o4, b4⟩
          obtain ⟨a4, c4, rfl, n4, at4⟩ := o4.at
          have hB5 := hB4.trans (b4.mono hsz4)
          have hsz5 := hB5.size
          have HA4 := Lib.hid at4
          have HA5 := Lib.hid ((HAl.out.below b4).up b4.size)
          clear o4 b4 n4 at4 HG HAl
          generalize Tr.grown 33 al = GG at *
          obtain ⟨gn, hgn⟩ : ∃ gn, gn = GG.length := ⟨_, rfl⟩
          rw [← hgn] at HA4 hg2 ⊢
          have Hgn := Lib.hid hgn
          clear hgn
          by_cases hnn : gn = k
          · subst hnn
            go_wp2
            go_loopw [57] (fun i wr => ∃ q : Nat, q ≤ gn ∧ i = .int .i64 q ∧ Hid (GG.take q = l.take q) ∧ Below w4.heap.size w4 wr) (fun i _ => gn - (intOf i).toNat)
            case atStart => exact ⟨0, Nat.zero_le _, rfl, Lib.hid rfl, Below.refl _ _⟩
            case round =>
              obtain ⟨q, hq, rfl, Hq, hB6⟩ := hrel
              have hgl := Hgn.out
              by_cases hlt3 : q < gn
              · obtain ⟨b1, o1, rfl, _, hc1⟩ := (HA4.out.below hB6).2 (by omega)
                obtain ⟨b2, o2, rfl, _, hc2⟩ := (HA5.out.below hB6).2 (by omega)
                have hqg : q < GG.length := by omega
                have hqk : q < l.length := by omega
                obtain ⟨x0, x1, x2, x3⟩ := hc1 q hqg
                obtain ⟨y0, y1, y2, y3⟩ := hc2 q hqk
                have Hts := Lib.hid (fun (e : GG[q] = l[q]) => (show GG.take (q + 1) = l.take (q + 1) by rw [List.take_succ_eq_append_getElem hqg, List.take_succ_eq_append_getElem hqk, Hq.out, e]))
                have Hte := Lib.hid (fun (e : GG = l) => (show GG[q] = l[q] by simp [e]))
                clear hc1 hc2 hgl
                generalize GG[q] = X at *
                generalize l[q] = Y at *
                obtain ⟨xa, xb, xo, xs⟩ := X
                obtain ⟨ya, yb, yo, ys⟩ := Y
                have i1 : (q : Int) < (gn : Int) := by omega
                rcases node_parts xa ya xb yb xs ys xo yo with ⟨rfl, rfl, rfl, rfl⟩ | q0 | ⟨rfl, q0⟩ | ⟨rfl, rfl, q0⟩ | ⟨rfl, rfl, rfl, q0⟩
                · go_wp2_with fail
                  go_quiet (fail)
                  go_wp2
                  go_roundw
                  case rel => exact ⟨q + 1, by omega, by go_num, Lib.hid (Hts.out (by first | exact rfl | exact trivial)), belowDrewN hB6 _⟩
                  case measure => simp [intOf]; omega
                all_goals
                  have hne : GG ≠ l := fun e => by have h := Hte.out e; injection h with h1 h2 h3 h4; simp [h1, h2, h3, h4] at q0
                  have Hfa := Lib.hid (Tr.fault_bad he0 (fun hfi => hne (Hfi.out.2 hfi)))
                  clear Hts Hte hne Hfi he0 Hq
                  go_wp2_with fail
                  go_quiet (fail)
                  go_wp2
                  go_ret
                  exact ⟨by rw [Hfa.out]; rfl, hB5.trans (belowDrewN (hB6.mono hsz5) _)⟩
              · obtain rfl : q = gn := by omega
                have hGG : GG = l := by have h := Hq.out; rwa [List.take_of_length_le (by omega), List.take_of_length_le (by omega)] at h
                have Hfa := Lib.hid (Tr.fault_ok he0 (Hfi.out.1 hGG))
                clear Hq hGG Hfi he0 HA4 HA5
                go_wp2
                go_ret
                exact ⟨by rw [Hfa.out]; rfl, hB5.trans (hB6.mono hsz5)⟩
          · have Hfa := Lib.hid (Tr.fault_bad he0 (fun hfi => hnn (by rw [Hgn.out, Hfi.out.2 hfi, hl])))
            have hnb : ((gn : Int) != (k : Int)) = true := by simp; omega
            clear Hfi he0 HA4 HA5
            go_wp2
            go_ret
            exact ⟨by rw [Hfa.out]; rfl, hB5⟩
end Go.Proofs.Ytldfamdjdkaloaa
