/- The contracts of the law's owned and sameNodes; the walk of the law TrieFinds. -/
import Derived.Test.YtelanamcpadgdaaTrieRef4
namespace Go.Proofs.Ytelanamcpadgdaa
open Go.RowKit

set_option maxRecDepth 20000 in
set_option maxHeartbeats 1600000 in
theorem law_owned (a : Option Addr) (n c : Nat) (l : List Tr.Node) (w : World) (h : NodesAt w w.heap.size a n l) (hf : Tr.fit l) (hn : n ≤ 3518437208780) :
    Calls Try.prog 29 #[.slice a n c] w fun e w' => (∃ v, e = .returned (.tuple #[v, .int .i64 (Tr.fault l : Int)]) ∧ OwnN w' w.heap.size v (Tr.ao l)) ∧ Below w.heap.size w w' := by
  have H1 := Lib.hid (ref_TrieFault a n c l w h hf hn)
  by_cases hfz : Tr.fault l = 0
  · have Ha : Hid (Tr.ao l = Tr.owned l) := Lib.hid (if_pos hfz)
    rw [hfz] at H1 ⊢
    have Hh := Lib.hid h
    clear h hf hfz
    go_enter Try.func29, Try.ntmps29
    go_wp2_with fail
    refine H1.out.mono ?_
    rintro e w2 ⟨rfl, b2⟩
    clear H1
    go_wp2
    go_loopw [5, 15] (fun v i wr => ∃ k : Nat, k ≤ n ∧ i = .int .i64 k ∧ OwnSo w l k v wr) (fun _ i _ => n - (intOf i).toNat)
    case atStart => exact ⟨0, Nat.zero_le _, rfl, OwnN.nil _ _, b2⟩
    case round =>
      obtain ⟨k, hk, rfl, hO, hB⟩ := hrel
      obtain ⟨wo, hwo⟩ : ∃ wo, wo = wr := ⟨_, rfl⟩
      subst hwo
      have hsz := hB.size
      by_cases hlt : k < n
      · obtain ⟨b, off, rfl, hbl, hcs⟩ := (Hh.out.below hB).2 (by omega)
        have hkl : k < l.length := by rw [Hh.out.1]; exact hlt
        obtain ⟨c0, c1, c2, c3⟩ := hcs k hkl
        have Hs := Lib.hid (Tr.owned_snoc (l.take k) l[k])
        rw [← List.take_succ_eq_append_getElem hkl] at Hs
        have hol := Tr.owned_le (l.take k)
        rw [List.length_take] at hol
        have HO := Lib.hid hO
        have HB := Lib.hid hB
        clear hcs hO hB
        generalize l[k] = nd at *
        obtain ⟨na, nb, no, ns⟩ := nd
        by_cases hz : 0 < no.size
        · rw [if_pos hz] at Hs
          have hse : no.toList.isEmpty = false := by
            rw [ByteArray.toList_eq]
            cases hx : no.data.toList with
            | nil => have : no.size = 0 := by show no.data.size = 0; rw [← Array.length_toList, hx]; rfl
                     omega
            | cons _ _ => rfl
          have hnl : (Tr.owned (l.take k)).length + 1 ≤ 3518437208883 := by omega
          have HO2 := Lib.hid ((HO.out.alloc (.cells #[.int .u32 (na : Int), .int .i64 nb, .string no, .int .i64 1] 56)).alloc (.cells #[.int .u32 (na : Int), .int .i64 nb, .string no, .int .i64 1] 56))
          have hnw := news_node (wo.alloc (.cells #[.int .u32 (na : Int), .int .i64 nb, .string no, .int .i64 1] 56)) ⟨na, nb, no, 1⟩ 56
          rw [show (wo.alloc (.cells #[.int .u32 (na : Int), .int .i64 nb, .string no, .int .i64 1] 56)).heap.size = wo.heap.size + 1 by simp] at hnw
          have Hnw := Lib.hid hnw
          clear hnw
          go_wp2_with (at_builtin; refine wpL_append_node _ rfl _ _ rfl w.heap.size _ (Tr.owned (l.take k)) rfl HO2.out _ 1 _ [⟨na, nb, no, 1⟩] rfl rfl Hnw.out hnl (by simp; omega) ?_)
          intro v' w2 hO2 hb2
          have hB2 := ((HB.out.alloc hsz _).alloc (by simp; omega) _).trans hb2
          rw [← Hs.out] at hO2
          have HO3 := Lib.hid hO2
          clear hO2 hb2
          go_wp2
          go_roundw
          case rel => exact ⟨k + 1, by omega, by go_num, HO3.out, hB2⟩
          case measure => simp [intOf]; omega
        · rw [if_neg hz, List.append_nil] at Hs
          obtain rfl : no = ⟨#[]⟩ := by
            apply WideShapes.bytes_inj
            have : no.data.toList.length = 0 := by have : no.data.toList.length = no.size := by simp
                                                   omega
            rw [List.eq_nil_of_length_eq_zero this]
          go_wp2
          go_roundw
          case rel => exact ⟨k + 1, by omega, by go_num, by unfold OwnSo; rw [Hs.out]; exact ⟨HO.out.alloc _, HB.out.alloc hsz _⟩⟩
          case measure => simp [intOf]; omega
      · have hta : l.take k = l := List.take_of_length_le (by rw [Hh.out.1]; omega)
        rw [hta] at hO
        have HO := Lib.hid hO
        clear hO
        go_wp2
        go_ret2
        exact ⟨⟨_, rfl, by rw [Ha.out]; exact HO.out⟩, hB⟩
  · have Ha : Hid (Tr.ao l = []) := Lib.hid (if_neg hfz)
    have hz' : ((Tr.fault l : Int) != 0) = true := by simp; omega
    clear hfz h hf
    generalize Tr.fault l = F at *
    go_enter Try.func29, Try.ntmps29
    go_wp2_with fail
    refine H1.out.mono ?_
    rintro e w2 ⟨rfl, b2⟩
    go_wp2
    go_ret2
    exact ⟨⟨_, rfl, by rw [Ha.out]; exact OwnN.nil _ _⟩, b2⟩
theorem law_sameNodes (a b : Option Addr) (n m c d : Nat) (l k : List Tr.Node) (w : World) (hl : NodesAt w w.heap.size a n l) (hk : NodesAt w w.heap.size b m k) (hn : n ≤ 3518437208883) :
    Calls Try.prog 19 #[.slice a n c, .slice b m d] w fun e w' => ∃ r : Bool, e = .returned (.bool r) ∧ (r = true ↔ l = k) ∧ Below w.heap.size w w' := by
  have H := Lib.hid (nodes_Equal a b n m c d l k w hl hk hn)
  clear hl hk
  go_enter Try.func19, Try.ntmps19
  go_wp2_with fail
  refine H.out.mono ?_
  rintro e w2 ⟨r, rfl, hr, b2⟩
  have Hr := Lib.hid hr
  clear hr H
  go_wp2
  go_ret
  exact ⟨_, rfl, Hr.out, b2⟩

set_option maxRecDepth 20000 in
set_option maxHeartbeats 1600000 in
theorem trieFinds_walk (a : Option Addr) (n c : Nat) (l : List Tr.Node) (x : Nat) (w : World) (h : NodesAt w w.heap.size a n l) (_hc : n ≤ c) (hf : Tr.fit l) (hn : n ≤ 3518437208780) (hx : x < 4294967296) :
    Calls Try.prog 7 #[.slice a n c, .int .u32 (x : Int)] w fun e w' => e = .returned (.bool true) ∧ Below w.heap.size w w' := by
  have H1 := Lib.hid (trie_Find a n c l x w h hf hn hx)
  have H2 := Lib.hid (fun (W : World) (hb : Below w.heap.size w W) => trie_All a n c l W ((h.below hb).up hb.size) hf hn)
  have H3 := Lib.hid (fun (W : World) (hb : Below w.heap.size w W) => ref_TrieFind a n c l x W ((h.below hb).up hb.size) hf hn hx)
  have H4 := Lib.hid (fun (W : World) (hb : Below w.heap.size w W) => law_owned a n c l W ((h.below hb).up hb.size) hf hn)
  have hal : (Tr.ao l).length ≤ 3518437208780 := by
    unfold Tr.ao
    split
    · have := Tr.owned_le l; rw [h.1] at this; omega
    · simp
  clear h hf
  generalize Tr.fault l = F at *
  generalize Tr.fo x l = O at *
  generalize Tr.fe x l = E at *
  generalize Tr.ao l = A at *
  go_enter Try.func7, Try.ntmps7
  go_wp2_with fail
  refine H1.out.mono ?_
  rintro e w2 ⟨rfl, b2⟩
  go_wp2_with fail
  refine (H2.out w2 b2).mono ?_
  rintro e w3 ⟨⟨v3, rfl, o3⟩, b3⟩
  have B3 := b2.trans (b3.mono b2.size)
  go_wp2_with fail
  refine (H3.out w3 B3).mono ?_
  rintro e w4 ⟨rfl, b4⟩
  have B4 := B3.trans (b4.mono B3.size)
  go_wp2_with fail
  refine (H4.out w4 B4).mono ?_
  rintro e w5 ⟨⟨v5, rfl, o5⟩, b5⟩
  have B5 := B4.trans (b5.mono B4.size)
  have o3' := (o3.below b4).below b5
  obtain ⟨a3, c3, rfl, _, at3⟩ := o3'.at
  obtain ⟨a5, c5, rfl, _, at5⟩ := o5.at
  have HE := Lib.hid (law_sameNodes a3 a5 _ _ c3 c5 A A w5 at3 at5 (by omega))
  clear b2 b3 b4 b5 B3 B4 o3 o5 o3' at3 at5 H1 H2 H3 H4
  go_wp2_with fail
  refine HE.out.mono ?_
  rintro e w6 ⟨r6, rfl, hr6, b6⟩
  obtain rfl : r6 = true := by first | exact hr6.2 rfl | exact hr6.2 trivial | simpa using hr6
  have B6 := B5.trans (b6.mono B5.size)
  clear hr6 b6 B5 HE
  go_wp2
  go_ret
  exact ⟨by simp, B6⟩
end Go.Proofs.Ytelanamcpadgdaa
