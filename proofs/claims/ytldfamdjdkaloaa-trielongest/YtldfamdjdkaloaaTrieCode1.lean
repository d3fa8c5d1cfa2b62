/- The contract of the program's trie.owned. -/
import Derived.Test.YtldfamdjdkaloaaTrieRef1
import Derived.Test.YtldfamdjdkaloaaNodeMem2
namespace Go.Proofs.Ytldfamdjdkaloaa
open Go.RowKit

set_option maxRecDepth 20000 in
set_option maxHeartbeats 1600000 in
theorem trie_owned (a : Option Addr) (n c : Nat) (l : List Tr.Node) (w : World) (h : NodesAt w w.heap.size a n l) (hn : n ≤ 3518437208780) :
    Calls Try.prog 37 #[.slice a n c] w fun e w' => ∃ v, e = .returned v ∧ OwnN w' w.heap.size v (Tr.owned l) ∧ Below w.heap.size w w' := by
  have Hh := Lib.hid h
  clear h
  go_enter Try.func37, Try.ntmps37
  go_wp2
  go_loopw [3, 8] (fun v i wr => ∃ k : Nat, k ≤ n ∧ i = .int .i64 k ∧ OwnSo w l k v wr) (fun _ i _ => n - (intOf i).toNat)
  case atStart => exact ⟨0, Nat.zero_le _, rfl, OwnN.nil _ _, Below.refl _ _⟩
  case round =>
    obtain ⟨k, hk, rfl, hO, hB⟩ := hrel
    obtain ⟨wo, hwo⟩ : ∃ wo, wo = wr := ⟨_, rfl⟩
    subst hwo
    have hsz := hB.size
    by_cases hlt : k < n
    · obtain ⟨b, off, rfl, hbl, hcs⟩ := (Hh.out.below hB).2 (by omega)
      have hkl : k < l.length := by rw [Hh.out.1]; exact hlt
      obtain ⟨c0, c1, c2, c3⟩ := hcs k hkl
      have Hs := Lib.hid (Tr.owned_snoc (l.take k) l[k])
      rw [← List.take_succ_eq_append_getElem hkl] at Hs
      have hol := Tr.owned_le (l.take k)
      rw [List.length_take] at hol
      have HO := Lib.hid hO
      have HB := Lib.hid hB
      clear hcs hO hB
      generalize l[k] = nd at *
      obtain ⟨na, nb, no, ns⟩ := nd
      by_cases hz : 0 < no.size
      · rw [if_pos hz] at Hs
        have hse : no.toList.isEmpty = false := by
          rw [ByteArray.toList_eq]
          cases hx : no.data.toList with
          | nil => have : no.size = 0 := by show no.data.size = 0; rw [← Array.length_toList, hx]; rfl
                   omega
          | cons _ _ => rfl
        have hnl : (Tr.owned (l.take k)).length + 1 ≤ 3518437208883 := by omega
        have HO2 := Lib.hid ((HO.out.alloc (.cells #[.int .u32 (na : Int), .int .i64 nb, .string no, .int .i64 1] 56)).alloc (.cells #[.int .u32 (na : Int), .int .i64 nb, .string no, .int .i64 1] 56))
        have hnw := news_node (wo.alloc (.cells #[.int .u32 (na : Int), .int .i64 nb, .string no, .int .i64 1] 56)) ⟨na, nb, no, 1⟩ 56
        rw [show (wo.alloc (.cells #[.int .u32 (na : Int), .int .i64 nb, .string no, .int .i64 1] 56)).heap.size = wo.heap.size + 1 by simp] at hnw
        have Hnw := Lib.hid hnw
        clear hnw
        go_wp2_with (at_builtin; refine wpL_append_node _ rfl _ _ rfl w.heap.size _ (Tr.owned (l.take k)) rfl HO2.out _ 1 _ [⟨na, nb, no, 1⟩] rfl rfl Hnw.out hnl (by simp; omega) ?_)
        intro v' w2 hO2 hb2
        have hB2 := ((HB.out.alloc hsz _).alloc (by simp; omega) _).trans hb2
        rw [← Hs.out] at hO2
        have HO3 := Lib.hid hO2
        clear hO2 hb2
        go_wp2
        go_roundw
        case rel => exact ⟨k + 1, by omega, by go_num, HO3.out, hB2⟩
        case measure => simp [intOf]; omega
      · rw [if_neg hz, List.append_nil] at Hs
        obtain rfl : no = ⟨#[]⟩ := by
          apply WideShapes.bytes_inj
          have : no.data.toList.length = 0 := by have : no.data.toList.length = no.size := by simp
                                                 omega
          rw [List.eq_nil_of_length_eq_zero this]
        go_wp2
        go_roundw
        case rel => exact ⟨k + 1, by omega, by go_num, by unfold OwnSo; rw [Hs.out]; exact ⟨HO.out.alloc _, HB.out.alloc hsz _⟩⟩
        case measure => simp [intOf]; omega
    · have hta : l.take k = l := List.take_of_length_le (by rw [Hh.out.1]; omega)
      rw [hta] at hO
      have HO := Lib.hid hO
      clear hO
      go_wp2
      go_ret
      exact ⟨_, rfl, HO.out, hB⟩
end Go.Proofs.Ytldfamdjdkaloaa
