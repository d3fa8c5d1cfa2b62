/- The contracts of the program's trie.All and trie.Find. -/
import Derived.Test.YtldfamdjdkaloaaTrieCode6
import Derived.Test.YtldfamdjdkaloaaTrieFind
import Derived.Test.YtldfamdjdkaloaaNetCodeHas
namespace Go.Proofs.Ytldfamdjdkaloaa
open Go.RowKit

noncomputable def Tr.fo (x : Nat) (l : List Tr.Node) : ByteArray := if Tr.fault l = 0 then Tr.lastO x l else ByteArray.empty
noncomputable def Tr.fe (x : Nat) (l : List Tr.Node) : Nat := if Tr.fault l = 0 then (if (Tr.lastO x l).size = 0 then 11 else 0) else Tr.fault l
noncomputable def Tr.ao (l : List Tr.Node) : List Tr.Node := if Tr.fault l = 0 then Tr.owned l else []

theorem empty_of_size {o : ByteArray} (h : o.size = 0) : o = ⟨#[]⟩ := by
  apply WideShapes.bytes_inj
  have : o.data.toList.length = 0 := by have : o.data.toList.length = o.size := by simp
                                        omega
  rw [List.eq_nil_of_length_eq_zero this]
theorem isEmpty_of_pos {o : ByteArray} (h : 0 < o.size) : o.toList.isEmpty = false := by
  rw [ByteArray.toList_eq]
  cases hx : o.data.toList with
  | nil => have : o.size = 0 := by show o.data.size = 0; rw [← Array.length_toList, hx]; rfl
           omega
  | cons _ _ => rfl

set_option maxHeartbeats 800000 in
theorem trie_All (a : Option Addr) (n c : Nat) (l : List Tr.Node) (w : World) (h : NodesAt w w.heap.size a n l) (hf : Tr.fit l) (hn : n ≤ 3518437208780) :
    Calls Try.prog 27 #[.slice a n c] w fun e w' => (∃ v, e = .returned (.tuple #[v, .int .i64 (Tr.fault l : Int)]) ∧ OwnN w' w.heap.size v (Tr.ao l)) ∧ Below w.heap.size w w' := by
  have H1 := Lib.hid (trie_Check a n c l w h hf hn)
  have H2 := Lib.hid (fun (W : World) (hb : Below w.heap.size w W) => trie_owned a n c l W ((h.below hb).up hb.size) hn)
  clear h hf
  by_cases hz : Tr.fault l = 0
  · have Ha : Hid (Tr.ao l = Tr.owned l) := Lib.hid (if_pos hz)
    rw [hz] at H1 ⊢
    clear hz
    go_enter Try.func27, Try.ntmps27
    go_wp2_with fail
    refine H1.out.mono ?_
    rintro e w2 ⟨rfl, b2⟩
    go_wp2_with fail
    refine (H2.out w2 b2).mono ?_
    rintro e w3 ⟨v3, rfl, o3, b3⟩
    have B3 := b2.trans (b3.mono b2.size)
    have O3 := Lib.hid (o3.base b2.size)
    clear b2 b3 H1 H2 o3
    go_wp2
    go_ret2
    exact ⟨⟨_, rfl, by rw [Ha.out]; exact O3.out⟩, B3⟩
  · have Ha : Hid (Tr.ao l = []) := Lib.hid (if_neg hz)
    have hz' : ((Tr.fault l : Int) != 0) = true := by simp; omega
    clear hz H2
    generalize Tr.fault l = F at *
    go_enter Try.func27, Try.ntmps27
    go_wp2_with fail
    refine H1.out.mono ?_
    rintro e w2 ⟨rfl, b2⟩
    go_wp2
    go_ret2
    exact ⟨⟨_, rfl, by rw [Ha.out]; exact OwnN.nil _ _⟩, b2⟩

set_option maxRecDepth 20000 in
set_option maxHeartbeats 3200000 in
theorem trie_Find (a : Option Addr) (n c : Nat) (l : List Tr.Node) (x : Nat) (w : World) (h : NodesAt w w.heap.size a n l) (hf : Tr.fit l) (hn : n ≤ 3518437208780) (hx : x < 4294967296) :
    Calls Try.prog 26 #[.slice a n c, .int .u32 (x : Int)] w fun e w' => e = .returned (.tuple #[.string (Tr.fo x l), .int .i64 (Tr.fe x l : Int)]) ∧ Below w.heap.size w w' := by
  have H1 := Lib.hid (trie_Check a n c l w h hf hn)
  by_cases hz : Tr.fault l = 0
  · obtain ⟨he0, hfit⟩ := Tr.fault_zero hz
    have hg := Tr.fit_good hf he0
    have hnest : Tr.Nest l := by rw [← hfit.2]; exact Tr.grown_nest _ _ (Tr.owned_good hg)
    have Ho : Hid (Tr.fo x l = Tr.lastO x l) := Lib.hid (if_pos hz)
    have He : Hid (Tr.fe x l = if (Tr.lastO x l).size = 0 then 11 else 0) := Lib.hid (if_pos hz)
    have Hh := Lib.hid h
    have hl := h.1
    have Hnest := Lib.hid hnest
    have Hf := Lib.hid hf
    rw [hz] at H1
    clear hz h hf he0 hfit hg hnest
    go_enter Try.func26, Try.ntmps26
    go_wp2_with fail
    refine H1.out.mono ?_
    rintro e w2 ⟨rfl, b2⟩
    clear H1
    go_wp2
    go_loopw [7, 8] (fun v7 v8 wr => ∃ k : Nat, k ≤ n ∧ v8 = .int .i64 k ∧ (∃ o, v7 = .string o ∧ Hid (o = Tr.lastO x (l.take k))) ∧ Below w.heap.size w wr) (fun _ v8 _ => n - (intOf v8).toNat)
    case atStart => exact ⟨0, Nat.zero_le _, rfl, ⟨_, rfl, Lib.hid rfl⟩, b2⟩
    case round =>
      obtain ⟨k, hk, rfl, ⟨o, rfl, Hoo⟩, hB⟩ := hrel
      obtain ⟨wo, hwo⟩ : ∃ wo, wo = wr := ⟨_, rfl⟩
      subst hwo
      have hsz := hB.size
      by_cases hlt : k < n
      · obtain ⟨b, off, rfl, hbl, hcs⟩ := (Hh.out.below hB).2 (by omega)
        have hkl : k < l.length := by omega
        obtain ⟨c0, c1, c2, c3⟩ := hcs k hkl
        have hfx := Hf.out _ (List.getElem_mem hkl)
        have Hsk := Lib.hid (fun (hh : Tr.hasN x l[k] = false) (q : Nat) (hq : (q : Int) = (k : Int) + l[k].s) => Tr.lastO_skip Hnest.out hkl hh hq)
        have Hsn := Lib.hid (Tr.lastO_snoc x (l.take k) l[k])
        rw [← List.take_succ_eq_append_getElem hkl] at Hsn
        have hs1 := Hnest.out k hkl
        have hs2 : 1 ≤ l[k].s ∧ (k : Int) + l[k].s ≤ (n : Int) := ⟨hs1.1, by rw [← hl]; exact hs1.2.1⟩
        clear hcs hs1
        generalize l[k] = nd at *
        obtain ⟨na, nb, no, ns⟩ := nd
        have HC := Lib.hid (fun W => net_Has na nb x W hfx.1 hx hfx.2.1 hfx.2.2)
        unfold netV at HC
        change 1 ≤ ns ∧ (k : Int) + ns ≤ (n : Int) at hs2
        have HCells := Lib.hid (fun (W : World) (hb : Below wo.heap.size wo W) => (show W.cell? ⟨b, off + k * 4 + 2, none⟩ = some (.string no) ∧ W.cell? ⟨b, off + k * 4 + 3, none⟩ = some (.int .i64 ns) by
          rw [hb.cell (p := ⟨b, off + k * 4 + 2, none⟩) (by show b < wo.heap.size; omega), hb.cell (p := ⟨b, off + k * 4 + 3, none⟩) (by show b < wo.heap.size; omega)]
          exact ⟨c2, c3⟩))
        clear c2 c3 hfx
        change Hid (Nt.has na nb x = false → ∀ q : Nat, (q : Int) = (k : Int) + ns → _) at Hsk
        change Hid (Tr.lastO x (l.take (k + 1)) = if Nt.has na nb x = true ∧ 0 < no.size then no else Tr.lastO x (l.take k)) at Hsn
        cases hh : Nt.has na nb x with
        | false =>
          rw [hh] at HC
          obtain ⟨q, hq⟩ : ∃ q : Nat, (q : Int) = (k : Int) + ns := ⟨((k : Int) + ns).toNat, by omega⟩
          obtain ⟨k1, k2, k3⟩ := Hsk.out hh q hq
          have Hk1 := Lib.hid k1
          have Hq := Lib.hid hq
          have hqn : (k : Int) + ns ≤ 3518437208780 := by omega
          clear hh Hsn Hsk hq k1
          go_wp2_with fail
          refine (HC.out _).mono ?_
          rintro e w3 ⟨rfl, b3⟩
          obtain ⟨d2, d3⟩ := HCells.out w3 b3
          have hB3 := hB.trans (b3.mono hsz)
          clear b3 c0 c1
          go_wp2
          go_roundw
          case rel => exact ⟨q, by omega, by rw [Hq.out], ⟨_, rfl, Lib.hid (by rw [Hk1.out, Hoo.out])⟩, hB3⟩
          case measure => simp [intOf]; omega
        | true =>
          rw [hh] at HC Hsn
          by_cases hno : 0 < no.size
          · rw [if_pos ⟨rfl, hno⟩] at Hsn
            have hse := isEmpty_of_pos hno
            clear hh Hsk
            go_wp2_with fail
            refine (HC.out _).mono ?_
            rintro e w3 ⟨rfl, b3⟩
            obtain ⟨d2, d3⟩ := HCells.out w3 b3
            have hB3 := hB.trans (b3.mono hsz)
            clear b3 c0 c1
            go_wp2
            go_roundw
            case rel => exact ⟨k + 1, by omega, by go_num, ⟨_, rfl, Lib.hid Hsn.out.symm⟩, hB3⟩
            case measure => simp [intOf]; omega
          · rw [if_neg (fun h => hno h.2)] at Hsn
            obtain rfl := empty_of_size (show no.size = 0 by omega)
            clear hh Hsk
            go_wp2_with fail
            refine (HC.out _).mono ?_
            rintro e w3 ⟨rfl, b3⟩
            obtain ⟨d2, d3⟩ := HCells.out w3 b3
            have hB3 := hB.trans (b3.mono hsz)
            clear b3 c0 c1
            go_wp2
            go_roundw
            case rel => exact ⟨k + 1, by omega, by go_num, ⟨_, rfl, Lib.hid (by rw [Hsn.out, Hoo.out])⟩, hB3⟩
            case measure => simp [intOf]; omega
      · have htk : l.take k = l := List.take_of_length_le (by omega)
        rw [htk] at Hoo
        by_cases hso : o.size = 0
        · have Hfe : Hid (Tr.fo x l = ⟨#[]⟩ ∧ Tr.fe x l = 11) := Lib.hid ⟨by rw [Ho.out, ← Hoo.out]; exact empty_of_size hso, by rw [He.out, ← Hoo.out, if_pos hso]⟩
          obtain rfl := empty_of_size hso
          clear Hoo Hh
          go_wp2
          go_ret2
          exact ⟨by rw [Hfe.out.1, Hfe.out.2]; rfl, hB⟩
        · have Hfe : Hid (Tr.fo x l = o ∧ Tr.fe x l = 0) := Lib.hid ⟨by rw [Ho.out, ← Hoo.out], by rw [He.out, ← Hoo.out, if_neg hso]⟩
          have hse := isEmpty_of_pos (show 0 < o.size by omega)
          clear Hoo Hh
          go_wp2
          go_ret2
          exact ⟨by rw [Hfe.out.1, Hfe.out.2]; rfl, hB⟩
  · have Ho : Hid (Tr.fo x l = ⟨#[]⟩) := Lib.hid (if_neg hz)
    have He : Hid (Tr.fe x l = Tr.fault l) := Lib.hid (if_neg hz)
    have hz' : ((Tr.fault l : Int) != 0) = true := by simp; omega
    clear hz h hf
    generalize Tr.fault l = F at *
    go_enter Try.func26, Try.ntmps26
    go_wp2_with fail
    refine H1.out.mono ?_
    rintro e w2 ⟨rfl, b2⟩
    go_wp2
    go_ret2
    exact ⟨by rw [Ho.out, He.out]; rfl, b2⟩
end Go.Proofs.Ytldfamdjdkaloaa
