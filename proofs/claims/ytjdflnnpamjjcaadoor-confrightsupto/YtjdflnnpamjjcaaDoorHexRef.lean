/- The contracts of the reference's HexBytes and HexFault, and of strings.IndexByte at the digits. -/
import Derived.Test.YtjdflnnpamjjcaaDoorHexPost
import Derived.Test.YtjdflnnpamjjcaaDoorConv
import Derived.Lib.Bytealg
import Derived.Lib.ConvBytes
import Derived.Deep.AppendLies
namespace Go.Proofs.YtjdflnnpamjjcaaDoor
open Go.RowKit

set_option maxHeartbeats 400000 in
set_option maxRecDepth 100000 in
theorem lite_IndexByte (s : ByteArray) (c : Int) (w : World) :
    Calls Tryd.prog 79 #[.string s, .int .u8 c] w fun e w' => e = .returned (.int .i64 (Lib.indexByte s.data.toList c.toNat.toUInt8)) ∧ w = w' := by
  go_enter Tryd.func79, Tryd.ntmps79
  go_wp2
  rw [run_callFunc_extern Tryd.func97 (by kernel_rfl) (by kernel_rfl) (by kernel_rfl) (e := Extern.BytealgIndexByte.indexByte) (by kernel_rfl), Lib.run_indexByteString]
  simp only [Result.andThen]
  rw [Oper.upon_value]
  go_wp2
  go_ret
  exact ⟨rfl, rfl⟩

def digits : ByteArray := ⟨#[48, 49, 50, 51, 52, 53, 54, 55, 56, 57, 97, 98, 99, 100, 101, 102]⟩
def digIdx (c : UInt8) : Int := if Hx.isDig c then (Hx.digVal c : Int) else -1
theorem digIdx_nat : ∀ n : Nat, n < 256 → Lib.indexByte [48, 49, 50, 51, 52, 53, 54, 55, 56, 57, 97, 98, 99, 100, 101, 102] (UInt8.ofNat n) = digIdx (UInt8.ofNat n) := by decide +kernel
theorem digIdx_eq (c : UInt8) : Lib.indexByte digits.data.toList (c.toNat : Int).toNat.toUInt8 = digIdx c := by
  have h := digIdx_nat c.toNat c.toNat_lt
  have e : UInt8.ofNat c.toNat = c := by simp
  rw [e] at h
  show Lib.indexByte _ (UInt8.ofNat (c.toNat : Int).toNat) = _
  rw [Int.toNat_natCast, e]
  exact h

set_option maxHeartbeats 400000 in
theorem idx_digits (c : UInt8) (w : World) :
    Calls Tryd.prog 53 #[.string ⟨#[48, 49, 50, 51, 52, 53, 54, 55, 56, 57, 97, 98, 99, 100, 101, 102]⟩, .int .u8 (c.toNat : Int)] w fun e w' => e = .returned (.int .i64 (digIdx c)) ∧ w = w' := by
  have h := fun W => lite_IndexByte digits (c.toNat : Int) W
  rw [digIdx_eq] at h
  go_enter Tryd.func53, Tryd.ntmps53
  go_wp2_with (go_at_call 79; refine (h _).mono ?_; rintro e w' ⟨rfl, rfl⟩)
  go_ret
  exact ⟨rfl, rfl⟩

def Gathered (s : ByteArray) (w : World) (k : Nat) (v : Value) (wr : World) : Prop :=
  (s.data.toList.take k).all Hx.isDig = true ∧ ∃ a n c, v = .slice a n c ∧ n = (k + 1) / 2 ∧
    wr.ownsRow (w.heap.size + 1) 5 1 (.slice a n c) n (bcells (Hx.acc (s.data.toList.take k)))

theorem gathered_even {s : ByteArray} {w w2 : World} {k g cap n : Nat} (hk : k < s.size) (hev : k % 2 = 0) (hn : n = (k + 1) / 2) (hd : Hx.isDig s[k] = true) (ha : (s.data.toList.take k).all Hx.isDig = true)
    (ho : w2.ownsRow (w.heap.size + 1) 5 1 (.slice (some ⟨g, 0, none⟩) (n + 1) cap) (n + 1) (bcells (Hx.acc (s.data.toList.take k)) ++ [.int .u8 0])) :
    Gathered s w (k + 1) (.slice (some ⟨g, 0, none⟩) (n + 1) cap) (w2.setCell ⟨g, n, none⟩ (.int .u8 (Hx.digVal s[k] : Int))) := by
  have hl : (s.data.toList.take k).length = k := by rw [List.length_take]; exact Nat.min_eq_left (Nat.le_of_lt hk)
  have e : s.data.toList.take (k + 1) = s.data.toList.take k ++ [s[k]] := List.take_succ_eq_append_getElem (by simpa using hk)
  refine ⟨by rw [allD_step s k hk, ha, hd]; rfl, _, _, _, rfl, by omega, ?_⟩
  have h := (ho.stored n (.int .u8 (Hx.digVal s[k] : Int))).1
  rw [e, Hx.acc_snoc_even _ _ (by omega), bcells_append]
  have hl2 : (bcells (Hx.acc (s.data.toList.take k))).length = n := by rw [bcells_length, Hx.acc_length, hl]; omega
  rw [List.set_append_right (h := by omega), hl2, Nat.sub_self, List.set_cons_zero] at h
  have hv := Hx.digVal_lt s[k]
  have hb : bcells [UInt8.ofNat (Hx.digVal s[k])] = [.int .u8 (Hx.digVal s[k] : Int)] := by
    simp only [bcells, List.map_cons, List.map_nil, UInt8.toNat_ofNat']
    rw [Nat.mod_eq_of_lt (by omega)]
  rw [hb]
  exact h

theorem gathered_odd {s : ByteArray} {w w2 : World} {k g cap m x : Nat} (hk : k < s.size) (hn : m + 1 = (k + 1) / 2) (hodd : k % 2 = 1) (hd : Hx.isDig s[k] = true) (ha : (s.data.toList.take k).all Hx.isDig = true)
    (hs : Hx.acc (s.data.toList.take k ++ [s[k]]) = (Hx.acc (s.data.toList.take k)).set m (UInt8.ofNat (x * 16 + Hx.digVal s[k]))) (hx : x < 16)
    (ho : w2.ownsRow (w.heap.size + 1) 5 1 (.slice (some ⟨g, 0, none⟩) (m + 1) cap) (m + 1) (bcells (Hx.acc (s.data.toList.take k)))) :
    Gathered s w (k + 1) (.slice (some ⟨g, 0, none⟩) (m + 1) cap) (w2.setCell ⟨g, m, none⟩ (.int .u8 ((x : Int) * 16 + (Hx.digVal s[k] : Int)))) := by
  have e : s.data.toList.take (k + 1) = s.data.toList.take k ++ [s[k]] := List.take_succ_eq_append_getElem (by simpa using hk)
  refine ⟨by rw [allD_step s k hk, ha, hd]; rfl, _, _, _, rfl, by omega, ?_⟩
  have h := (ho.stored m (.int .u8 ((x : Int) * 16 + (Hx.digVal s[k] : Int)))).1
  have hv := Hx.digVal_lt s[k]
  rw [e, hs, ← bcells_set, UInt8.toNat_ofNat', Nat.mod_eq_of_lt (by omega)]
  exact h
theorem gathered_end {s : ByteArray} {w wr : World} {k n c : Nat} {a : Option Addr} (hk : k = s.size) (h1 : ¬ 2000 < s.size) (h2 : s.size % 2 = 0) (ha : (s.data.toList.take k).all Hx.isDig = true) (hn : n = (k + 1) / 2)
    (ho : wr.ownsRow (w.heap.size + 1) 5 1 (.slice a n c) n (bcells (Hx.acc (s.data.toList.take k)))) (hb : Below w.heap.size w wr) :
    BytesPost s w (.returned (.tuple #[.slice a n c, .int .i64 0])) wr := by
  subst hk
  have ht : s.data.toList.take s.size = s.data.toList := List.take_of_length_le (by simp)
  rw [ht] at ha ho
  have he : Hx.bytesErr s.data.toList = 0 := by rw [allD_berr]; simp [h1, h2, allD, ha]
  have e : Hx.bytes s.data.toList = Hx.pairs s.data.toList := by unfold Hx.bytes; rw [if_pos he]
  have hl : (Hx.pairs s.data.toList).length = n := by rw [Hx.pairs_length]; simp; omega
  refine ⟨_, _, _, by rw [he]; rfl, ?_, hb⟩
  rw [Hx.acc_even _ (by simpa using h2)] at ho
  rw [e, hl]
  exact ownsRow_base ho (by omega)

set_option maxRecDepth 100000 in
set_option maxHeartbeats 800000 in
theorem ref_HexBytes (s : ByteArray) (w : World) (hs : s.size ≤ maxLen) : Calls Tryd.prog 33 #[.string s] w (BytesPost s w) := by
  have hs' := hs
  unfold maxLen at hs'
  by_cases h1 : 2000 < s.size
  · have He := Lib.hid (bytesPost_err (s := s) (w := w) (wr := w) (r := 1) (by rw [allD_berr]; simp [h1]) (by decide) (Below.refl _ _))
    go_enter Tryd.func33, Tryd.ntmps33
    go_wp2
    go_ret2
    exact He.out
  · have hodd : s.size % 2 = 0 ∨ s.size % 2 = 1 := by omega
    rcases hodd with h2 | h2
    · obtain ⟨w1, cap, hrun, hsz1, hbel, hcs⟩ := conv_string s w
      have Hsz := Lib.hid hsz1
      have Hcs := Lib.hid hcs
      have h3 : bits .and .i64 (s.size : Int) 1 = 0 := by rw [and_one _ (by omega), h2]; rfl
      clear hsz1 hcs
      obtain ⟨i0, hi, hz0, hz1, hz2⟩ := info_parts (P := Tryd.prog) (e := 5) (z := .int .u8 0) (size := 1) (bytes := 1) (by kernel_rfl)
      go_enter Tryd.func33, Tryd.ntmps33
      go_wp2
      clear hrun h3
      go_loopw [4, 18] (fun v i wr => ∃ k : Nat, k ≤ s.size ∧ i = .int .i64 k ∧ Gathered s w k v wr ∧ Below (w.heap.size + 1) w1 wr) (fun _ i _ => s.size - (intOf i).toNat)
      case atStart => exact ⟨0, Nat.zero_le _, rfl, ⟨rfl, none, 0, 0, rfl, rfl, World.ownsRow_nil _ _ _ _⟩, Below.refl _ _⟩
      case round =>
        obtain ⟨k, hk, rfl, ⟨hall, a, n, c, rfl, hn, ho⟩, hb⟩ := hrel
        have hall := Lib.hid hall
        by_cases hlt : k < s.size
        · have hcell : wr.cell? ⟨w.heap.size, k, none⟩ = some (.int .u8 (s[k].toNat : Int)) := (hb.cell (p := ⟨w.heap.size, k, none⟩) (by simp)).trans (Hcs.out k hlt)
          cases hd : Hx.isDig s[k]
          · have hx : digIdx s[k] = -1 := by simp [digIdx, hd]
            have He := Lib.hid (bytesPost_err (s := s) (w := w) (wr := wr) (r := 3) (by rw [allD_berr]; simp [h1, allD_no s k hlt hd]) (by decide) (hbel.trans (hb.mono (by omega))))
            go_wp2_with (go_at_call 53; refine (idx_digits _ _).mono ?_; rintro e w' ⟨rfl, rfl⟩)
            go_ret2
            exact He.out
          · have hx : digIdx s[k] = (Hx.digVal s[k] : Int) := by simp [digIdx, hd]
            have Hd := Lib.hid hd
            have hv := Hx.digVal_lt s[k]
            have hb1 := and_one k (by omega)
            clear hd
            rcases Nat.mod_two_eq_zero_or_one k with hev | hev
            · have hn2 : (k : Int) / 2 = (n : Int) := by omega
              rw [hev] at hb1
              have Hn := Lib.hid hn
              have Hev := Lib.hid hev
              clear hn hev
              go_wp2_with (first
                | (go_at_call 53; refine (idx_digits _ _).mono ?_; rintro e w' ⟨rfl, rfl⟩)
                | (at_builtin; refine wpList_append_lies _ rfl _ _ 60 rfl (w.heap.size + 1) 5 i0 (.int .u8 0) 1 1 Tryd.underlying60 hi hz0 hz1 hz2 rfl (by decide) _ n _ rfl (ho.alloc _) ⟨wr.heap.size, 0, none⟩ 1 1 [.int .u8 0] rfl rfl ?c1 ?c2 (by decide) ?c3 ?c4 ?c5 (wr.heap.size + 1) ?c6 ?_))
              case c1 => exact news_one _ _ _
              case c2 => exact one_one _ _
              case c3 => unfold maxLen; omega
              case c4 => omega
              case c5 => have := hb.size; have := Hsz.out; simp; omega
              case c6 => simp
              intro g cap2 w2 ho2 hg2 hat hlt2
              have hl2 : (bcells (Hx.acc (s.data.toList.take k))).length = n := by have := ho.1; omega
              have hc2 : w2.cell? ⟨g, n, none⟩ = some (.int .u8 0) := own_cell ho2 (by rw [List.getElem?_append_right (by omega), hl2, Nat.sub_self]; rfl)
              have hf2 := ho2.frozenAt n
              have hg := Lib.hid (gathered_even (w := w) hlt Hev.out Hn.out Hd.out hall.out ho2)
              have hgB : w.heap.size + 1 ≤ g := (ho2.lt g rfl).1
              have hb2 : Below (w.heap.size + 1) w1 w2 := by
                have hsz := hb.size
                have hsz1 := Hsz.out
                refine (hb.alloc (by omega) _).grown hg2 (by simp; omega) (fun k h => (ho.lt k h).1)
              clear ho2 hg2 hat ho hb hcell hl2
              go_wp2
              go_roundw
              case rel => exact ⟨k + 1, by omega, by go_num, hg.out, hb2.setCell hgB _⟩
              case measure => simp [intOf]; omega
            · obtain ⟨m, rfl⟩ : ∃ m, n = m + 1 := ⟨n - 1, by omega⟩
              obtain ⟨g, rfl, hgB, hgH⟩ := own_form ho (by omega)
              have hl : (s.data.toList.take k).length = k := by rw [List.length_take]; exact Nat.min_eq_left (Nat.le_of_lt hlt)
              obtain ⟨x, hx16, hxg, hxs⟩ := Hx.acc_snoc_odd (s.data.toList.take k) s[k] (by omega)
              have hkm : k / 2 = m := by omega
              rw [hl, hkm] at hxg hxs
              have hc2 : wr.cell? ⟨g, m, none⟩ = some (.int .u8 (x : Int)) := own_cell ho (by
                simp only [bcells, List.getElem?_map, hxg, Option.map_some, UInt8.toNat_ofNat']
                rw [Nat.mod_eq_of_lt (by omega)])
              have hf2 := ho.frozenAt m
              have hn2 : (k : Int) / 2 = (m : Int) := by omega
              rw [hev] at hb1
              have hg := Lib.hid (gathered_odd (w := w) hlt hn hev Hd.out hall.out hxs hx16 ho)
              have Hn := Lib.hid hn
              have hb2 := hb
              clear hn hev hkm hl hxg hxs ho hb
              go_wp2_with (go_at_call 53; refine (idx_digits _ _).mono ?_; rintro e w' ⟨rfl, rfl⟩)
              go_roundw
              case rel => exact ⟨k + 1, by omega, by go_num, hg.out, hb2.setCell hgB _⟩
              case measure => simp [intOf]; omega
        · have hkk : k = s.size := by omega
          have hfin := Lib.hid (gathered_end (w := w) (c := c) hkk h1 h2 hall.out hn ho (hbel.trans (hb.mono (by omega))))
          clear hkk hn ho
          go_wp2
          go_ret2
          exact hfin.out
    · have h3 : bits .and .i64 (s.size : Int) 1 = 1 := by rw [and_one _ (by omega), h2]; rfl
      have He := Lib.hid (bytesPost_err (s := s) (w := w) (wr := w) (r := 3) (by rw [allD_berr]; simp [h1, h2]) (by decide) (Below.refl _ _))
      go_enter Tryd.func33, Tryd.ntmps33
      go_wp2
      go_ret2
      exact He.out
end Go.Proofs.YtjdflnnpamjjcaaDoor
