/- The contracts of the reference's bit, NetFault and NetOf. -/
import Derived.Test.YtjdflnnpamjjcaaGreatDoorRows
import Derived.Test.YtjdflnnpamjjcaaGreatDoorMem
import Derived.Lib.ConvBytes
import Derived.Test.YtjdflnnpamjjcaaGreatDoorSz05
import Derived.Lib.Bytealg
import Derived.Deep.AppendLies
import Derived.SizedLaws
import Derived.Test.YtjdflnnpamjjcaaGreatDoorSz01
namespace Go.Proofs.YtjdflnnpamjjcaaGreatDoor
open Go.RowKit

/-- []byte(s): a new block that reads as the string. -/
theorem conv_string (s : ByteArray) (w : World) : ∃ w1 cap, (convert 9 58 (.string s)).run Tryz.prog w = .ok (.slice (some ⟨w.heap.size, 0, none⟩) s.size cap) w1 ∧
    w1.heap.size = w.heap.size + 1 ∧ Below w.heap.size w w1 ∧ ∀ i (h : i < s.size), w1.cell? ⟨w.heap.size, i, none⟩ = some (.int .u8 (s[i].toNat : Int)) := by
  refine ⟨_, _, Lib.run_convert_string_bytes (P := Tryz.prog) w _ _ 5 s Tryz.underlying9 Tryz.underlying58 Tryz.underlying5, Lib.bytesWorld_size w _ s, ⟨rfl, rfl, rfl, ?_, fun k hk => Lib.bytesWorld_at_old w _ s k hk⟩, fun i hi => ?_⟩
  · rw [Lib.bytesWorld_size]; omega
  · rw [Lib.bytesWorld_cell w _ s i hi, List.getD_eq_getElem?_getD, List.getElem?_eq_getElem (by simpa using hi)]; rfl
theorem conv_bytesAt {s : ByteArray} {w w1 : World} (hsz : w1.heap.size = w.heap.size + 1) (hcs : ∀ i (h : i < s.size), w1.cell? ⟨w.heap.size, i, none⟩ = some (.int .u8 (s[i].toNat : Int))) : BytesAt w1 w1.heap.size (some ⟨w.heap.size, 0, none⟩) s.size s.data.toList := by
  refine ⟨by simp, fun _ => ⟨w.heap.size, 0, rfl, by omega, fun i hi => ?_⟩⟩
  rw [Nat.zero_add, hcs i (by simpa using hi)]
  rfl
end Go.Proofs.YtjdflnnpamjjcaaGreatDoor

namespace Go.Proofs.YtjdflnnpamjjcaaGreatDoor
open Go.RowKit

set_option maxHeartbeats 400000 in
set_option maxRecDepth 100000 in
theorem lite_IndexByte (s : ByteArray) (c : Int) (w : World) :
    Calls Tryz.prog 68 #[.string s, .int .u8 c] w fun e w' => e = .returned (.int .i64 (Lib.indexByte s.data.toList c.toNat.toUInt8)) ∧ w = w' := by
  go_enter Tryz.func68, Tryz.ntmps68
  go_wp2
  rw [run_callFunc_extern Tryz.func90 (by kernel_rfl) (by kernel_rfl) (by kernel_rfl) (e := Extern.BytealgIndexByte.indexByte) (by kernel_rfl), Lib.run_indexByteString]
  simp only [Result.andThen]
  rw [Oper.upon_value]
  go_wp2
  go_ret
  exact ⟨rfl, rfl⟩

def digits : ByteArray := ⟨#[48, 49, 50, 51, 52, 53, 54, 55, 56, 57, 97, 98, 99, 100, 101, 102]⟩
def digIdx (c : UInt8) : Int := if Hx.isDig c then (Hx.digVal c : Int) else -1
theorem digIdx_nat : ∀ n : Nat, n < 256 → Lib.indexByte [48, 49, 50, 51, 52, 53, 54, 55, 56, 57, 97, 98, 99, 100, 101, 102] (UInt8.ofNat n) = digIdx (UInt8.ofNat n) := by decide +kernel
theorem digIdx_eq (c : UInt8) : Lib.indexByte digits.data.toList (c.toNat : Int).toNat.toUInt8 = digIdx c := by
  have h := digIdx_nat c.toNat c.toNat_lt
  have e : UInt8.ofNat c.toNat = c := by simp
  rw [e] at h
  show Lib.indexByte _ (UInt8.ofNat (c.toNat : Int).toNat) = _
  rw [Int.toNat_natCast, e]
  exact h

set_option maxHeartbeats 400000 in
theorem idx_digits (c : UInt8) (w : World) :
    Calls Tryz.prog 47 #[.string ⟨#[48, 49, 50, 51, 52, 53, 54, 55, 56, 57, 97, 98, 99, 100, 101, 102]⟩, .int .u8 (c.toNat : Int)] w fun e w' => e = .returned (.int .i64 (digIdx c)) ∧ w = w' := by
  have h := fun W => lite_IndexByte digits (c.toNat : Int) W
  rw [digIdx_eq] at h
  go_enter Tryz.func47, Tryz.ntmps47
  go_wp2_with (go_at_call 68; refine (h _).mono ?_; rintro e w' ⟨rfl, rfl⟩)
  go_ret
  exact ⟨rfl, rfl⟩

def Gathered (s : ByteArray) (w : World) (k : Nat) (v : Value) (wr : World) : Prop :=
  (s.data.toList.take k).all Hx.isDig = true ∧ ∃ a n c, v = .slice a n c ∧ n = (k + 1) / 2 ∧
    wr.ownsRow (w.heap.size + 1) 5 1 (.slice a n c) n (bcells (Hx.acc (s.data.toList.take k)))

theorem gathered_even {s : ByteArray} {w w2 : World} {k g cap n : Nat} (hk : k < s.size) (hev : k % 2 = 0) (hn : n = (k + 1) / 2) (hd : Hx.isDig s[k] = true) (ha : (s.data.toList.take k).all Hx.isDig = true)
    (ho : w2.ownsRow (w.heap.size + 1) 5 1 (.slice (some ⟨g, 0, none⟩) (n + 1) cap) (n + 1) (bcells (Hx.acc (s.data.toList.take k)) ++ [.int .u8 0])) :
    Gathered s w (k + 1) (.slice (some ⟨g, 0, none⟩) (n + 1) cap) (w2.setCell ⟨g, n, none⟩ (.int .u8 (Hx.digVal s[k] : Int))) := by
  have hl : (s.data.toList.take k).length = k := by rw [List.length_take]; exact Nat.min_eq_left (Nat.le_of_lt hk)
  have e : s.data.toList.take (k + 1) = s.data.toList.take k ++ [s[k]] := List.take_succ_eq_append_getElem (by simpa using hk)
  refine ⟨by rw [allD_step s k hk, ha, hd]; rfl, _, _, _, rfl, by omega, ?_⟩
  have h := (ho.stored n (.int .u8 (Hx.digVal s[k] : Int))).1
  rw [e, Hx.acc_snoc_even _ _ (by omega), bcells_append]
  have hl2 : (bcells (Hx.acc (s.data.toList.take k))).length = n := by rw [bcells_length, Hx.acc_length, hl]; omega
  rw [List.set_append_right (h := by omega), hl2, Nat.sub_self, List.set_cons_zero] at h
  have hv := Hx.digVal_lt s[k]
  have hb : bcells [UInt8.ofNat (Hx.digVal s[k])] = [.int .u8 (Hx.digVal s[k] : Int)] := by
    simp only [bcells, List.map_cons, List.map_nil, UInt8.toNat_ofNat']
    rw [Nat.mod_eq_of_lt (by omega)]
  rw [hb]
  exact h

theorem gathered_odd {s : ByteArray} {w w2 : World} {k g cap m x : Nat} (hk : k < s.size) (hn : m + 1 = (k + 1) / 2) (hodd : k % 2 = 1) (hd : Hx.isDig s[k] = true) (ha : (s.data.toList.take k).all Hx.isDig = true)
    (hs : Hx.acc (s.data.toList.take k ++ [s[k]]) = (Hx.acc (s.data.toList.take k)).set m (UInt8.ofNat (x * 16 + Hx.digVal s[k]))) (hx : x < 16)
    (ho : w2.ownsRow (w.heap.size + 1) 5 1 (.slice (some ⟨g, 0, none⟩) (m + 1) cap) (m + 1) (bcells (Hx.acc (s.data.toList.take k)))) :
    Gathered s w (k + 1) (.slice (some ⟨g, 0, none⟩) (m + 1) cap) (w2.setCell ⟨g, m, none⟩ (.int .u8 ((x : Int) * 16 + (Hx.digVal s[k] : Int)))) := by
  have e : s.data.toList.take (k + 1) = s.data.toList.take k ++ [s[k]] := List.take_succ_eq_append_getElem (by simpa using hk)
  refine ⟨by rw [allD_step s k hk, ha, hd]; rfl, _, _, _, rfl, by omega, ?_⟩
  have h := (ho.stored m (.int .u8 ((x : Int) * 16 + (Hx.digVal s[k] : Int)))).1
  have hv := Hx.digVal_lt s[k]
  rw [e, hs, ← bcells_set, UInt8.toNat_ofNat', Nat.mod_eq_of_lt (by omega)]
  exact h
theorem gathered_end {s : ByteArray} {w wr : World} {k n c : Nat} {a : Option Addr} (hk : k = s.size) (h1 : ¬ 2000 < s.size) (h2 : s.size % 2 = 0) (ha : (s.data.toList.take k).all Hx.isDig = true) (hn : n = (k + 1) / 2)
    (ho : wr.ownsRow (w.heap.size + 1) 5 1 (.slice a n c) n (bcells (Hx.acc (s.data.toList.take k)))) (hb : Below w.heap.size w wr) :
    BytesPost s w (.returned (.tuple #[.slice a n c, .int .i64 0])) wr := by
  subst hk
  have ht : s.data.toList.take s.size = s.data.toList := List.take_of_length_le (by simp)
  rw [ht] at ha ho
  have he : Hx.bytesErr s.data.toList = 0 := by rw [allD_berr]; simp [h1, h2, allD, ha]
  have e : Hx.bytes s.data.toList = Hx.pairs s.data.toList := by unfold Hx.bytes; rw [if_pos he]
  have hl : (Hx.pairs s.data.toList).length = n := by rw [Hx.pairs_length]; simp; omega
  refine ⟨_, _, _, by rw [he]; rfl, ?_, hb⟩
  rw [Hx.acc_even _ (by simpa using h2)] at ho
  rw [e, hl]
  exact ownsRow_base ho (by omega)

set_option maxRecDepth 100000 in
set_option maxHeartbeats 800000 in
theorem ref_HexBytes (s : ByteArray) (w : World) (hs : s.size ≤ maxLen) : Calls Tryz.prog 30 #[.string s] w (BytesPost s w) := by
  have hs' := hs
  unfold maxLen at hs'
  by_cases h1 : 2000 < s.size
  · have He := Lib.hid (bytesPost_err (s := s) (w := w) (wr := w) (r := 1) (by rw [allD_berr]; simp [h1]) (by decide) (Below.refl _ _))
    go_enter Tryz.func30, Tryz.ntmps30
    go_wp2
    go_ret2
    exact He.out
  · have hodd : s.size % 2 = 0 ∨ s.size % 2 = 1 := by omega
    rcases hodd with h2 | h2
    · obtain ⟨w1, cap, hrun, hsz1, hbel, hcs⟩ := conv_string s w
      have Hsz := Lib.hid hsz1
      have Hcs := Lib.hid hcs
      have h3 : bits .and .i64 (s.size : Int) 1 = 0 := by rw [and_one _ (by omega), h2]; rfl
      clear hsz1 hcs
      obtain ⟨i0, hi, hz0, hz1, hz2⟩ := info_parts (P := Tryz.prog) (e := 5) (z := .int .u8 0) (size := 1) (bytes := 1) (by kernel_rfl)
      go_enter Tryz.func30, Tryz.ntmps30
      go_wp2
      clear hrun h3
      go_loopw [4, 18] (fun v i wr => ∃ k : Nat, k ≤ s.size ∧ i = .int .i64 k ∧ Gathered s w k v wr ∧ Below (w.heap.size + 1) w1 wr) (fun _ i _ => s.size - (intOf i).toNat)
      case atStart => exact ⟨0, Nat.zero_le _, rfl, ⟨rfl, none, 0, 0, rfl, rfl, World.ownsRow_nil _ _ _ _⟩, Below.refl _ _⟩
      case round =>
        obtain ⟨k, hk, rfl, ⟨hall, a, n, c, rfl, hn, ho⟩, hb⟩ := hrel
        have hall := Lib.hid hall
        by_cases hlt : k < s.size
        · have hcell : wr.cell? ⟨w.heap.size, k, none⟩ = some (.int .u8 (s[k].toNat : Int)) := (hb.cell (p := ⟨w.heap.size, k, none⟩) (by simp)).trans (Hcs.out k hlt)
          cases hd : Hx.isDig s[k]
          · have hx : digIdx s[k] = -1 := by simp [digIdx, hd]
            have He := Lib.hid (bytesPost_err (s := s) (w := w) (wr := wr) (r := 3) (by rw [allD_berr]; simp [h1, allD_no s k hlt hd]) (by decide) (hbel.trans (hb.mono (by omega))))
            go_wp2_with (go_at_call 47; refine (idx_digits _ _).mono ?_; rintro e w' ⟨rfl, rfl⟩)
            go_ret2
            exact He.out
          · have hx : digIdx s[k] = (Hx.digVal s[k] : Int) := by simp [digIdx, hd]
            have Hd := Lib.hid hd
            have hv := Hx.digVal_lt s[k]
            have hb1 := and_one k (by omega)
            clear hd
            rcases Nat.mod_two_eq_zero_or_one k with hev | hev
            · have hn2 : (k : Int) / 2 = (n : Int) := by omega
              rw [hev] at hb1
              have Hn := Lib.hid hn
              have Hev := Lib.hid hev
              clear hn hev
              go_wp2_with (first
                | (go_at_call 47; refine (idx_digits _ _).mono ?_; rintro e w' ⟨rfl, rfl⟩)
                | (at_builtin; refine wpList_append_lies _ rfl _ _ 58 rfl (w.heap.size + 1) 5 i0 (.int .u8 0) 1 1 Tryz.underlying58 hi hz0 hz1 hz2 rfl (by decide) _ n _ rfl (ho.alloc _) ⟨wr.heap.size, 0, none⟩ 1 1 [.int .u8 0] rfl rfl ?c1 ?c2 (by decide) ?c3 ?c4 ?c5 (wr.heap.size + 1) ?c6 ?_))
              case c1 => exact news_one _ _ _
              case c2 => exact one_one _ _
              case c3 => unfold maxLen; omega
              case c4 => omega
              case c5 => have := hb.size; have := Hsz.out; simp; omega
              case c6 => simp
              intro g cap2 w2 ho2 hg2 hat hlt2
              have hl2 : (bcells (Hx.acc (s.data.toList.take k))).length = n := by have := ho.1; omega
              have hc2 : w2.cell? ⟨g, n, none⟩ = some (.int .u8 0) := own_cell ho2 (by rw [List.getElem?_append_right (by omega), hl2, Nat.sub_self]; rfl)
              have hf2 := ho2.frozenAt n
              have hg := Lib.hid (gathered_even (w := w) hlt Hev.out Hn.out Hd.out hall.out ho2)
              have hgB : w.heap.size + 1 ≤ g := (ho2.lt g rfl).1
              have hb2 : Below (w.heap.size + 1) w1 w2 := by
                have hsz := hb.size
                have hsz1 := Hsz.out
                refine (hb.alloc (by omega) _).grown hg2 (by simp; omega) (fun k h => (ho.lt k h).1)
              clear ho2 hg2 hat ho hb hcell hl2
              go_wp2
              go_roundw
              case rel => exact ⟨k + 1, by omega, by go_num, hg.out, hb2.setCell hgB _⟩
              case measure => simp [intOf]; omega
            · obtain ⟨m, rfl⟩ : ∃ m, n = m + 1 := ⟨n - 1, by omega⟩
              obtain ⟨g, rfl, hgB, hgH⟩ := own_form ho (by omega)
              have hl : (s.data.toList.take k).length = k := by rw [List.length_take]; exact Nat.min_eq_left (Nat.le_of_lt hlt)
              obtain ⟨x, hx16, hxg, hxs⟩ := Hx.acc_snoc_odd (s.data.toList.take k) s[k] (by omega)
              have hkm : k / 2 = m := by omega
              rw [hl, hkm] at hxg hxs
              have hc2 : wr.cell? ⟨g, m, none⟩ = some (.int .u8 (x : Int)) := own_cell ho (by
                simp only [bcells, List.getElem?_map, hxg, Option.map_some, UInt8.toNat_ofNat']
                rw [Nat.mod_eq_of_lt (by omega)])
              have hf2 := ho.frozenAt m
              have hn2 : (k : Int) / 2 = (m : Int) := by omega
              rw [hev] at hb1
              have hg := Lib.hid (gathered_odd (w := w) hlt hn hev Hd.out hall.out hxs hx16 ho)
              have Hn := Lib.hid hn
              have hb2 := hb
              clear hn hev hkm hl hxg hxs ho hb
              go_wp2_with (go_at_call 47; refine (idx_digits _ _).mono ?_; rintro e w' ⟨rfl, rfl⟩)
              go_roundw
              case rel => exact ⟨k + 1, by omega, by go_num, hg.out, hb2.setCell hgB _⟩
              case measure => simp [intOf]; omega
        · have hkk : k = s.size := by omega
          have hfin := Lib.hid (gathered_end (w := w) (c := c) hkk h1 h2 hall.out hn ho (hbel.trans (hb.mono (by omega))))
          clear hkk hn ho
          go_wp2
          go_ret2
          exact hfin.out
    · have h3 : bits .and .i64 (s.size : Int) 1 = 1 := by rw [and_one _ (by omega), h2]; rfl
      have He := Lib.hid (bytesPost_err (s := s) (w := w) (wr := w) (r := 3) (by rw [allD_berr]; simp [h1, h2]) (by decide) (Below.refl _ _))
      go_enter Tryz.func30, Tryz.ntmps30
      go_wp2
      go_ret2
      exact He.out
end Go.Proofs.YtjdflnnpamjjcaaGreatDoor

namespace Go.Proofs.YtjdflnnpamjjcaaGreatDoor
open Go.RowKit

set_option maxHeartbeats 400000 in
theorem ref_HexFault (s : ByteArray) (w : World) (hs : s.size ≤ maxLen) :
    Calls Tryz.prog 17 #[.string s] w fun e w' => e = .returned (.int .i64 (Hx.checkErr s.data.toList : Int)) ∧ Below w.heap.size w w' := by
  have hs' := hs
  unfold maxLen at hs'
  by_cases h : s.size = 64
  · have h1 : ((s.size : Int) != 64) = false := by simp [h]
    have hb : Hx.bytesErr s.data.toList = if allD s = false then 3 else 0 := by rw [allD_berr]; simp [h]
    have hc : Hx.checkErr s.data.toList = if allD s = false then 3 else 0 := by rw [allD_err]; simp [h]
    have Hb := Lib.hid hb
    have Hc := Lib.hid hc
    clear h hb hc
    cases hd : allD s <;>
    · have Hd := Lib.hid hd
      clear hd
      go_enter Tryz.func17, Tryz.ntmps17
      go_wp2_with (go_at_call 30; refine (ref_HexBytes _ _ hs).mono ?_; rintro e w' ⟨a, n, c, rfl, -, hbel⟩; rw [Hb.out, Hd.out]; simp only [if_pos, Bool.true_eq_false, if_false])
      go_ret
      exact ⟨ret_int (by rw [Hc.out, Hd.out]; rfl), hbel⟩
  · have h1 : ((s.size : Int) != 64) = true := by simp; omega
    have hc : Hx.checkErr s.data.toList = 1 := by rw [allD_err]; simp [h]
    have Hc := Lib.hid hc
    clear hc
    go_enter Tryz.func17, Tryz.ntmps17
    go_wp2
    go_ret
    exact ⟨ret_int (by rw [Hc.out]; rfl), Below.refl _ _⟩

end Go.Proofs.YtjdflnnpamjjcaaGreatDoor

namespace Go.Proofs.YtjdflnnpamjjcaaGreatDoor
open Go.RowKit

set_option maxHeartbeats 400000 in
theorem ref_bit (a i : Nat) (w : World) (ha : a < 4294967296) (hi : i < 32) :
    Calls Tryz.prog 41 #[.int .u32 (a : Int), .int .i64 (i : Int)] w fun e w' => e = .returned (.int .u32 ((a / 2 ^ (31 - i) % 2 : Nat) : Int)) ∧ w' = w := by
  have hsub : (31 : Int) - (i : Int) = ((31 - i : Nat) : Int) := by omega
  have hs := u32_shr 45 a (31 - i) (by omega)
  have hq : a / 2 ^ (31 - i) < 4294967296 := Nat.lt_of_le_of_lt (Nat.div_le_self _ _) ha
  have hb := u32_and_one _ hq
  have hk : 31 - i ≤ 31 := by omega
  generalize 31 - i = k at *
  generalize a / 2 ^ k = q at *
  generalize q % 2 = r at *
  go_enter Tryz.func41, Tryz.ntmps41
  go_wp2
  go_ret
  exact ⟨rfl, rfl⟩

set_option maxHeartbeats 800000 in
theorem ref_NetFault (a : Nat) (b : Int) (w : World) (ha : a < 4294967296) :
    Calls Tryz.prog 33 #[netV a b] w fun e w' => e = .returned (.int .i64 (Nt.err a b : Int)) ∧ Below w.heap.size w w' := by
  have hA : Below w.heap.size w (w.alloc (.cells #[.int .u32 (a : Int), .int .i64 b] 47)) := (Below.refl _ _).alloc (Nat.le_refl _) _
  unfold netV
  rcases Nt.err_cases a b with ⟨h, he⟩ | h
  · have He := Lib.hid he
    clear he
    rcases h with h | h
    · have d1 : decide (b < 0) = true := decide_eq_true h
      go_enter Tryz.func33, Tryz.ntmps33
      go_wp2
      go_ret
      exact ⟨by rw [He.out]; rfl, hA⟩
    · have d1 : decide (b < 0) = false := decide_eq_false (by omega)
      have d2 : decide (32 < b) = true := decide_eq_true h
      go_enter Tryz.func33, Tryz.ntmps33
      go_wp2
      go_ret
      exact ⟨by rw [He.out]; rfl, hA⟩
  · obtain ⟨h0, h1, He⟩ : 0 ≤ b ∧ b ≤ 32 ∧ Hid (Nt.err a b = if a % 2 ^ (32 - b.toNat) = 0 then 0 else 3) := by
      rcases h with ⟨h0, h1, h2, h3⟩ | ⟨h0, h1, h2, h3⟩
      · exact ⟨h0, h1, Lib.hid (by rw [h3, if_pos h2])⟩
      · exact ⟨h0, h1, Lib.hid (by rw [h3, if_neg h2])⟩
    clear h
    obtain ⟨n, rfl⟩ : ∃ n : Nat, b = (n : Int) := ⟨b.toNat, by omega⟩
    rw [Int.toNat_natCast] at He
    have d1 : decide ((n : Int) < 0) = false := decide_eq_false (by omega)
    have d2 : decide (32 < (n : Int)) = false := decide_eq_false (by omega)
    go_enter Tryz.func33, Tryz.ntmps33
    go_wp2
    clear d1 d2
    go_loopw [3] (fun i wr => ∃ k : Nat, n ≤ k ∧ k ≤ 32 ∧ i = .int .i64 k ∧ Hid (a % 2 ^ (32 - n) = a % 2 ^ (32 - k)) ∧ wr = w.alloc (.cells #[.int .u32 (a : Int), .int .i64 (n : Int)] 47)) (fun i _ => 32 - (intOf i).toNat)
    case atStart => exact ⟨n, Nat.le_refl _, by omega, rfl, Lib.hid rfl, rfl⟩
    case round =>
      obtain ⟨k, hnk, hk, rfl, Hk, rfl⟩ := hrel
      by_cases hlt : k < 32
      · have HB := Lib.hid (fun W => ref_bit a k W ha hlt)
        have hm := Nt.mod_step a (31 - k)
        rw [show 31 - k + 1 = 32 - k by omega] at hm
        rcases Nat.mod_two_eq_zero_or_one (a / 2 ^ (31 - k)) with hx | hx
        · rw [hx] at HB
          have Hn := Lib.hid (show a % 2 ^ (32 - n) = a % 2 ^ (32 - (k + 1)) by rw [Hk.out, hm, hx, Nat.mul_zero, Nat.add_zero, show 32 - (k + 1) = 31 - k by omega])
          clear hm hx
          go_wp2_with fail
          refine (HB.out _).mono ?_
          rintro e w1 ⟨rfl, hw1⟩
          subst hw1
          go_wp2
          go_roundw
          case rel => exact ⟨k + 1, by omega, by omega, by go_num, Hn, trivial⟩
          case measure => simp [intOf]; omega
        · rw [hx] at HB
          have Hn := Lib.hid (show a % 2 ^ (32 - n) ≠ 0 by
            rw [Hk.out, hm, hx, Nat.mul_one]
            have := Nat.two_pow_pos (31 - k)
            omega)
          clear hm hx
          go_wp2_with fail
          refine (HB.out _).mono ?_
          rintro e w1 ⟨rfl, hw1⟩
          subst hw1
          go_wp2
          go_ret
          exact ⟨by rw [He.out, if_neg Hn.out]; rfl, hA⟩
      · obtain rfl : k = 32 := by omega
        have Hn := Lib.hid (show a % 2 ^ (32 - n) = 0 by rw [Hk.out]; simp [Nat.mod_one])
        clear Hk
        rw [show ((32 : Nat) : Int) = (32 : Int) from rfl]
        go_wp2
        go_ret
        exact ⟨by rw [He.out, if_pos Hn.out]; rfl, hA⟩
end Go.Proofs.YtjdflnnpamjjcaaGreatDoor
