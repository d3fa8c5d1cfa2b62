/- The contract of hex.Text. -/
import Derived.Test.YtnebgmmfifpgmaaDoorRows
import Derived.Test.YtnebgmmfifpgmaaDoorHexPlain
import Derived.Test.YtnebgmmfifpgmaaDoorMem
import Derived.StillTailTactics
namespace Go.Proofs.YtnebgmmfifpgmaaDoor
open Go.RowKit

/-- Where the walk is in the loop: the first k bytes' digits are owned. -/
def Told (bs : List UInt8) (w : World) (n k : Nat) (v : Value) (wr : World) : Prop :=
  v = .slice (some ⟨w.heap.size, 0, none⟩) (2 * k) (2 * n) ∧
  wr.ownsRow w.heap.size 5 1 (.slice (some ⟨w.heap.size, 0, none⟩) (2 * k) (2 * n)) (2 * k) (bcells (Hx.text (bs.take k)))

theorem and_nibble : ∀ n : Nat, n < 2 ^ 8 → bits .and .u8 (n : Int) 15 = (n : Int) % 16 := by decide +kernel
theorem news_two (w : World) (x y : Value) (t : TypeId) : ∀ j u, [x, y][j]? = some u → (w.alloc (.cells #[x, y] t)).drew.cell? ((⟨w.heap.size, 0, none⟩ : Addr).add j) = some u := by
  intro j u hj
  match j, hj with
  | 0, hj => simp at hj; subst hj; simp [Addr.add]
  | 1, hj => simp at hj; subst hj; simp [Addr.add]
theorem one_two (k k' : IntKind) (x y : Int) : ∀ u ∈ [Value.int k x, Value.int k' y], u.oneCell' = true := by
  intro u hu
  simp at hu
  rcases hu with rfl | rfl <;> rfl
theorem dig_nat : ∀ i : Nat, (h : i < 16) → (⟨#[48, 49, 50, 51, 52, 53, 54, 55, 56, 57, 97, 98, 99, 100, 101, 102]⟩ : ByteArray)[i]'h = Hx.dig i := by decide +kernel
theorem dig_at (i : Int) (h0 : 0 ≤ i) (h1 : i < 16) (pf : i.toNat < (⟨#[48, 49, 50, 51, 52, 53, 54, 55, 56, 57, 97, 98, 99, 100, 101, 102]⟩ : ByteArray).size) :
    (⟨#[48, 49, 50, 51, 52, 53, 54, 55, 56, 57, 97, 98, 99, 100, 101, 102]⟩ : ByteArray)[i.toNat]'pf = Hx.dig i.toNat := dig_nat i.toNat (by omega)
theorem told_step {bs : List UInt8} {w w2 : World} {n k : Nat} {p q : UInt8} (hk : k < bs.length)
    (ho : w2.ownsRow w.heap.size 5 1 (.slice (some ⟨w.heap.size, 0, none⟩) (2 * k + 2) (2 * n)) (2 * k + 2) (bcells (Hx.text (bs.take k)) ++ [.int .u8 (p.toNat : Int), .int .u8 (q.toNat : Int)]))
    (hp : p = Hx.dig ((bs[k].toNat : Int) / 16).toNat) (hq : q = Hx.dig ((bs[k].toNat : Int) % 16).toNat) :
    Told bs w n (k + 1) (.slice (some ⟨w.heap.size, 0, none⟩) (2 * k + 2) (2 * n)) w2 := by
  have e : Hx.text (bs.take (k + 1)) = Hx.text (bs.take k) ++ [p, q] := by
    rw [List.take_succ_eq_append_getElem hk, Hx.text_append, hp, hq]
    simp [Hx.text, Hx.two]
    constructor <;> rfl
  unfold Told
  rw [e, bcells_append, show 2 * (k + 1) = 2 * k + 2 by omega]
  exact ⟨rfl, ho⟩
set_option maxHeartbeats 400000 in
theorem hex_Text (a : Option Addr) (n c : Nat) (bs : List UInt8) (w : World) (h : BytesAt w w.heap.size a n bs) (hn : 2 * n ≤ 281474976710656) :
    Calls Tryd.prog 16 #[.slice a n c] w fun e w' => e = .returned (.string (strOf (Hx.text bs))) ∧ Below w.heap.size w w' := by
  obtain ⟨i0, hi, hz0, hz1, hz2⟩ := info_parts (P := Tryd.prog) (e := 5) (z := .int .u8 0) (size := 1) (bytes := 1) (by kernel_rfl)
  go_enter Tryd.func16, Tryd.ntmps16
  go_wp2_with (at_make; refine wpList_make_own _ rfl _ _ 22 rfl w.heap.size 5 i0 (.int .u8 0) 1 Tryd.underlying22 hi hz0 hz1 _ _ _ (2 * n) rfl rfl ?m1 ?m2 ?m3 ?m4 ?_)
  case m1 => omega
  case m2 => rw [hz2]; omega
  case m3 => unfold maxLen; omega
  case m4 => exact Nat.le_refl _
  intro w1 hown hgrow
  have hbel : Below w.heap.size w w1 := (Below.refl _ _).grown hgrow (Nat.le_refl _) (fun k h => by cases h)
  clear hgrow
  have hlen := h.1
  go_wp2
  go_loopw [3, 12] (fun v i wr => ∃ k : Nat, k ≤ n ∧ i = .int .i64 k ∧ Told bs w n k v wr ∧ Below w.heap.size w wr) (fun _ i _ => n - (intOf i).toNat)
  case atStart => exact ⟨0, Nat.zero_le _, rfl, ⟨rfl, hown⟩, hbel⟩
  case round =>
    obtain ⟨k, hk, rfl, ⟨rfl, ho⟩, hb⟩ := hrel
    by_cases hlt : k < n
    · obtain ⟨b, off, rfl, hbB, hc⟩ := h.2 (by omega)
      have hcell : wr.cell? ⟨b, off + k, none⟩ = some (.int .u8 (bs[k].toNat : Int)) := (hb.cell (p := ⟨b, off + k, none⟩) hbB).trans (hc k (by omega))
      have hx := bs[k].toNat_lt
      clear hc hown hbel
      go_wp2
      have x1 : (0 : Int) ≤ (bs[k].toNat : Int) / 16 := by omega
      have x2 : (bs[k].toNat : Int) / 16 < 16 := by omega
      have x3 : bits .and .u8 (bs[k].toNat : Int) 15 = (bs[k].toNat : Int) % 16 := and_nibble _ hx
      have x4 : (0 : Int) ≤ (bs[k].toNat : Int) % 16 := by omega
      have x5 : (bs[k].toNat : Int) % 16 < 16 := by omega
      go_region_law (refine step_append_fits _ rfl (.tmp 16) (.tmp 23) 22 rfl w.heap.size 5 i0 Tryd.underlying22 hi hz1 w.heap.size (2 * k) (2 * n) _ (by simp [Act.eval]) (by exact (ho.alloc _).drew) ⟨wr.heap.size, 0, none⟩ 2 2 [_, _] (by simp [Act.eval]) rfl (news_two _ _ _ _) (one_two _ _ _ _) (by omega) ?_; intro w2 ho2 hg2)
      all_goals
        have hsz := hb.size
        have hb2 : Below w.heap.size w w2 := ((hb.alloc hsz _).drew).grown hg2 (by simp; omega) (fun k h => by cases h; exact Nat.le_refl _)
        have ht := told_step (bs := bs) (by omega) ho2 (dig_at _ x1 x2 _) (dig_at _ x4 x5 _)
        clear ho2 hg2 x3 ho hb hcell hsz
        go_wp2
        go_roundw
        case rel => exact ⟨k + 1, by omega, by go_num, ht, hb2⟩
        case measure => simp [intOf]; omega
    · have ht : bs.take k = bs := List.take_of_length_le (by omega)
      rw [ht] at ho
      have hl : 2 * k = (Hx.text bs).length := by rw [Hx.text_length]; omega
      rw [show (2 * k = (Hx.text bs).length) from hl] at ho
      have hcv := conv_bytes (P := Tryd.prog) (BytesAt.own ho) 22 5 9 (2 * n) Tryd.underlying22 Tryd.underlying5 Tryd.underlying9
      rw [← hl] at hcv
      clear ho hl ht hown
      go_wp2
      go_ret
      exact ⟨rfl, hb⟩
end Go.Proofs.YtnebgmmfifpgmaaDoor
