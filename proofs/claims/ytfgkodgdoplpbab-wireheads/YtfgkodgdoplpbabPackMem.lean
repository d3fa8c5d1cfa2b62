/- Small facts on numbers and bytes in memory that packets and messages share. -/
import Derived.Test.YtfgkodgdoplpbabMem3
import Derived.Test.YtfgkodgdoplpbabMemG
import Derived.Test.YtfgkodgdoplpbabConv
import Derived.Laws.BitsAllLaws
import Derived.Laws.Shifts
namespace Go.Proofs.Ytfgkodgdoplpbab
open Go.RowKit

theorem i64_or (a b : Nat) (ha : a ≤ 9223372036854775807) (hb : b ≤ 9223372036854775807) (k : Nat) (hk : a % 2 ^ k = 0) (hb2 : b < 2 ^ k) (hs : a + b ≤ 9223372036854775807) : bits .or .i64 (a : Int) (b : Int) = ((a + b : Nat) : Int) := by
  show IntKind.i64.wrap ((BitVec.ofInt 64 (a : Int) ||| BitVec.ofInt 64 (b : Int)).toNat : Int) = _
  rw [BitVec.toNat_or, ofInt_small a ha, ofInt_small b hb, nat_join k a b hk hb2, IntKind.wrap_i64]
  omega
theorem i64_shl8 (t : TypeId) (a : Nat) (ha : a < 65536) : binOp .shl t (.int .i64 (a : Int)) (.int .u64 8) = pure (.int .i64 ((a * 256 : Nat) : Int)) := by
  rw [binOp_shl, shift_shl .i64 .u64 _ 8 (by omega) (by show (8 : Int) ≤ 64; omega), show (2 : Int) ^ (8 : Int).toNat = 256 from rfl, IntKind.wrap_i64]
  exact congrArg (fun z => pure (Value.int .i64 z)) (by omega)
theorem u32_shl16 (t : TypeId) (a : Nat) (ha : a < 65536) : binOp .shl t (.int .u32 (a : Int)) (.int .u64 16) = pure (.int .u32 ((a * 65536 : Nat) : Int)) := by
  rw [binOp_shl, shift_shl .u32 .u64 _ 16 (by omega) (by show (16 : Int) ≤ 32; omega), show (2 : Int) ^ (16 : Int).toNat = 65536 from rfl, IntKind.wrap_u32]
  exact congrArg (fun z => pure (Value.int .u32 z)) (by omega)
theorem news_row (w : World) (xs : List Value) (t : TypeId) : ∀ j u, xs[j]? = some u → (w.alloc (.cells xs.toArray t)).cell? ((⟨w.heap.size, 0, none⟩ : Addr).add j) = some u := by
  intro j u hj
  rw [Addr.add_lit, Nat.zero_add, cell_of_row _ _ j _ _ _ (heap_alloc_last w _), List.getElem?_toArray, hj]
theorem i64_shr (t : TypeId) (a k : Nat) (hk : k ≤ 64) : binOp .shr t (.int .i64 (a : Int)) (.int .u64 (k : Int)) = pure (.int .i64 ((a / 2 ^ k : Nat) : Int)) := by
  rw [binOp_shr, shift_shr .i64 .u64 _ (k : Int) (by omega) (by show (k : Int) ≤ 64; omega)]
  simp only [Int.toNat_natCast, Int.natCast_ediv, Int.natCast_pow]
  rfl
theorem u8_of (a : Nat) : IntKind.u8.wrap (a : Int) = ((UInt8.ofNat a).toNat : Int) := by
  rw [IntKind.wrap_u8, UInt8.toNat_ofNat']; omega

theorem join_pow (x y j : Nat) (hy : y < 2 ^ j) : x * 2 ^ j ||| y = x * 2 ^ j + y := by
  have h := Nat.two_pow_add_eq_or_of_lt (i := j) (b := y) hy x
  rw [Nat.mul_comm] at h
  exact h.symm
theorem join16 (x y : Nat) (hy : y < 65536) : x * 65536 ||| y = x * 65536 + y := by
  have h := join_pow x y 16 (by omega)
  rw [show x * 65536 = x * 2 ^ 16 by omega]
  exact h
theorem u32_shr16 (t : TypeId) (a : Nat) : binOp .shr t (.int .u32 (a : Int)) (.int .u64 16) = pure (.int .u32 ((a / 65536 : Nat) : Int)) := by
  rw [binOp_shr, shift_shr .u32 .u64 _ 16 (by omega) (by show (16 : Int) ≤ 32; omega)]
  simp only [show (2 : Int) ^ (16 : Int).toNat = 65536 from rfl, Int.natCast_ediv]
  rfl

theorem BytesAt.part {w : World} {B n m g off : Nat} {bs : List UInt8} (h : BytesAt w B (some ⟨g, off, none⟩) n bs) (hm : m ≤ n) : BytesAt w B (some ⟨g, off + m, none⟩) (n - m) (bs.drop m) := by
  refine ⟨by rw [List.length_drop, h.1], fun hn => ?_⟩
  obtain ⟨b, off', e, hlt, hc⟩ := h.2 (by omega)
  cases e
  refine ⟨g, off + m, rfl, hlt, fun i hi => ?_⟩
  rw [List.length_drop] at hi
  rw [List.getElem_drop, Nat.add_assoc, hc (m + i) (by omega)]
theorem bytes_drewN {w : World} {B n : Nat} {a : Option Addr} {bs : List UInt8} (h : BytesAt w B a n bs) (q : Nat) : BytesAt (w.drewN q) B a n bs :=
  ⟨h.1, fun hn => by
    obtain ⟨b, off, e, hlt, hc⟩ := h.2 hn
    refine ⟨b, off, e, hlt, fun i hi => ?_⟩
    have hd : ∀ (k : Nat) (W : World) (ad : Addr), (W.drewN k).cell? ad = W.cell? ad := by
      intro k
      induction k with
      | zero => intro W ad; rfl
      | succ k ih => intro W ad; rw [World.drewN]; first | exact (ih _ ad).trans rfl | exact ih W ad
    rw [hd]
    exact hc i hi⟩
theorem own_zero {w : World} {g m : Nat} (hg : w.heap[g]? = some (.cells (bcells (List.replicate m 0)).toArray 5 (0, 0))) (hm : m ≤ maxLen) : w.ownsRow g 5 1 (.slice (some ⟨g, 0, none⟩) 0 m) 0 (bcells []) := by
  have h := own_part (base := g) (n := 0) hg (Nat.le_refl _) (by rw [bcells_length, List.length_replicate]) (Nat.zero_le _) hm
  simpa [bcells] using h

theorem belowDrewN' {k : Nat} {w w' : World} (h : Below k w w') (n : Nat) : Below k w (w'.drewN n) := ⟨h.os, h.tape, h.output, h.size, fun j hj => h.block j hj⟩
theorem size_drewN' (w : World) (n : Nat) : (w.drewN n).heap.size = w.heap.size := rfl
theorem own_nil2 {w : World} {base e n c k : Nat} {xs : List Value} (h : w.ownsRow base e 1 (.slice none n c) k xs) : n = 0 ∧ c = 0 := by
  rcases h.2 with ⟨hv, _⟩ | ⟨g', cap, cur, hv, _⟩
  · injection hv with _ h2 h3; exact ⟨h2, h3⟩
  · cases hv
theorem own_none {w : World} {base e n c k : Nat} {a : Option Addr} {xs : List Value} (h : w.ownsRow base e 1 (.slice a n c) k xs) : a = none → n = 0 ∧ c = 0 := fun ha => by subst ha; exact own_nil2 h
/-- A call has answered some bytes and an error. -/
def ReadPost (err : Nat) (out : List UInt8) (w : World) (e : Ending) (w' : World) : Prop :=
  ∃ a n c, e = .returned (.tuple #[.slice a n c, .int .i64 (err : Int)]) ∧ BytesAt w' w'.heap.size a n out ∧ (a = none → n = 0 ∧ c = 0) ∧ Below w.heap.size w w'
theorem conv_all (s : ByteArray) (n : Nat) (out : List UInt8) (hn : s.size = n) (ho : s.data.toList = out) : ∃ (wf : World → World) (cf : World → Nat), ∀ W, (convert 9 22 (.string s)).run Try.prog W = .ok (.slice (some ⟨W.heap.size, 0, none⟩) n (cf W)) (wf W) ∧
    BytesAt (wf W) (wf W).heap.size (some ⟨W.heap.size, 0, none⟩) n out ∧ Below W.heap.size W (wf W) := by
  subst hn ho
  have h0 := fun W => conv_string s W
  refine ⟨fun W => (h0 W).choose, fun W => (h0 W).choose_spec.choose, fun W => ?_⟩
  obtain ⟨h1, h2, h3, h4⟩ := (h0 W).choose_spec.choose_spec
  exact ⟨h1, conv_bytesAt h2 h4, h3⟩
/-- A call has answered some bytes of its own. -/
def RowPost (out : List UInt8) (w : World) (e : Ending) (w' : World) : Prop :=
  ∃ a n c, e = .returned (.slice a n c) ∧ w'.ownsRow w.heap.size 5 1 (.slice a n c) out.length (bcells out) ∧ Below w.heap.size w w'

end Go.Proofs.Ytfgkodgdoplpbab
