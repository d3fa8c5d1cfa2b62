/- More words for memory: make with room; a row at the head of a block that is known whole; xor and or of bytes. -/
import Derived.Test.YtfgkodgdoplpbabRows
import Derived.Test.YtfgkodgdoplpbabMem2
namespace Go.Proofs.Ytfgkodgdoplpbab
open Go.RowKit

/-- The head of a block that is known whole is a row. -/
theorem own_part {w : World} {base g n m : Nat} {e : TypeId} {xs : List Value} (hg : w.heap[g]? = some (.cells xs.toArray e (0, 0))) (hb : base ≤ g) (hn : xs.length = m) (hnm : n ≤ m) (hm : m ≤ maxLen) :
    w.ownsRow base e 1 (.slice (some ⟨g, 0, none⟩) n m) n (xs.take n) :=
  ⟨by rw [List.length_take]; omega, .inr ⟨g, m, xs.toArray, rfl, hb, hg, hnm, hm, by simpa using hn, by simp⟩⟩
/-- make([]byte, n, m). -/
theorem wpL_make8 (w : World) {ops : Array Oper} {rest : List Oper} {o : Oper} {a : Act} {Q : Exit → Act → World → Prop} (hgd : o.guard = none) (l c : Operand)
    (hop : o.op = Op.makeSlice 22 l c) (kl kc : IntKind) (L C : Int) (n m : Nat) (hl : a.eval l = .int kl L) (hc : a.eval c = .int kc C) (hL : L = (n : Int)) (hC : C = (m : Int)) (hnm : n ≤ m) (hb : m ≤ 281474976710656)
    (h : ∀ w', w'.heap[w.heap.size]? = some (.cells (bcells (List.replicate m 0)).toArray 5 (0, 0)) → w.grownBy w' none → wpList Try.prog ops Q rest (a.put o.dst (.slice (some ⟨w.heap.size, 0, none⟩) n m)) w') : wpList Try.prog ops Q (o :: rest) a w := by
  obtain ⟨i, hi, hz0, hz1, hz2⟩ := info_u8
  have hr := run_make (P := Try.prog) w 22 5 i (.int .u8 0) Try.underlying22 hi hz0 kl kc n m (by omega) (by omega) (by rw [hz2]; omega) (by omega)
  simp only [Int.toNat_natCast, hz1, Nat.mul_one] at hr
  have e : (madeCells (Value.int .u8 0).cells m) = (bcells (List.replicate m 0)).toArray := by
    rw [bcells_zero, ← toList_madeCells_one]; rfl
  rw [e] at hr
  subst hL hC
  refine wpList_plain hgd fun K hK => ?_
  unfold Oper.wp
  simp [execOp, hop, hl, hc, hr, Result.andThen]
  exact hK _ _ (h _ (heap_alloc_last w _) (World.grownBy_alloc w _ none))

theorem bytes_lt {w : World} {B n : Nat} {a : Option Addr} {bs : List UInt8} (h : BytesAt w B a n bs) {k : Nat} (hk : k < n) : ∃ b off, a = some ⟨b, off, none⟩ ∧ w.cell? ⟨b, off + k, none⟩ = some (.int .u8 ((bs.getD k 0).toNat : Int)) := by
  obtain ⟨b, off, e, _, hc⟩ := h.2 (by omega)
  have hk' : k < bs.length := by rw [h.1]; exact hk
  exact ⟨b, off, e, by rw [hc k hk', List.getD_eq_getElem?_getD, List.getElem?_eq_getElem hk']; rfl⟩
theorem byte_ofInt (a : UInt8) : (BitVec.ofInt 8 (a.toNat : Int)).toNat = a.toNat := by
  rw [BitVec.ofInt_natCast, BitVec.toNat_ofNat]; exact Nat.mod_eq_of_lt a.toNat_lt
theorem xor_u8 (a b : UInt8) : bits .xor .u8 (a.toNat : Int) (b.toNat : Int) = ((a ^^^ b).toNat : Int) := by
  show IntKind.u8.wrap ((BitVec.ofInt 8 (a.toNat : Int) ^^^ BitVec.ofInt 8 (b.toNat : Int)).toNat : Int) = _
  have h := (a ^^^ b).toNat_lt
  have e : (a ^^^ b).toNat = a.toNat ^^^ b.toNat := UInt8.toNat_xor a b
  rw [BitVec.toNat_xor, byte_ofInt, byte_ofInt, ← e, IntKind.wrap_u8]
  omega
theorem or_u8 (a b : UInt8) : bits .or .u8 (a.toNat : Int) (b.toNat : Int) = ((a ||| b).toNat : Int) := by
  show IntKind.u8.wrap ((BitVec.ofInt 8 (a.toNat : Int) ||| BitVec.ofInt 8 (b.toNat : Int)).toNat : Int) = _
  have h := (a ||| b).toNat_lt
  have e : (a ||| b).toNat = a.toNat ||| b.toNat := UInt8.toNat_or a b
  rw [BitVec.toNat_or, byte_ofInt, byte_ofInt, ← e, IntKind.wrap_u8]
  omega
end Go.Proofs.Ytfgkodgdoplpbab
