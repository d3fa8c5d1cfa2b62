/- Words of 32 bits as values of the program, and what its operations make of them. -/
import Derived.Test.YthknkfiofdfogaaDoorRows
import Derived.Test.YthknkfiofdfogaaDoorShaWords
import Derived.Test.YthknkfiofdfogaaDoorMem2
namespace Go.Proofs.YthknkfiofdfogaaDoor
open Go.RowKit

/-- A word as a value. Kept shut, so that the walk reckons with words and not with numbers. -/
def U (x : BitVec 32) : Value := .int .u32 (x.toNat : Int)
theorem U_def (x : BitVec 32) : U x = .int .u32 (x.toNat : Int) := rfl
theorem U_mk {n : Int} (x : BitVec 32) (h : n = (x.toNat : Int)) : Value.int .u32 n = U x := by rw [h]; rfl
theorem wrap_word (n : Nat) : IntKind.u32.wrap (n : Int) = ((n % 4294967296 : Nat) : Int) := by rw [IntKind.wrap_u32]; omega
theorem ofInt_word (x : BitVec 32) : BitVec.ofInt 32 (x.toNat : Int) = x := by rw [BitVec.ofInt_natCast]; simp

@[go_sem] theorem binOp_add_U (t : TypeId) (x y : BitVec 32) : binOp .add t (U x) (U y) = pure (U (x + y)) := by
  rw [U_def, U_def, binOp_add]
  have : IntKind.u32.wrap ((x.toNat : Int) + (y.toNat : Int)) = (((x + y).toNat : Nat) : Int) := by
    rw [← Int.natCast_add, wrap_word, BitVec.toNat_add]
  rw [U_def, ← this]
  rfl
theorem wrap_self (z : BitVec 32) : IntKind.u32.wrap (z.toNat : Int) = (z.toNat : Int) := by
  have hz := z.isLt
  rw [wrap_word, Nat.mod_eq_of_lt (by simpa using hz)]
theorem bits_and_word (x y : BitVec 32) : bits .and .u32 (x.toNat : Int) (y.toNat : Int) = ((x &&& y).toNat : Int) := by
  show IntKind.u32.wrap ((BitVec.ofInt 32 (x.toNat : Int) &&& BitVec.ofInt 32 (y.toNat : Int)).toNat : Int) = _
  rw [ofInt_word, ofInt_word, wrap_self]
theorem bits_or_word (x y : BitVec 32) : bits .or .u32 (x.toNat : Int) (y.toNat : Int) = ((x ||| y).toNat : Int) := by
  show IntKind.u32.wrap ((BitVec.ofInt 32 (x.toNat : Int) ||| BitVec.ofInt 32 (y.toNat : Int)).toNat : Int) = _
  rw [ofInt_word, ofInt_word, wrap_self]
theorem bits_xor_word (x y : BitVec 32) : bits .xor .u32 (x.toNat : Int) (y.toNat : Int) = ((x ^^^ y).toNat : Int) := by
  show IntKind.u32.wrap ((BitVec.ofInt 32 (x.toNat : Int) ^^^ BitVec.ofInt 32 (y.toNat : Int)).toNat : Int) = _
  rw [ofInt_word, ofInt_word, wrap_self]
@[go_sem] theorem binOp_and_U (t : TypeId) (x y : BitVec 32) : binOp .and t (U x) (U y) = pure (U (x &&& y)) := by
  rw [U_def, U_def, binOp_and, intBits_and, bits_and_word]; rfl
@[go_sem] theorem binOp_or_U (t : TypeId) (x y : BitVec 32) : binOp .or t (U x) (U y) = pure (U (x ||| y)) := by
  rw [U_def, U_def, binOp_or, intBits_or, bits_or_word]; rfl
@[go_sem] theorem binOp_xor_U (t : TypeId) (x y : BitVec 32) : binOp .xor t (U x) (U y) = pure (U (x ^^^ y)) := by
  rw [U_def, U_def, binOp_xor, intBits_xor, bits_xor_word]; rfl
@[go_sem] theorem binOp_shr_U (t : TypeId) (x : BitVec 32) (yk : IntKind) (n : Int) (h0 : 0 ≤ n) (h1 : n ≤ 32) : binOp .shr t (U x) (.int yk n) = pure (U (x >>> n.toNat)) := by
  rw [U_def, binOp_shr, shift_shr .u32 yk _ n h0 h1, U_def, BitVec.toNat_ushiftRight, Nat.shiftRight_eq_div_pow]
  simp only [Int.natCast_ediv, Int.natCast_pow]
  rfl
@[go_sem] theorem binOp_shl_U (t : TypeId) (x : BitVec 32) (yk : IntKind) (n : Int) (h0 : 0 ≤ n) (h1 : n ≤ 32) : binOp .shl t (U x) (.int yk n) = pure (U (x <<< n.toNat)) := by
  rw [U_def, binOp_shl, shift_shl .u32 yk _ n h0 h1, U_def, BitVec.toNat_shiftLeft, Nat.shiftLeft_eq]
  have : (x.toNat : Int) * 2 ^ n.toNat = ((x.toNat * 2 ^ n.toNat : Nat) : Int) := by simp only [Int.natCast_mul, Int.natCast_pow]; rfl
  rw [this, wrap_word]
@[go_sem] theorem unary_xor_U (x : BitVec 32) : Op.unary .xor (U x) = pure (U (~~~x)) := by
  have e : Op.unary .xor (U x) = Op.intBits .xor .u32 ((BitVec.allOnes 32).toNat : Int) (x.toNat : Int) := by
    rw [U_def]; rfl
  rw [e, intBits_xor, bits_xor_word, U_def, BitVec.not_def]
section
variable {P : Program} (w : World)
@[go_sem] theorem run_storeCells_U (a : Addr) (x : BitVec 32) : (storeCells a [U x]).run P w = stored P w a (U x) .plain := by
  have ha : a.add 0 = a := by unfold Addr.add; split <;> simp_all
  simp only [storeCells, ha, Sem.run_bind, run_store P w a (U x) _ rfl, Sem.run_pure, stored]
  cases w.cell? a with
  | some v => dsimp only; split <;> rfl
  | none =>
    dsimp only
    cases World.farStore P w a (U x) (Mode.plain == Mode.atomic) with
    | ok p => rfl
    | error h => rfl
@[go_sem] theorem run_store_U (a : Addr) (m : Mode) (x : BitVec 32) : (store a (U x) m).run P w = stored P w a (U x) m := run_store P w a _ m rfl
end
@[go_sem] theorem cells_U (x : BitVec 32) : (U x).cells = #[U x] := rfl
@[go_sem] theorem cells_match_U (x : BitVec 32) : Value.cells.match_1 (fun _ => Array Value) (U x) (fun cs => cs) (fun v => #[v]) = #[U x] := rfl
@[go_sem] theorem one_U (x : BitVec 32) : (U x).oneCell' = true := rfl

theorem rot_amount : ∀ n : Nat, n < 32 → 0 < n → bits .and .u64 (IntKind.u64.wrap (-(n : Int))) 31 = 32 - (n : Int) := by decide +kernel
set_option maxHeartbeats 400000 in
theorem bits_Rotate (x : BitVec 32) (n : Nat) (h0 : 0 < n) (h1 : n < 32) (w : World) :
    Calls Tryd.prog 65 #[U x, .int .i64 (-(n : Int))] w fun e w' => e = .returned (U (Sh.rotr x n)) ∧ w = w' := by
  have hs := rot_amount n h1 h0
  have hl : binOp .shl 69 (U x) (.int .u64 (32 - (n : Int))) = pure (U (x <<< (32 - n))) := by
    rw [binOp_shl_U _ _ _ _ (by omega) (by omega), show (32 - (n : Int)).toNat = 32 - n by omega]
  have hr : binOp .shr 69 (U x) (.int .u64 (n : Int)) = pure (U (x >>> n)) := by
    rw [binOp_shr_U _ _ _ _ (by omega) (by omega), Int.toNat_natCast]
  have b1 : (32 - (32 - (n : Int))) = (n : Int) := by omega
  have b2 : (n : Int) ≤ 32 := by omega
  go_enter Tryd.func65, Tryd.ntmps65
  go_wp2
  go_ret
  exact ⟨rfl, rfl⟩

set_option maxHeartbeats 400000 in
theorem sha_right (x : BitVec 32) (n : Int) (w : World) (h0 : 0 < n) (h1 : n < 32) :
    Calls Tryd.prog 67 #[U x, .int .i64 n] w fun e w' => e = .returned (U (Sh.rotr x n.toNat)) ∧ w = w' := by
  obtain ⟨k, rfl⟩ : ∃ k : Nat, n = (k : Int) := ⟨n.toNat, by omega⟩
  rw [Int.toNat_natCast]
  go_enter Tryd.func67, Tryd.ntmps67
  go_wp2_with (go_at_call 65; refine (bits_Rotate _ _ (by omega) (by omega) _).mono ?_; rintro e w' ⟨rfl, rfl⟩)
  go_ret
  exact ⟨rfl, rfl⟩
end Go.Proofs.YthknkfiofdfogaaDoor
