/- The contract of sha.digest. -/
import Derived.Test.YthknkfiofdfogaaDoorArr
namespace Go.Proofs.YthknkfiofdfogaaDoor
open Go.RowKit

/-- The lowest byte of a word. -/
def lowByte (y : BitVec 32) : UInt8 := UInt8.ofNat y.toNat
@[go_sem] theorem run_convert_low (y : BitVec 32) (w : World) : (convert 69 5 (U y)).run Tryd.prog w = .ok (.int .u8 ((lowByte y).toNat : Int)) w := by
  have := run_convert_int (P := Tryd.prog) w 69 5 .u32 (y.toNat : Int) (by rw [Tryd.underlying69]; rfl) (by rw [Program.intKind, Tryd.underlying5])
  rw [U_def, this, Program.intKind, Tryd.underlying5]
  show Result.ok (Value.int .u8 (IntKind.u8.wrap (y.toNat : Int))) w = _
  rw [IntKind.wrap_u8]
  unfold lowByte
  rw [UInt8.toNat_ofNat']
  rfl
theorem be4_low (x : BitVec 32) : [lowByte (x >>> 24), lowByte (x >>> 16), lowByte (x >>> 8), lowByte x] = Sh.be4 x := by
  unfold lowByte Sh.be4
  rw [BitVec.toNat_ushiftRight, BitVec.toNat_ushiftRight, BitVec.toNat_ushiftRight, Nat.shiftRight_eq_div_pow, Nat.shiftRight_eq_div_pow, Nat.shiftRight_eq_div_pow]
theorem run_index_words (st : List (BitVec 32)) (k : Nat) (w : World) (h8 : st.length = 8) (hk : k < 8) : (Instr.index 80 (.agg (wcells st).toArray) (.int .i64 (k : Int))).run Tryd.prog w = .ok (U (st.getD k 0)) w := by
  obtain ⟨i0, hi, hz0, hz1, hz2⟩ := info_parts (P := Tryd.prog) (e := 69) (z := .int .u32 0) (size := 1) (bytes := 4) (by kernel_rfl)
  have hg := wcells_getD st k (by omega)
  simp [Instr.index, asIntOf, run_underlying Tryd.underlying80, run_underlying Tryd.underlying69, part, isAgg, sizeOf, typeInfo, hi, hz1, hg]
  omega
theorem wpL_index_arr {w : World} {ops : Array Oper} {rest : List Oper} {o : Oper} {a : Act} {Q : Exit → Act → World → Prop} (hgd : o.guard = none) (x ix : Operand) (ho : o.op = .index 80 x ix) (st : List (BitVec 32)) (k : Nat) (X : BitVec 32) (hX : X = st.getD k 0)
    (hx : a.eval x = .agg (wcells st).toArray) (hix : a.eval ix = .int .i64 (k : Int)) (h8 : st.length = 8) (hk : k < 8)
    (h : wpList Tryd.prog ops Q rest (a.put o.dst (U X)) w) : wpList Tryd.prog ops Q (o :: rest) a w := by
  subst hX
  refine wpList_plain hgd fun K hK => ?_
  unfold Oper.wp execOp
  simp only [ho, hx, hix, run_index_words st k w h8 hk, Sem.run_bind, Sem.run_pure, Result.andThen_ok]
  exact hK _ _ h
def DigAt (st : List (BitVec 32)) (w : World) (k : Nat) (v : Value) (wr : World) : Prop :=
  ∃ a n c, v = .slice a n c ∧ n = 4 * k ∧ wr.ownsRow w.heap.size 5 1 (.slice a n c) n (bcells (Sh.digest (st.take k)))
theorem dig_cells (st : List (BitVec 32)) (k : Nat) (h : k < st.length) : bcells (Sh.digest (st.take k)) ++ [.int .u8 ((lowByte (st.getD k 0 >>> 24)).toNat : Int), .int .u8 ((lowByte (st.getD k 0 >>> 16)).toNat : Int), .int .u8 ((lowByte (st.getD k 0 >>> 8)).toNat : Int), .int .u8 ((lowByte (st.getD k 0)).toNat : Int)] = bcells (Sh.digest (st.take (k + 1))) := by
  rw [List.take_succ_eq_append_getElem h, Sh.digest_append, bcells_append]
  congr 1
  have e : st.getD k 0 = st[k] := by rw [List.getD_eq_getElem?_getD, List.getElem?_eq_getElem h]; rfl
  rw [e, show Sh.digest [st[k]] = Sh.be4 st[k] from by simp [Sh.digest], ← be4_low]
  rfl
def SlicePost1 (out : List UInt8) (w : World) (e : Ending) (w' : World) : Prop :=
  ∃ a n c, e = .returned (.slice a n c) ∧ n = out.length ∧ w'.ownsRow w.heap.size 5 1 (.slice a n c) n (bcells out) ∧ Below w.heap.size w w'

set_option maxRecDepth 100000 in
set_option maxHeartbeats 1000000 in
theorem sha_digest (st : List (BitVec 32)) (w : World) (h8 : st.length = 8) :
    Calls Tryd.prog 57 #[.agg (wcells st).toArray] w (SlicePost1 (Sh.digest st) w) := by
  have H8 := Lib.hid h8
  clear h8
  obtain ⟨i0, hi, hz0, hz1, hz2⟩ := info_u8
  go_enter Tryd.func57, Tryd.ntmps57
  go_wp2_with (at_make; refine wpList_make_own _ rfl _ _ 22 rfl w.heap.size 5 i0 (.int .u8 0) 1 Tryd.underlying22 hi hz0 hz1 _ _ _ 32 rfl rfl ?m1 ?m2 ?m3 ?m4 ?_)
  case m1 => rfl
  case m2 => rw [hz2]; decide
  case m3 => decide
  case m4 => simp
  intro w1 hown hgrow
  have hA0 : ArrAt w1 w.heap.size 80 st := (ArrAt.new w 80 _ _ rfl).grown hgrow (by simp)
  have hb1 : Below w.heap.size w w1 := ((Below.refl _ _).alloc (Nat.le_refl _) _).grown hgrow (by simp) (fun k h => by cases h)
  have hD : DigAt st w 0 (.slice (some ⟨w.heap.size + 1, 0, none⟩) 0 32) w1 := ⟨_, _, _, rfl, rfl, by simpa [Sh.digest, bcells] using hown⟩
  clear hown hgrow hi hz0 hz1 hz2
  go_wp2_with (with_reducible refine wpL_load_arr (o := ⟨some 7, _, _, _, _, _⟩) rfl 80 69 (.tmp 1) rfl w.heap.size 8 rfl _ hA0 Tryd.underlying80 size_words H8.out ?_)
  go_loopw [3, 8] (fun v i wr => ∃ k : Nat, k ≤ 8 ∧ i = .int .i64 k ∧ DigAt st w k v wr ∧ Below w.heap.size w wr) (fun _ i _ => 8 - (intOf i).toNat)
  case atStart => exact ⟨0, Nat.zero_le _, rfl, hD, hb1⟩
  case round =>
    clear hD hb1 hA0
    obtain ⟨k, hk, rfl, ⟨a, n, c, rfl, hn, ho⟩, hb⟩ := hrel
    have Hn := Lib.hid hn
    have hn' : n ≤ 32 := by omega
    have hz := hb.size
    clear hn
    by_cases hlt : k < 8
    · have Hc := Lib.hid (dig_cells st k (by rw [H8.out]; exact hlt))
      have bk : (k : Int) < 8 := by omega
      obtain ⟨X, hX⟩ : ∃ X, X = st.getD k 0 := ⟨_, rfl⟩
      rw [← hX] at Hc
      have HX := Lib.hid hX
      clear hX
      go_wp2_with (first
        | (with_reducible refine wpL_index_arr (o := ⟨some 10, _, _, _, _, _⟩) rfl (.tmp 7) (.tmp 8) rfl st k X HX.out rfl rfl H8.out hlt ?_)
        | (at_builtin; refine wpL_append8 _ rfl _ _ rfl w.heap.size _ n _ _ rfl (ho.alloc _) _ 4 _ [_, _, _, _] rfl rfl ?e2 (news_new _ _ _) ?e3 ?e4 ?e6 ?_))
      case e2 => intro h; cases h
      case e3 => intro u hu; simp at hu; rcases hu with rfl | rfl | rfl | rfl <;> rfl
      case e4 => omega
      case e6 => simp; omega
      intro a2 c2 w2 ho2 hg2
      rw [Hc.out] at ho2
      have hb2 : Below w.heap.size w w2 := below_own (hb.alloc hz _) (ho.alloc _) hg2 (Nat.le_refl _) (by simp; omega)
      have hD : DigAt st w (k + 1) (.slice a2 (n + 4) c2) w2 := ⟨_, _, _, rfl, by have := Hn.out; omega, ho2⟩
      clear ho ho2 hg2 hb hz
      go_wp2
      go_roundw
      case rel => exact ⟨k + 1, by omega, by go_num, hD, hb2⟩
      case measure => simp [intOf]; omega
    · have hk8 : k = 8 := by omega
      subst hk8
      rw [show ((8 : Nat) : Int) = (8 : Int) from rfl]
      rw [List.take_of_length_le (by rw [H8.out]; omega)] at ho
      have Ho := Lib.hid ho
      clear ho
      go_wp2
      go_ret
      exact ⟨_, _, _, rfl, by rw [Sh.digest_length, H8.out, Hn.out], Ho.out, hb⟩
end Go.Proofs.YthknkfiofdfogaaDoor
