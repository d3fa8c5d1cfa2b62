/- The contract of the program's wire.Decode. -/
import Derived.Test.YtfgkodgdoplpbabWireCode4
import Derived.Test.YtfgkodgdoplpbabPackClone
namespace Go.Proofs.Ytfgkodgdoplpbab
open Go.RowKit

/-- A call has answered a message and an error. -/
def MessPost (err : Nat) (k s r c : Int) (data : List UInt8) (w : World) (e : Ending) (w' : World) : Prop :=
  ∃ a n cap, e = .returned (.tuple #[messV k s r c a n cap, .int .i64 (err : Int)]) ∧ BytesAt w' w'.heap.size a n data ∧ (a = none → n = 0 ∧ cap = 0) ∧ n ≤ cap ∧ Below w.heap.size w w'
theorem messPost_none {err : Nat} {w w' : World} (hb : Below w.heap.size w w') : MessPost err 0 0 0 0 [] w (.returned (.tuple #[.agg #[.int .i64 0, .int .i64 0, .int .i64 0, .int .i64 0, .slice none 0 0], .int .i64 (err : Int)])) w' :=
  ⟨none, 0, 0, rfl, ⟨rfl, fun h => absurd h (by omega)⟩, fun _ => ⟨rfl, rfl⟩, Nat.le_refl _, hb⟩
theorem Wr.early {bs : List UInt8} (h : 4 ≤ bs.length) (e : Nat) (hk : (¬ Wr.Known (Wr.kd bs) ∧ e = 2) ∨ (Wr.Known (Wr.kd bs) ∧ (bs.getD 1 0 ≠ 0 ∨ bs.getD 2 0 ≠ 0 ∨ bs.getD 3 0 ≠ 0) ∧ e = 3) ∨
    (Wr.Known (Wr.kd bs) ∧ ¬ (bs.getD 1 0 ≠ 0 ∨ bs.getD 2 0 ≠ 0 ∨ bs.getD 3 0 ≠ 0) ∧ bs.length < Wr.head (Wr.kd bs) ∧ e = 8)) : Wr.decErr bs = e := by
  unfold Wr.decErr
  rw [if_neg (by omega)]
  rcases hk with ⟨h1, rfl⟩ | ⟨h1, h2, rfl⟩ | ⟨h1, h2, h3, rfl⟩
  · rw [if_pos h1]
  · rw [if_neg (by simpa using h1), if_pos h2]
  · rw [if_neg (by simpa using h1), if_neg h2, if_pos h3]
theorem Wr.late {bs : List UInt8} (h : 4 ≤ bs.length) (h1 : Wr.Known (Wr.kd bs)) (h2 : ¬ (bs.getD 1 0 ≠ 0 ∨ bs.getD 2 0 ≠ 0 ∨ bs.getD 3 0 ≠ 0)) (h3 : Wr.head (Wr.kd bs) ≤ bs.length) :
    Wr.decErr bs = Wr.err (Wr.kd bs) (Wr.rs bs) (Wr.rr bs) (Wr.rc bs) (Wr.rb bs).length := by
  unfold Wr.decErr
  rw [if_neg (by omega), if_neg (by simpa using h1), if_neg h2, if_neg (by omega)]
theorem byte_ne {b : UInt8} (h : b ≠ 0) : ¬ (b.toNat : Int) = 0 := fun e => h (UInt8.toNat_inj.1 (by simpa using e))

set_option maxRecDepth 10000 in
set_option maxHeartbeats 4000000 in
theorem wire_Decode_early (a : Option Addr) (n c : Nat) (bs : List UInt8) (w : World) (h : BytesAt w w.heap.size a n bs) (he : n < 4 ∨ ¬ Wr.Known (Wr.kd bs)) :
    Calls Try.prog 13 #[.slice a n c] w (MessPost (Wr.decErr bs) (Wr.dk bs) (Wr.ds bs) (Wr.dr bs) (Wr.dc bs) (Wr.db bs) w) := by
  have hl := h.1
  have hA : Below w.heap.size w (w.alloc (.cells #[.int .i64 0, .int .i64 0, .int .i64 0, .int .i64 0, .slice none 0 0] 24)) := (Below.refl _ _).alloc (Nat.le_refl _) _
  have hP := Blk.new w 24 [.int .i64 0, .int .i64 0, .int .i64 0, .int .i64 0, .slice none 0 0]
  by_cases h4 : n < 4
  · have he : Wr.decErr bs = 8 := by unfold Wr.decErr; rw [if_pos (by omega)]
    have Hx := Lib.hid (Wr.dec_err bs (by rw [he]; decide))
    have He := Lib.hid he
    have HA := Lib.hid hA
    have HP := Lib.hid hP
    clear he hl h hP hA
    go_enter Try.func13, Try.ntmps13
    go_wp2
    exact bodyPost_ret (ret_cell (load_mess HP.out rfl) Try.results13 rfl rfl) rfl (by rw [He.out, Hx.out.1, Hx.out.2.1, Hx.out.2.2.1, Hx.out.2.2.2.1, Hx.out.2.2.2.2]; exact messPost_none (err := 8) HA.out)
  · have hk : ¬ Wr.Known (Wr.kd bs) := by rcases he with he | he; exact absurd he h4; exact he
    have he : Wr.decErr bs = 2 := Wr.early (by omega) 2 (.inl ⟨hk, rfl⟩)
    obtain ⟨b, off, rfl, b0⟩ := bytes_lt h (k := 0) (by omega)
    rw [Nat.add_zero] at b0
    have hbl : b < w.heap.size := by obtain ⟨_, _, e, hlt, _⟩ := h.2 (by omega); cases e; exact hlt
    have HS : Hid (∀ W, Calls Try.prog 20 #[.int .i64 (Wr.kd bs : Int)] W fun e w' => ∃ y0 y1 y2 y3 y4, e = .returned (.tuple #[.agg #[.int .i64 y0, .int .i64 y1, .int .i64 y2, .int .i64 y3, .int .i64 y4], .bool false]) ∧ Below W.heap.size W w') := Lib.hid (fun W => by
      have := wire_shapeOf (Wr.kd bs) W
      rw [show shapeL (Wr.kd bs) = [.int .i64 0, .int .i64 0, .int .i64 0, .int .i64 0, .int .i64 0] by unfold Wr.Known at hk; unfold shapeL; rw [if_neg (by omega), if_neg (by omega), if_neg (by omega)], decide_eq_false hk] at this
      exact this.mono fun e w' h => ⟨0, 0, 0, 0, 0, h⟩)
    have Hx := Lib.hid (Wr.dec_err bs (by rw [he]; decide))
    have He := Lib.hid he
    have HA := Lib.hid hA
    have HP := Lib.hid hP
    have hx := (bs.getD 0 0).toNat_lt
    have Hkd : Hid ((bs.getD 0 0).toNat = Wr.kd bs) := Lib.hid rfl
    have Hl1 : Hid ((w.alloc (.cells #[.int .i64 0, .int .i64 0, .int .i64 0, .int .i64 0, .slice none 0 0] 24)).heap.size = w.heap.size + 1) := Lib.hid (by simp)
    rw [Hkd.out] at b0 hx
    have i0 : 0 < n := by omega
    clear he hl h hP hA hk
    generalize Wr.kd bs = k at *
    go_enter Try.func13, Try.ntmps13
    go_wp2_with fail
    refine (HS.out _).mono ?_
    rintro e w2 ⟨y0, y1, y2, y3, y4, rfl, hb2⟩
    have hP2 := HP.out.kept hb2
    have hb3 : Below w2.heap.size w2 (w2.alloc (.cells #[.int .i64 y0, .int .i64 y1, .int .i64 y2, .int .i64 y3, .int .i64 y4] 45)) := (Below.refl _ _).alloc (Nat.le_refl _) _
    have hP3 := hP2.kept hb3
    have HB3 := Lib.hid ((HA.out.trans (hb2.mono HA.out.size)).alloc (Nat.le_trans HA.out.size hb2.size) (.cells #[.int .i64 y0, .int .i64 y1, .int .i64 y2, .int .i64 y3, .int .i64 y4] 45))
    clear hP2 hb2 hb3 b0
    obtain ⟨⟨c0, c1, c2, c3, c4⟩, ⟨f0, f1, f2, f3, f4⟩⟩ := hP3.facts5
    have HP3 := Lib.hid (hP3.set5 (.int .i64 0) (.int .i64 0) (.int .i64 0) (.int .i64 0) (.slice none 0 0))
    clear hP3
    go_wp2
    exact bodyPost_ret (ret_cell (load_mess HP3.out rfl) Try.results13 rfl rfl) rfl (by rw [He.out, Hx.out.1, Hx.out.2.1, Hx.out.2.2.1, Hx.out.2.2.2.1, Hx.out.2.2.2.2]; exact messPost_none (err := 2) (below_set5 HB3.out (Nat.le_refl _) _ _ _ _ _))
end Go.Proofs.Ytfgkodgdoplpbab
