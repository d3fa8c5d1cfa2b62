/- The contract of the program's wire.Check. -/
import Derived.Test.YtfgkodgdoplpbabWireCode1
namespace Go.Proofs.Ytfgkodgdoplpbab
open Go.RowKit

theorem shapeL_known {k : Int} (hk : Wr.Known k) : ∃ x0 x1 x2 : Int, (x0 = (Wr.szS k.toNat : Int) ∧ x1 = (Wr.szR k.toNat : Int) ∧ x2 = (Wr.szC k.toNat : Int)) ∧ shapeL k = [.int .i64 x0, .int .i64 x1, .int .i64 x2, .int .i64 (Wr.least k.toNat : Int), .int .i64 (Wr.most k.toNat : Int)] := by
  rcases hk with rfl | rfl | rfl <;> exact ⟨_, _, _, ⟨rfl, rfl, rfl⟩, rfl⟩
theorem Wr.err_lacks {k s r c : Int} {n : Nat} (hk : Wr.Known k) (h : Wr.lacks k s r c = true) : Wr.err k s r c n = 3 := by
  unfold Wr.err
  rw [if_neg (by simpa using hk), if_pos (of_decide_eq_true h)]
theorem Wr.err_off {k s r c : Int} {n : Nat} (hk : Wr.Known k) (h : Wr.lacks k s r c = false) (h2 : Wr.Off s r c) : Wr.err k s r c n = 4 := by
  unfold Wr.err
  rw [if_neg (by simpa using hk), if_neg (of_decide_eq_false h), if_pos h2]
theorem Wr.err_size {k s r c : Int} {n : Nat} (hk : Wr.Known k) (h : Wr.lacks k s r c = false) (h2 : ¬ Wr.Off s r c) (h3 : n < Wr.least k.toNat ∨ Wr.most k.toNat < n) : Wr.err k s r c n = 1 := by
  unfold Wr.err
  rw [if_neg (by simpa using hk), if_neg (of_decide_eq_false h), if_neg h2, if_pos h3]
theorem Wr.err_ok {k s r c : Int} {n : Nat} (hk : Wr.Known k) (h : Wr.lacks k s r c = false) (h2 : ¬ Wr.Off s r c) (h3 : ¬ (n < Wr.least k.toNat ∨ Wr.most k.toNat < n)) : Wr.err k s r c n = 0 := by
  unfold Wr.err
  rw [if_neg (by simpa using hk), if_neg (of_decide_eq_false h), if_neg h2, if_neg h3]

set_option maxHeartbeats 4000000 in
theorem wire_Check (k s r c : Int) (a : Option Addr) (n cap : Nat) (w : World) :
    Calls Try.prog 8 #[messV k s r c a n cap] w fun e w' => e = .returned (.int .i64 (Wr.err k s r c n : Int)) ∧ Below w.heap.size w w' := by
  have hg := Blk.new w 24 [.int .i64 k, .int .i64 s, .int .i64 r, .int .i64 c, .slice a n cap]
  have hA : Below w.heap.size w (w.alloc (.cells #[.int .i64 k, .int .i64 s, .int .i64 r, .int .i64 c, .slice a n cap] 24)) := (Below.refl _ _).alloc (Nat.le_refl _) _
  have c0 := hg.cell 0 rfl
  have HG := Lib.hid hg
  have HA := Lib.hid hA
  have HZ : Hid ((w.alloc (.cells #[.int .i64 k, .int .i64 s, .int .i64 r, .int .i64 c, .slice a n cap] 24)).heap.size = w.heap.size + 1) := Lib.hid (by simp)
  clear hg hA
  by_cases hk : Wr.Known k
  · obtain ⟨x0, x1, x2, hx, hL⟩ := shapeL_known hk
    clear hx
    have HS : Hid (∀ W, Calls Try.prog 20 #[.int .i64 k] W fun e w' => e = .returned (.tuple #[.agg #[.int .i64 x0, .int .i64 x1, .int .i64 x2, .int .i64 (Wr.least k.toNat : Int), .int .i64 (Wr.most k.toNat : Int)], .bool true]) ∧ Below W.heap.size W w') := Lib.hid (fun W => by
      have := wire_shapeOf k W
      rw [hL, decide_eq_true hk] at this
      exact this)
    have HL : Hid (∀ W, Calls Try.prog 21 #[.agg #[.int .i64 x0, .int .i64 x1, .int .i64 x2, .int .i64 (Wr.least k.toNat : Int), .int .i64 (Wr.most k.toNat : Int)], .agg #[.int .i64 k, .int .i64 s, .int .i64 r, .int .i64 c, .slice a n cap]] W fun e w' => e = .returned (.bool (Wr.lacks k s r c)) ∧ Below W.heap.size W w') := Lib.hid (fun W => by
      have := wire_lacks k s r c hk a n cap W
      rw [hL] at this
      exact this)
    have E1 := Lib.hid (Wr.err_lacks (s := s) (r := r) (c := c) (n := n) hk)
    have E2 := Lib.hid (Wr.err_off (s := s) (r := r) (c := c) (n := n) hk)
    have E3 := Lib.hid (Wr.err_size (s := s) (r := r) (c := c) (n := n) hk)
    have E4 := Lib.hid (Wr.err_ok (s := s) (r := r) (c := c) (n := n) hk)
    have W1 := Lib.hid (fun W => wire_within s 4294967295 W)
    have W2 := Lib.hid (fun W => wire_within r 4294967295 W)
    have W3 := Lib.hid (fun W => wire_within c 1099511627776 W)
    have O1 : Hid (Wr.inR s 4294967295 = false → Wr.Off s r c) := Lib.hid (fun h => by have := of_decide_eq_false h; unfold Wr.Off; omega)
    have O2 : Hid (Wr.inR r 4294967295 = false → Wr.Off s r c) := Lib.hid (fun h => by have := of_decide_eq_false h; unfold Wr.Off; omega)
    have O3 : Hid (Wr.inR c 1099511627776 = false → Wr.Off s r c) := Lib.hid (fun h => by have := of_decide_eq_false h; unfold Wr.Off; omega)
    have O4 : Hid (Wr.inR s 4294967295 = true → Wr.inR r 4294967295 = true → Wr.inR c 1099511627776 = true → ¬ Wr.Off s r c) := Lib.hid (fun h1 h2 h3 => by have := of_decide_eq_true h1; have := of_decide_eq_true h2; have := of_decide_eq_true h3; unfold Wr.Off; omega)
    clear hL hk
    generalize Wr.least k.toNat = lo at *
    generalize Wr.most k.toNat = hi at *
    generalize Wr.err k s r c n = E at *
    generalize Wr.inR s 4294967295 = b1 at *
    generalize Wr.inR r 4294967295 = b2 at *
    generalize Wr.inR c 1099511627776 = b3 at *
    generalize Wr.lacks k s r c = bl at *
    unfold messV
    go_enter Try.func8, Try.ntmps8
    go_wp2_with fail
    refine (HS.out _).mono ?_
    rintro e w2 ⟨rfl, hb2⟩
    have hg2 := HG.out.kept hb2
    have hs3 := Blk.new w2 45 [.int .i64 x0, .int .i64 x1, .int .i64 x2, .int .i64 (lo : Int), .int .i64 (hi : Int)]
    have hb3 : Below w2.heap.size w2 (w2.alloc (.cells #[.int .i64 x0, .int .i64 x1, .int .i64 x2, .int .i64 (lo : Int), .int .i64 (hi : Int)] 45)) := (Below.refl _ _).alloc (Nat.le_refl _) _
    have hg3 := hg2.kept hb3
    have hB3 := HA.out.trans ((hb2.trans (hb3.mono hb2.size)).mono HA.out.size)
    have HG3 := Lib.hid hg3
    have HS3 := Lib.hid hs3
    have HB3 := Lib.hid hB3
    clear c0 hg2 hb2 hb3 hB3
    have m0 := hg3.cell 0 rfl
    have m1 := hg3.cell 1 rfl
    have m2 := hg3.cell 2 rfl
    have m3 := hg3.cell 3 rfl
    have m4 := hg3.cell 4 rfl
    have s0 := hs3.cell 0 rfl
    have s1 := hs3.cell 1 rfl
    have s2 := hs3.cell 2 rfl
    have s3 := hs3.cell 3 rfl
    have s4 := hs3.cell 4 rfl
    clear hg3 hs3
    go_wp2_with fail
    refine (HL.out _).mono ?_
    rintro e w4 ⟨rfl, hb4⟩
    have hg4 := HG3.out.kept hb4
    have hs4 := HS3.out.kept hb4
    have HB4 := Lib.hid (HB3.out.trans (hb4.mono HB3.out.size))
    clear m0 m1 m2 m3 m4 s0 s1 s2 s3 s4 hb4
    have m1 := hg4.cell 1 rfl
    have m2 := hg4.cell 2 rfl
    have m3 := hg4.cell 3 rfl
    have m4 := hg4.cell 4 rfl
    have s3 := hs4.cell 3 rfl
    have s4 := hs4.cell 4 rfl
    clear hg4 hs4
    cases bl
    · cases b1
      · go_wp2_with (first | (go_at_call_of 22 (Value.int IntKind.i64 s); refine (W1.out _).mono ?_; rintro e w' ⟨rfl, rfl⟩) | (go_at_call_of 22 (Value.int IntKind.i64 r); refine (W2.out _).mono ?_; rintro e w' ⟨rfl, rfl⟩) | (go_at_call_of 22 (Value.int IntKind.i64 c); refine (W3.out _).mono ?_; rintro e w' ⟨rfl, rfl⟩))
        go_ret
        exact ⟨by rw [E2.out (by trivial) (O1.out (by trivial))]; rfl, HB4.out⟩
      · cases b2
        · go_wp2_with (first | (go_at_call_of 22 (Value.int IntKind.i64 s); refine (W1.out _).mono ?_; rintro e w' ⟨rfl, rfl⟩) | (go_at_call_of 22 (Value.int IntKind.i64 r); refine (W2.out _).mono ?_; rintro e w' ⟨rfl, rfl⟩) | (go_at_call_of 22 (Value.int IntKind.i64 c); refine (W3.out _).mono ?_; rintro e w' ⟨rfl, rfl⟩))
          go_ret
          exact ⟨by rw [E2.out (by trivial) (O2.out (by trivial))]; rfl, HB4.out⟩
        · cases b3
          · go_wp2_with (first | (go_at_call_of 22 (Value.int IntKind.i64 s); refine (W1.out _).mono ?_; rintro e w' ⟨rfl, rfl⟩) | (go_at_call_of 22 (Value.int IntKind.i64 r); refine (W2.out _).mono ?_; rintro e w' ⟨rfl, rfl⟩) | (go_at_call_of 22 (Value.int IntKind.i64 c); refine (W3.out _).mono ?_; rintro e w' ⟨rfl, rfl⟩))
            go_ret
            exact ⟨by rw [E2.out (by trivial) (O3.out (by trivial))]; rfl, HB4.out⟩
          · have E3' := Lib.hid (E3.out rfl (O4.out rfl rfl rfl))
            have E4' := Lib.hid (E4.out rfl (O4.out rfl rfl rfl))
            by_cases h1 : n < lo
            · have H1 := Lib.hid h1
              go_wp2_with (first | (go_at_call_of 22 (Value.int IntKind.i64 s); refine (W1.out _).mono ?_; rintro e w' ⟨rfl, rfl⟩) | (go_at_call_of 22 (Value.int IntKind.i64 r); refine (W2.out _).mono ?_; rintro e w' ⟨rfl, rfl⟩) | (go_at_call_of 22 (Value.int IntKind.i64 c); refine (W3.out _).mono ?_; rintro e w' ⟨rfl, rfl⟩))
              go_ret
              exact ⟨by rw [E3'.out (.inl H1.out)]; rfl, HB4.out⟩
            · by_cases h2 : hi < n
              · have H2 := Lib.hid h2
                go_wp2_with (first | (go_at_call_of 22 (Value.int IntKind.i64 s); refine (W1.out _).mono ?_; rintro e w' ⟨rfl, rfl⟩) | (go_at_call_of 22 (Value.int IntKind.i64 r); refine (W2.out _).mono ?_; rintro e w' ⟨rfl, rfl⟩) | (go_at_call_of 22 (Value.int IntKind.i64 c); refine (W3.out _).mono ?_; rintro e w' ⟨rfl, rfl⟩))
                go_ret
                exact ⟨by rw [E3'.out (.inr H2.out)]; rfl, HB4.out⟩
              · have H1 := Lib.hid h1
                have H2 := Lib.hid h2
                go_wp2_with (first | (go_at_call_of 22 (Value.int IntKind.i64 s); refine (W1.out _).mono ?_; rintro e w' ⟨rfl, rfl⟩) | (go_at_call_of 22 (Value.int IntKind.i64 r); refine (W2.out _).mono ?_; rintro e w' ⟨rfl, rfl⟩) | (go_at_call_of 22 (Value.int IntKind.i64 c); refine (W3.out _).mono ?_; rintro e w' ⟨rfl, rfl⟩))
                go_ret
                exact ⟨by rw [E4'.out (by have := H1.out; have := H2.out; omega)]; rfl, HB4.out⟩
    · go_wp2
      go_ret
      exact ⟨by rw [E1.out (by trivial)]; rfl, HB4.out⟩
  · have HS : Hid (∀ W, Calls Try.prog 20 #[.int .i64 k] W fun e w' => ∃ y0 y1 y2 y3 y4, e = .returned (.tuple #[.agg #[.int .i64 y0, .int .i64 y1, .int .i64 y2, .int .i64 y3, .int .i64 y4], .bool false]) ∧ Below W.heap.size W w') := Lib.hid (fun W => by
      have := wire_shapeOf k W
      rw [show shapeL k = [.int .i64 0, .int .i64 0, .int .i64 0, .int .i64 0, .int .i64 0] by unfold Wr.Known at hk; unfold shapeL; rw [if_neg (by omega), if_neg (by omega), if_neg (by omega)], decide_eq_false hk] at this
      exact this.mono fun e w' h => ⟨0, 0, 0, 0, 0, h⟩)
    have HE : Hid (Wr.err k s r c n = 2) := Lib.hid (by unfold Wr.err; rw [if_pos hk])
    clear hk
    unfold messV
    go_enter Try.func8, Try.ntmps8
    go_wp2_with fail
    refine (HS.out _).mono ?_
    rintro e w2 ⟨y0, y1, y2, y3, y4, rfl, hb2⟩
    have HB : Hid (Below w.heap.size w (w2.alloc (.cells #[.int .i64 y0, .int .i64 y1, .int .i64 y2, .int .i64 y3, .int .i64 y4] 45))) := Lib.hid ((HA.out.trans (hb2.mono HA.out.size)).alloc (Nat.le_trans HA.out.size hb2.size) _)
    go_wp2
    go_ret
    exact ⟨by rw [HE.out]; rfl, HB.out⟩
end Go.Proofs.Ytfgkodgdoplpbab
