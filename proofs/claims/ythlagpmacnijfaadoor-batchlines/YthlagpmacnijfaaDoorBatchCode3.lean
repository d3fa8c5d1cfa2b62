/- The contract of batch.write. -/
import Derived.Test.YthlagpmacnijfaaDoorBatchTabs
import Derived.Test.YthlagpmacnijfaaDoorBatchBits
import Derived.Test.YthlagpmacnijfaaDoorBatchSetBlk
import Derived.Test.YthlagpmacnijfaaDoorNetCode2
import Derived.Test.YthlagpmacnijfaaDoorBatchPlain5
namespace Go.Proofs.YthlagpmacnijfaaDoor
open Go.RowKit

theorem strOf_ofT (l : List UInt8) : strOf l = Ln.ofT l := rfl
/-- What the table says of one kind. -/
theorem ShapeTab.at {w : World} (h : ShapeTab w) (k : Nat) (hk : k < 11) (n f : Nat) (hn : n = k * 2 + 1) (hf : f = Bt.fld (k : Int)) : w.cell? ⟨0, n, none⟩ = some (.int .i64 (f : Int)) := by
  rw [hn, hf]
  exact (h.2 k hk).2
set_option maxRecDepth 20000 in
set_option maxHeartbeats 4000000 in
theorem write_none (k : Int) (hk : k = 3 ∨ k = 5 ∨ k = 9) (t : ByteArray) (n : Int) (a : Nat) (b : Int) (w : World) (hT : ShapeTab w) :
    Calls Tryd.prog 26 #[setV ⟨k, t, n, a, b⟩] w fun e w' => e = .returned (.string Bt.isTrue) ∧ Below w.heap.size w w' := by
  have hlt := hT.1
  have HB : Hid (∀ o, Below w.heap.size w (w.alloc o)) := Lib.hid fun o => (Below.refl _ _).alloc (Nat.le_refl _) _
  unfold setV
  rcases hk with rfl | rfl | rfl
  · have c := hT.at 3 (by decide) 7 0 rfl rfl
    clear hT
    go_enter Tryd.func26, Tryd.ntmps26
    go_wp2
    go_ret
    exact ⟨rfl, HB.out _⟩
  · have c := hT.at 5 (by decide) 11 0 rfl rfl
    clear hT
    go_enter Tryd.func26, Tryd.ntmps26
    go_wp2
    go_ret
    exact ⟨rfl, HB.out _⟩
  · have c := hT.at 9 (by decide) 19 0 rfl rfl
    clear hT
    go_enter Tryd.func26, Tryd.ntmps26
    go_wp2
    go_ret
    exact ⟨rfl, HB.out _⟩
set_option maxRecDepth 20000 in
set_option maxHeartbeats 4000000 in
theorem write_text (k : Int) (hk : k = 1 ∨ k = 4 ∨ k = 7) (t : ByteArray) (n : Int) (a : Nat) (b : Int) (w : World) (hT : ShapeTab w) :
    Calls Tryd.prog 26 #[setV ⟨k, t, n, a, b⟩] w fun e w' => e = .returned (.string t) ∧ Below w.heap.size w w' := by
  have hlt := hT.1
  have HB : Hid (∀ o, Below w.heap.size w (w.alloc o)) := Lib.hid fun o => (Below.refl _ _).alloc (Nat.le_refl _) _
  unfold setV
  rcases hk with rfl | rfl | rfl
  · have c := hT.at 1 (by decide) 3 1 rfl rfl
    clear hT
    go_enter Tryd.func26, Tryd.ntmps26
    go_wp2
    go_ret
    exact ⟨rfl, HB.out _⟩
  · have c := hT.at 4 (by decide) 9 1 rfl rfl
    clear hT
    go_enter Tryd.func26, Tryd.ntmps26
    go_wp2
    go_ret
    exact ⟨rfl, HB.out _⟩
  · have c := hT.at 7 (by decide) 15 1 rfl rfl
    clear hT
    go_enter Tryd.func26, Tryd.ntmps26
    go_wp2
    go_ret
    exact ⟨rfl, HB.out _⟩
set_option maxRecDepth 20000 in
set_option maxHeartbeats 4000000 in
theorem write_shared (t : ByteArray) (n : Int) (a : Nat) (b : Int) (w : World) (hT : ShapeTab w) :
    Calls Tryd.prog 26 #[setV ⟨6, t, n, a, b⟩] w fun e w' => e = .returned (.string (if t.size = 0 then Bt.zeros else t)) ∧ Below w.heap.size w w' := by
  have hlt := hT.1
  have HB : Hid (∀ o, Below w.heap.size w (w.alloc o)) := Lib.hid fun o => (Below.refl _ _).alloc (Nat.le_refl _) _
  have c := hT.at 6 (by decide) 13 1 rfl rfl
  unfold setV
  clear hT
  by_cases h0 : t.size = 0
  · have te : t.toList.isEmpty = true := by rw [empty_size, decide_eq_true h0]
    rw [if_pos h0, Bt.zeros_lit]
    clear h0
    go_enter Tryd.func26, Tryd.ntmps26
    go_wp2
    go_ret
    exact ⟨rfl, HB.out _⟩
  · have te : t.toList.isEmpty = false := by rw [empty_size, decide_eq_false h0]
    rw [if_neg h0]
    clear h0
    go_enter Tryd.func26, Tryd.ntmps26
    go_wp2
    go_ret
    exact ⟨rfl, HB.out _⟩
set_option maxRecDepth 20000 in
set_option maxHeartbeats 4000000 in
theorem write_num (k : Int) (hk : k = 2 ∨ k = 8) (t : ByteArray) (n : Int) (a : Nat) (b : Int) (w : World) (hn0 : -9223372036854775808 ≤ n) (hn1 : n ≤ 9223372036854775807) (hT : BTabs w) :
    Calls Tryd.prog 26 #[setV ⟨k, t, n, a, b⟩] w fun e w' => e = .returned (.string (Ln.ofT (Lib.itoa n))) ∧ Below w.heap.size w w' := by
  have hlt := hT.2.1
  have HB : Hid (∀ o, Below w.heap.size w (w.alloc o)) := Lib.hid fun o => (Below.refl _ _).alloc (Nat.le_refl _) _
  have HI := Lib.hid (fun W hW => lib_Itoa n W hn0 hn1 (hT.1.1.below hW))
  unfold setV
  rw [← strOf_ofT]
  have hx : (⟨(Lib.itoa n).toArray⟩ : ByteArray) = strOf (Lib.itoa n) := rfl
  rw [hx] at HI
  generalize strOf (Lib.itoa n) = X at *
  clear hx
  rcases hk with rfl | rfl
  · have c := hT.2.at 2 (by decide) 5 2 rfl rfl
    clear hT hn0 hn1
    go_enter Tryd.func26, Tryd.ntmps26
    go_wp2_with fail
    refine (HI.out _ (HB.out _)).mono ?_
    rintro e w2 ⟨rfl, hb2⟩
    have hb := (HB.out _).trans (hb2.mono (HB.out _).size)
    clear hb2
    go_wp2
    go_ret
    exact ⟨rfl, hb⟩
  · have c := hT.2.at 8 (by decide) 17 2 rfl rfl
    clear hT hn0 hn1
    go_enter Tryd.func26, Tryd.ntmps26
    go_wp2_with fail
    refine (HI.out _ (HB.out _)).mono ?_
    rintro e w2 ⟨rfl, hb2⟩
    have hb := (HB.out _).trans (hb2.mono (HB.out _).size)
    clear hb2
    go_wp2
    go_ret
    exact ⟨rfl, hb⟩
set_option maxRecDepth 20000 in
set_option maxHeartbeats 4000000 in
theorem write_net (t : ByteArray) (n : Int) (a : Nat) (b : Int) (w : World) (ha : a < 4294967296) (hb0 : -9223372036854775808 ≤ b) (hb1 : b ≤ 9223372036854775807) (hT : BTabs w) :
    Calls Tryd.prog 26 #[setV ⟨10, t, n, a, b⟩] w fun e w' => e = .returned (.string (Ln.ofT (Nt.textOut a b))) ∧ Below w.heap.size w w' := by
  have hlt := hT.2.1
  have HB : Hid (∀ o, Below w.heap.size w (w.alloc o)) := Lib.hid fun o => (Below.refl _ _).alloc (Nat.le_refl _) _
  have HI := Lib.hid (fun W hW => net_Text a b W ha hb0 hb1 (hT.1.below hW))
  have c := hT.2.at 10 (by decide) 21 3 rfl rfl
  unfold setV
  unfold netV at HI
  rw [← strOf_ofT]
  generalize strOf (Nt.textOut a b) = X at *
  generalize Nt.err a b = r at *
  clear hT hb0 hb1
  go_enter Tryd.func26, Tryd.ntmps26
  go_wp2_with fail
  refine (HI.out _ (HB.out _)).mono ?_
  rintro e w2 ⟨rfl, hb2⟩
  have hb := (HB.out _).trans (hb2.mono (HB.out _).size)
  clear hb2
  go_wp2
  go_ret
  exact ⟨rfl, hb⟩
/-- The value of a right setting's line. -/
theorem batch_write (s : Bt.S) (w : World) (h1 : 1 ≤ s.k) (h2 : s.k ≤ 10) (ha : s.a < 4294967296) (hn0 : -9223372036854775808 ≤ s.n) (hn1 : s.n ≤ 9223372036854775807) (hb0 : -9223372036854775808 ≤ s.b) (hb1 : s.b ≤ 9223372036854775807) (hT : BTabs w) :
    Calls Tryd.prog 26 #[setV s] w fun e w' => e = .returned (.string (Bt.val s)) ∧ Below w.heap.size w w' := by
  obtain ⟨k, t, n, a, b⟩ := s
  simp only at h1 h2 ha hn0 hn1 hb0 hb1
  rcases Bt.fld_cases k h1 h2 with rfl | rfl | rfl | rfl | rfl | rfl | rfl | rfl | rfl | rfl
  · exact write_text 1 (by omega) t n a b w hT.2
  · exact write_num 2 (by omega) t n a b w hn0 hn1 hT
  · exact write_none 3 (by omega) t n a b w hT.2
  · exact write_text 4 (by omega) t n a b w hT.2
  · exact write_none 5 (by omega) t n a b w hT.2
  · have := write_shared t n a b w hT.2
    have e : Bt.val ⟨6, t, n, a, b⟩ = if t.size = 0 then Bt.zeros else t := Bt.val_six rfl
    rw [e]
    exact this
  · exact write_text 7 (by omega) t n a b w hT.2
  · exact write_num 8 (by omega) t n a b w hn0 hn1 hT
  · exact write_none 9 (by omega) t n a b w hT.2
  · exact write_net t n a b w ha hb0 hb1 hT
end Go.Proofs.YthlagpmacnijfaaDoor
