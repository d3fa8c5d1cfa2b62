/- What the landed code guesses of a line; nothing of the program is named here. -/
import Derived.Test.YthlagpmacnijfaaGreatDoorSr02
import Derived.Test.YthlagpmacnijfaaGreatDoorBatchPlain
import Derived.Test.YthlagpmacnijfaaGreatDoorBatchBits
import Derived.Test.YthlagpmacnijfaaGreatDoorSr01
import Derived.Test.YthlagpmacnijfaaGreatDoorAddrRef4
import Derived.Test.YthlagpmacnijfaaGreatDoorBatchMem
import Derived.Test.YthlagpmacnijfaaGreatDoorHexWalks
import Derived.Laws.StructEq
import Derived.BigQuiet
import Derived.StillTailTactics
import Derived.Test.YthlagpmacnijfaaGreatDoorRegVals
import Derived.Deep.DeepCutAuto
namespace Go.Proofs.YthlagpmacnijfaaGreatDoor.Bt
open Ln (ofT)

theorem fld_vals : fld 1 = 1 ∧ fld 4 = 1 ∧ fld 6 = 1 ∧ fld 7 = 1 ∧ fld 2 = 2 ∧ fld 8 = 2 ∧ fld 10 = 3 ∧ fld 3 = 0 ∧ fld 5 = 0 ∧ fld 9 = 0 := by decide
theorem empty_of {t : ByteArray} (h : t.size = 0) : t = ⟨#[]⟩ := by
  apply WideShapes.bytes_inj
  have : t.data.toList.length = 0 := by simpa using h
  rw [List.length_eq_zero_iff.1 this]
theorem err_in {s : S} (h : err s = 0) : (1 ≤ s.k ∧ s.k ≤ 10) ∧ more s = false := by
  unfold err at h
  split at h
  · cases h
  · rename_i h1
    split at h
    · cases h
    · rename_i h2
      exact ⟨by omega, by simpa using h2⟩
theorem more_of {s : S} (h : more s = false) : (s.t.size = 0 ∨ fld s.k = 1) ∧ (s.n = 0 ∨ fld s.k = 2) ∧ ((s.a = 0 ∧ s.b = 0) ∨ fld s.k = 3) := by
  unfold more at h
  simp only [Bool.or_eq_false_iff, Bool.and_eq_false_iff, decide_eq_false_iff_not] at h
  omega
theorem err_rest {s : S} (h : err s = 0) : (fld s.k = 2 → 0 ≤ s.n ∧ s.n ≤ 65535) ∧ (fld s.k = 3 → Nt.err s.a s.b = 0) ∧ (s.k = 6 → s.t.size ≠ 0 → s.t ≠ zeros) := by
  obtain ⟨hk, hm⟩ := err_in h
  obtain ⟨f1, f4, f6, f7, f2, f8, f10, f3, f5, f9⟩ := fld_vals
  have he := h
  unfold err at he
  rw [if_neg (by omega), if_neg (by rw [hm]; decide)] at he
  refine ⟨fun hf => ?_, fun hf => ?_, fun h6 h0 hz => ?_⟩
  · rw [if_pos hf] at he
    split at he
    · cases he
    · omega
  · rw [if_neg (by omega), if_pos hf] at he
    exact he
  · rw [h6, f6, if_neg (by decide), if_neg (by decide), if_neg (by decide), if_neg (fun e => h0 e.2), if_pos ⟨rfl, hz⟩] at he
    cases he
theorem itoa_nat {n : Int} (h : 0 ≤ n) : Lib.itoa n = Lib.decDigits n.toNat := by unfold Lib.itoa; rw [if_neg (by omega)]
theorem itoa_inj {n m : Int} (hn : 0 ≤ n) (hm : 0 ≤ m) (h : Lib.itoa n = Lib.itoa m) : n = m := by
  rw [itoa_nat hn, itoa_nat hm] at h
  have h1 := (Ad.dec_good n.toNat).2.1
  have h2 := (Ad.dec_good m.toNat).2.1
  rw [h] at h1
  omega
theorem dec_len5 (u : Nat) (h : u < 100000) : (Lib.decDigits u).length ≤ 5 := by
  by_cases h1 : u < 10
  · rw [Lib.decDigits, dif_pos h1]; simp
  rw [Lib.decDigits, dif_neg h1]
  by_cases h2 : u / 10 < 10
  · rw [Lib.decDigits, dif_pos h2]; simp
  rw [Lib.decDigits, dif_neg h2]
  by_cases h3 : u / 10 / 10 < 10
  · rw [Lib.decDigits, dif_pos h3]; simp
  rw [Lib.decDigits, dif_neg h3]
  by_cases h4 : u / 10 / 10 / 10 < 10
  · rw [Lib.decDigits, dif_pos h4]; simp
  rw [Lib.decDigits, dif_neg h4, Lib.decDigits, dif_pos (by omega)]; simp
theorem num_itoa {n : Int} (h0 : 0 ≤ n) (h1 : n ≤ 65535) : (Ad.numOut (Lib.itoa n) 65535 : Int) = n := by
  obtain ⟨g1, g2⟩ := Ad.num_back (Lib.itoa n) n h0 (by rw [itoa_nat h0]; exact dec_len5 _ (by omega)) rfl
  have he : Ad.numErr (Lib.itoa n) 65535 = 0 := by unfold Ad.numErr; rw [if_pos ⟨g1, by omega⟩]
  unfold Ad.numOut
  rw [if_pos he]
  exact g2.symm
theorem ofT_inj {l m : List UInt8} (h : ofT l = ofT m) : l = m := by
  have := congrArg (fun b : ByteArray => b.data.toList) h
  simpa [ofT] using this
/-- The value of a setting whose kind has a text, and is not the shared key. -/
theorem val_text {s : S} (h : fld s.k = 1) (h6 : s.k ≠ 6) : val s = s.t := by
  unfold val
  rw [if_neg (by omega), if_neg ?_, if_neg ?_, if_neg (fun e => h6 e.1)]
  · intro e
    rw [e] at h
    exact absurd h (by decide)
  · rintro (e | e | e) <;> (rw [e] at h; exact absurd h (by decide))
theorem val_six {s : S} (h : s.k = 6) : val s = if s.t.size = 0 then zeros else s.t := by
  unfold val
  rw [h, show fld 6 = 1 from rfl, if_neg (by decide), if_neg (by decide), if_neg (by decide)]
  by_cases h0 : s.t.size = 0
  · rw [if_pos ⟨rfl, h0⟩, if_pos h0]
  · rw [if_neg (fun e => h0 e.2), if_neg h0]
theorem val_num {s : S} (h : fld s.k = 2) : val s = ofT (Lib.itoa s.n) := by unfold val; rw [if_pos h]
theorem val_net {s : S} (h : s.k = 10) : val s = ofT (Nt.textOut s.a s.b) := by
  unfold val
  rw [h, show fld 10 = 3 from rfl, if_neg (by decide), if_neg (by decide), if_pos rfl]
theorem net_text {a : Nat} {b : Int} (ha : a < 4294967296) (he : Nt.err a b = 0) : Nt.parAddr (Nt.textOut a b) = a ∧ (Nt.parBits (Nt.textOut a b) : Int) = b := by
  obtain ⟨h0, h1, _⟩ := Nt.err_zero he
  obtain ⟨n, rfl⟩ : ∃ n : Nat, b = (n : Int) := ⟨b.toNat, by omega⟩
  unfold Nt.textOut
  rw [if_pos he, Int.toNat_natCast]
  obtain ⟨_, p2, p3⟩ := Nt.par_text ha (by omega) he
  rw [p2, p3]
  exact ⟨rfl, rfl⟩
set_option maxHeartbeats 1000000 in
/-- A kind's settings are told apart by the values of their lines. -/
theorem val_inj {s c : S} (hs : err s = 0) (hc : err c = 0) (hk : s.k = c.k) (ha : s.a < 4294967296) (hca : c.a < 4294967296) (hv : val s = val c) : s = c := by
  obtain ⟨f1, f4, f6, f7, f2, f8, f10, f3, f5, f9⟩ := fld_vals
  obtain ⟨hs1, hs2⟩ := err_in hs
  obtain ⟨hc1, hc2⟩ := err_in hc
  obtain ⟨a1, a2, a3⟩ := more_of hs2
  obtain ⟨b1, b2, b3⟩ := more_of hc2
  obtain ⟨r1, r2, r3⟩ := err_rest hs
  obtain ⟨q1, q2, q3⟩ := err_rest hc
  rw [← hk] at b1 b2 b3 q1 q2 q3
  obtain ⟨k, t, n, a, b⟩ := s
  obtain ⟨k', t', n', a', b'⟩ := c
  simp only at hk hs1 a1 a2 a3 b1 b2 b3 r1 r2 r3 q1 q2 q3 ha hca
  subst hk
  have key : t = t' ∧ n = n' ∧ a = a' ∧ b = b' := by
    have hf : fld k = 0 ∨ fld k = 1 ∨ fld k = 2 ∨ fld k = 3 := by
      rcases fld_cases k hs1.1 hs1.2 with rfl | rfl | rfl | rfl | rfl | rfl | rfl | rfl | rfl | rfl <;> decide
    rcases hf with hf | hf | hf | hf
    · refine ⟨?_, by omega, by omega, by omega⟩
      rw [empty_of (t := t) (by omega), empty_of (t := t') (by omega)]
    · refine ⟨?_, by omega, by omega, by omega⟩
      by_cases h6 : k = 6
      · rw [val_six (s := ⟨k, t, n, a, b⟩) h6, val_six (s := ⟨k, t', n', a', b'⟩) h6] at hv
        simp only at hv
        by_cases h0 : t.size = 0
        · by_cases h0' : t'.size = 0
          · rw [empty_of h0, empty_of h0']
          · rw [if_pos h0, if_neg h0'] at hv
            exact absurd hv.symm (q3 h6 h0')
        · by_cases h0' : t'.size = 0
          · rw [if_neg h0, if_pos h0'] at hv
            exact absurd hv (r3 h6 h0)
          · rw [if_neg h0, if_neg h0'] at hv
            exact hv
      · rw [val_text (s := ⟨k, t, n, a, b⟩) hf h6, val_text (s := ⟨k, t', n', a', b'⟩) hf h6] at hv
        exact hv
    · rw [val_num (s := ⟨k, t, n, a, b⟩) hf, val_num (s := ⟨k, t', n', a', b'⟩) hf] at hv
      refine ⟨?_, itoa_inj (r1 hf).1 (q1 hf).1 (ofT_inj hv), by omega, by omega⟩
      rw [empty_of (t := t) (by omega), empty_of (t := t') (by omega)]
    · have h10 : k = 10 := by
        rcases fld_cases k hs1.1 hs1.2 with rfl | rfl | rfl | rfl | rfl | rfl | rfl | rfl | rfl | rfl <;> first | rfl | (exact absurd hf (by decide))
      rw [val_net (s := ⟨k, t, n, a, b⟩) h10, val_net (s := ⟨k, t', n', a', b'⟩) h10] at hv
      have hv' := ofT_inj hv
      simp only at hv'
      have ht : t = t' := by rw [empty_of (t := t) (by omega), empty_of (t := t') (by omega)]
      have hn : n = n' := by omega
      obtain ⟨p1, p2⟩ := net_text ha (r2 hf)
      obtain ⟨p3, p4⟩ := net_text hca (q2 hf)
      rw [hv'] at p1 p2
      exact ⟨ht, hn, p1.symm.trans p3, p2.symm.trans p4⟩
  obtain ⟨rfl, rfl, rfl, rfl⟩ := key
  rfl
/-- A setting is among the candidates of its line. -/
theorem cand_mem {s : S} (hs : err s = 0) (ha : s.a < 4294967296) : s ∈ cands s.k.toNat (val s) := by
  obtain ⟨f1, f4, f6, f7, f2, f8, f10, f3, f5, f9⟩ := fld_vals
  obtain ⟨hs1, hs2⟩ := err_in hs
  obtain ⟨a1, a2, a3⟩ := more_of hs2
  obtain ⟨r1, r2, r3⟩ := err_rest hs
  have hkk : ((s.k.toNat : Nat) : Int) = s.k := by omega
  unfold cands
  rw [hkk]
  simp only [List.mem_cons, List.not_mem_nil, or_false]
  have hf : fld s.k = 0 ∨ fld s.k = 1 ∨ fld s.k = 2 ∨ fld s.k = 3 := by
    rcases fld_cases s.k hs1.1 hs1.2 with h | h | h | h | h | h | h | h | h | h <;> rw [h] <;> decide
  have ht : fld s.k ≠ 1 → s.t = ⟨#[]⟩ := fun h => empty_of (by omega)
  rcases hf with hf | hf | hf | hf
  · left
    have e1 := ht (by omega)
    obtain ⟨k, t, n, a, b⟩ := s
    simp only at *
    rw [e1]
    congr 1 <;> omega
  · by_cases h6 : s.k = 6
    · by_cases h0 : s.t.size = 0
      · left
        have e1 := empty_of h0
        obtain ⟨k, t, n, a, b⟩ := s
        simp only at *
        rw [e1]
        congr 1 <;> omega
      · right; left
        rw [val_six h6, if_neg h0]
        obtain ⟨k, t, n, a, b⟩ := s
        simp only at *
        congr 1 <;> omega
    · right; left
      rw [val_text hf h6]
      obtain ⟨k, t, n, a, b⟩ := s
      simp only at *
      congr 1 <;> omega
  · right; right; left
    have e1 := ht (by omega)
    have e2 := num_itoa (r1 hf).1 (r1 hf).2
    rw [val_num hf]
    show s = ⟨s.k, ⟨#[]⟩, (Ad.numOut (Lib.itoa s.n) 65535 : Int), 0, 0⟩
    rw [e2]
    obtain ⟨k, t, n, a, b⟩ := s
    simp only at *
    rw [e1]
    congr 1 <;> omega
  · right; right; right
    have h10 : s.k = 10 := by
      rcases fld_cases s.k hs1.1 hs1.2 with h | h | h | h | h | h | h | h | h | h <;> first | exact h | (rw [h] at hf; exact absurd hf (by decide))
    have e1 := ht (by omega)
    obtain ⟨e2, e3⟩ := net_text ha (r2 hf)
    rw [val_net h10]
    show s = ⟨s.k, ⟨#[]⟩, 0, Nt.parAddr (Nt.textOut s.a s.b), (Nt.parBits (Nt.textOut s.a s.b) : Int)⟩
    rw [e2, e3]
    obtain ⟨k, t, n, a, b⟩ := s
    simp only at *
    rw [e1]
    congr 1 <;> omega
/-- Reading the line of a setting gives the setting. -/
theorem of_line {s : S} (hs : err s = 0) (ha : s.a < 4294967296) : ofLine (line s) = (s, 0) := by
  obtain ⟨hs1, hs2⟩ := err_in hs
  have hl : line s = lineOf s := by unfold line; rw [if_pos hs]
  have hkk : kindOf (lineOf s).k = s.k.toNat := kind_of_name _ (by omega) (by omega)
  unfold ofLine
  rw [hl, hkk, if_neg (by omega)]
  have hv : (lineOf s).v = val s := rfl
  rw [hv]
  have hm := cand_mem hs ha
  have hfs : fits (lineOf s) s = true := fits_ok hs hl
  unfold pick1
  cases hf : (cands s.k.toNat (val s)).find? (fits (lineOf s)) with
  | none =>
    have := List.find?_eq_none.1 hf s hm
    exact absurd hfs this
  | some x =>
    have hx := List.find?_some hf
    have hxm := List.mem_of_find?_eq_some hf
    unfold fits at hx
    obtain ⟨x1, x2⟩ := of_decide_eq_true hx
    have hxl : line x = lineOf x := by unfold line; rw [if_pos x1]
    have hxk : x.k = ((s.k.toNat : Nat) : Int) := by
      unfold cands at hxm
      simp only [List.mem_cons, List.not_mem_nil, or_false] at hxm
      rcases hxm with rfl | rfl | rfl | rfl <;> rfl
    have hxa : x.a < 4294967296 := by
      have hp := (par_lt (val s).data.toList).1
      unfold cands at hxm
      simp only [List.mem_cons, List.not_mem_nil, or_false] at hxm
      rcases hxm with rfl | rfl | rfl | rfl
      · show (0 : Nat) < _; omega
      · show (0 : Nat) < _; omega
      · show (0 : Nat) < _; omega
      · exact hp
    have e : x = s := val_inj x1 hs (by omega) hxa ha (by
      rw [hxl] at x2
      exact congrArg Ln.L.v x2)
    rw [e]
end Go.Proofs.YthlagpmacnijfaaGreatDoor.Bt

namespace Go.Proofs.YthlagpmacnijfaaGreatDoor
open Go.RowKit

/-- The table of kinds is there: each kind's key and the number of its field. -/
def ShapeTab (w : World) : Prop := 0 < w.heap.size ∧ ∀ k, k < 11 → w.cell? ⟨0, k * 2, none⟩ = some (.string (Bt.nameOf k)) ∧ w.cell? ⟨0, k * 2 + 1, none⟩ = some (.int .i64 (Bt.fld (k : Int) : Int))
theorem ShapeTab.below {w w' : World} (h : ShapeTab w) (hb : Below w.heap.size w w') : ShapeTab w' :=
  ⟨Nat.lt_of_lt_of_le h.1 hb.size, fun k hk => by
    rw [hb.cell (p := ⟨0, k * 2, none⟩) h.1, hb.cell (p := ⟨0, k * 2 + 1, none⟩) h.1]
    exact h.2 k hk⟩
/-- What the landed code of chapter 12 reads of variables. -/
def BTabs (w : World) : Prop := CodeTabs w ∧ ShapeTab w
theorem BTabs.below {w w' : World} (h : BTabs w) (hb : Below w.heap.size w w') : BTabs w' := ⟨h.1.below hb, h.2.below hb⟩
/-- What the exact laws of chapter 12 read of variables. -/
def ATabs (w : World) : Prop := AllTabs w ∧ ShapeTab w
theorem ATabs.below {w w' : World} (h : ATabs w) (hb : Below w.heap.size w w') : ATabs w' := ⟨h.1.below hb, h.2.below hb⟩
theorem ATabs.code {w : World} (h : ATabs w) : BTabs w := ⟨⟨h.1.1, h.1.2.2⟩, h.2⟩
end Go.Proofs.YthlagpmacnijfaaGreatDoor

namespace Go.Proofs.YthlagpmacnijfaaGreatDoor
open Go.RowKit

theorem strOf_ofT (l : List UInt8) : strOf l = Ln.ofT l := rfl
/-- What the table says of one kind. -/
theorem ShapeTab.at {w : World} (h : ShapeTab w) (k : Nat) (hk : k < 11) (n f : Nat) (hn : n = k * 2 + 1) (hf : f = Bt.fld (k : Int)) : w.cell? ⟨0, n, none⟩ = some (.int .i64 (f : Int)) := by
  rw [hn, hf]
  exact (h.2 k hk).2
set_option maxRecDepth 20000 in
set_option maxHeartbeats 4000000 in
theorem write_none (k : Int) (hk : k = 3 ∨ k = 5 ∨ k = 9) (t : ByteArray) (n : Int) (a : Nat) (b : Int) (w : World) (hT : ShapeTab w) :
    Calls Tryz.prog 28 #[setV ⟨k, t, n, a, b⟩] w fun e w' => e = .returned (.string Bt.isTrue) ∧ Below w.heap.size w w' := by
  have hlt := hT.1
  have HB : Hid (∀ o, Below w.heap.size w (w.alloc o)) := Lib.hid fun o => (Below.refl _ _).alloc (Nat.le_refl _) _
  unfold setV
  rcases hk with rfl | rfl | rfl
  · have c := hT.at 3 (by decide) 7 0 rfl rfl
    clear hT
    go_enter Tryz.func28, Tryz.ntmps28
    go_wp2
    go_ret
    exact ⟨rfl, HB.out _⟩
  · have c := hT.at 5 (by decide) 11 0 rfl rfl
    clear hT
    go_enter Tryz.func28, Tryz.ntmps28
    go_wp2
    go_ret
    exact ⟨rfl, HB.out _⟩
  · have c := hT.at 9 (by decide) 19 0 rfl rfl
    clear hT
    go_enter Tryz.func28, Tryz.ntmps28
    go_wp2
    go_ret
    exact ⟨rfl, HB.out _⟩
set_option maxRecDepth 20000 in
set_option maxHeartbeats 4000000 in
theorem write_text (k : Int) (hk : k = 1 ∨ k = 4 ∨ k = 7) (t : ByteArray) (n : Int) (a : Nat) (b : Int) (w : World) (hT : ShapeTab w) :
    Calls Tryz.prog 28 #[setV ⟨k, t, n, a, b⟩] w fun e w' => e = .returned (.string t) ∧ Below w.heap.size w w' := by
  have hlt := hT.1
  have HB : Hid (∀ o, Below w.heap.size w (w.alloc o)) := Lib.hid fun o => (Below.refl _ _).alloc (Nat.le_refl _) _
  unfold setV
  rcases hk with rfl | rfl | rfl
  · have c := hT.at 1 (by decide) 3 1 rfl rfl
    clear hT
    go_enter Tryz.func28, Tryz.ntmps28
    go_wp2
    go_ret
    exact ⟨rfl, HB.out _⟩
  · have c := hT.at 4 (by decide) 9 1 rfl rfl
    clear hT
    go_enter Tryz.func28, Tryz.ntmps28
    go_wp2
    go_ret
    exact ⟨rfl, HB.out _⟩
  · have c := hT.at 7 (by decide) 15 1 rfl rfl
    clear hT
    go_enter Tryz.func28, Tryz.ntmps28
    go_wp2
    go_ret
    exact ⟨rfl, HB.out _⟩
set_option maxRecDepth 20000 in
set_option maxHeartbeats 4000000 in
theorem write_shared (t : ByteArray) (n : Int) (a : Nat) (b : Int) (w : World) (hT : ShapeTab w) :
    Calls Tryz.prog 28 #[setV ⟨6, t, n, a, b⟩] w fun e w' => e = .returned (.string (if t.size = 0 then Bt.zeros else t)) ∧ Below w.heap.size w w' := by
  have hlt := hT.1
  have HB : Hid (∀ o, Below w.heap.size w (w.alloc o)) := Lib.hid fun o => (Below.refl _ _).alloc (Nat.le_refl _) _
  have c := hT.at 6 (by decide) 13 1 rfl rfl
  unfold setV
  clear hT
  by_cases h0 : t.size = 0
  · have te : t.toList.isEmpty = true := by rw [empty_size, decide_eq_true h0]
    rw [if_pos h0, Bt.zeros_lit]
    clear h0
    go_enter Tryz.func28, Tryz.ntmps28
    go_wp2
    go_ret
    exact ⟨rfl, HB.out _⟩
  · have te : t.toList.isEmpty = false := by rw [empty_size, decide_eq_false h0]
    rw [if_neg h0]
    clear h0
    go_enter Tryz.func28, Tryz.ntmps28
    go_wp2
    go_ret
    exact ⟨rfl, HB.out _⟩
set_option maxRecDepth 20000 in
set_option maxHeartbeats 4000000 in
theorem write_num (k : Int) (hk : k = 2 ∨ k = 8) (t : ByteArray) (n : Int) (a : Nat) (b : Int) (w : World) (hn0 : -9223372036854775808 ≤ n) (hn1 : n ≤ 9223372036854775807) (hT : BTabs w) :
    Calls Tryz.prog 28 #[setV ⟨k, t, n, a, b⟩] w fun e w' => e = .returned (.string (Ln.ofT (Lib.itoa n))) ∧ Below w.heap.size w w' := by
  have hlt := hT.2.1
  have HB : Hid (∀ o, Below w.heap.size w (w.alloc o)) := Lib.hid fun o => (Below.refl _ _).alloc (Nat.le_refl _) _
  have HI := Lib.hid (fun W hW => lib_Itoa n W hn0 hn1 (hT.1.1.below hW))
  unfold setV
  rw [← strOf_ofT]
  have hx : (⟨(Lib.itoa n).toArray⟩ : ByteArray) = strOf (Lib.itoa n) := rfl
  rw [hx] at HI
  generalize strOf (Lib.itoa n) = X at *
  clear hx
  rcases hk with rfl | rfl
  · have c := hT.2.at 2 (by decide) 5 2 rfl rfl
    clear hT hn0 hn1
    go_enter Tryz.func28, Tryz.ntmps28
    go_wp2_with fail
    refine (HI.out _ (HB.out _)).mono ?_
    rintro e w2 ⟨rfl, hb2⟩
    have hb := (HB.out _).trans (hb2.mono (HB.out _).size)
    clear hb2
    go_wp2
    go_ret
    exact ⟨rfl, hb⟩
  · have c := hT.2.at 8 (by decide) 17 2 rfl rfl
    clear hT hn0 hn1
    go_enter Tryz.func28, Tryz.ntmps28
    go_wp2_with fail
    refine (HI.out _ (HB.out _)).mono ?_
    rintro e w2 ⟨rfl, hb2⟩
    have hb := (HB.out _).trans (hb2.mono (HB.out _).size)
    clear hb2
    go_wp2
    go_ret
    exact ⟨rfl, hb⟩
set_option maxRecDepth 20000 in
set_option maxHeartbeats 4000000 in
theorem write_net (t : ByteArray) (n : Int) (a : Nat) (b : Int) (w : World) (ha : a < 4294967296) (hb0 : -9223372036854775808 ≤ b) (hb1 : b ≤ 9223372036854775807) (hT : BTabs w) :
    Calls Tryz.prog 28 #[setV ⟨10, t, n, a, b⟩] w fun e w' => e = .returned (.string (Ln.ofT (Nt.textOut a b))) ∧ Below w.heap.size w w' := by
  have hlt := hT.2.1
  have HB : Hid (∀ o, Below w.heap.size w (w.alloc o)) := Lib.hid fun o => (Below.refl _ _).alloc (Nat.le_refl _) _
  have HI := Lib.hid (fun W hW => net_Text a b W ha hb0 hb1 (hT.1.below hW))
  have c := hT.2.at 10 (by decide) 21 3 rfl rfl
  unfold setV
  unfold netV at HI
  rw [← strOf_ofT]
  generalize strOf (Nt.textOut a b) = X at *
  generalize Nt.err a b = r at *
  clear hT hb0 hb1
  go_enter Tryz.func28, Tryz.ntmps28
  go_wp2_with fail
  refine (HI.out _ (HB.out _)).mono ?_
  rintro e w2 ⟨rfl, hb2⟩
  have hb := (HB.out _).trans (hb2.mono (HB.out _).size)
  clear hb2
  go_wp2
  go_ret
  exact ⟨rfl, hb⟩
/-- The value of a right setting's line. -/
theorem batch_write (s : Bt.S) (w : World) (h1 : 1 ≤ s.k) (h2 : s.k ≤ 10) (ha : s.a < 4294967296) (hn0 : -9223372036854775808 ≤ s.n) (hn1 : s.n ≤ 9223372036854775807) (hb0 : -9223372036854775808 ≤ s.b) (hb1 : s.b ≤ 9223372036854775807) (hT : BTabs w) :
    Calls Tryz.prog 28 #[setV s] w fun e w' => e = .returned (.string (Bt.val s)) ∧ Below w.heap.size w w' := by
  obtain ⟨k, t, n, a, b⟩ := s
  simp only at h1 h2 ha hn0 hn1 hb0 hb1
  rcases Bt.fld_cases k h1 h2 with rfl | rfl | rfl | rfl | rfl | rfl | rfl | rfl | rfl | rfl
  · exact write_text 1 (by omega) t n a b w hT.2
  · exact write_num 2 (by omega) t n a b w hn0 hn1 hT
  · exact write_none 3 (by omega) t n a b w hT.2
  · exact write_text 4 (by omega) t n a b w hT.2
  · exact write_none 5 (by omega) t n a b w hT.2
  · have := write_shared t n a b w hT.2
    have e : Bt.val ⟨6, t, n, a, b⟩ = if t.size = 0 then Bt.zeros else t := Bt.val_six rfl
    rw [e]
    exact this
  · exact write_text 7 (by omega) t n a b w hT.2
  · exact write_num 8 (by omega) t n a b w hn0 hn1 hT
  · exact write_none 9 (by omega) t n a b w hT.2
  · exact write_net t n a b w ha hb0 hb1 hT
end Go.Proofs.YthlagpmacnijfaaGreatDoor

namespace Go.Proofs.YthlagpmacnijfaaGreatDoor
open Go.RowKit

theorem addr_Text (a : Nat) (ha : a < 4294967296) (w : World) (hC : CodeTabs w) :
    Calls Tryz.prog 75 #[.int .u32 (a : Int)] w fun e w' => e = .returned (.string ⟨(Ad.text a).toArray⟩) ∧ Below w.heap.size w w' := addr_Text0 a ha w hC.1
theorem addr_Parse (s : ByteArray) (w : World) (hs : s.size ≤ 281474976710656) :
    Calls Tryz.prog 44 #[.string s] w fun e w' => e = .returned (.tuple #[.int .u32 (Ad.addrOut s.data.toList : Int), .int .i64 (Ad.addrErr s.data.toList : Int)]) ∧ Below w.heap.size w w' := addr_Parse0 s w hs
theorem addr_Number (s : ByteArray) (most : Int) (w : World) (hs : s.size ≤ 281474976710656) :
    Calls Tryz.prog 25 #[.string s, .int .i64 most] w fun e w' => e = .returned (.tuple #[.int .i64 (Ad.numOut s.data.toList most : Int), .int .i64 (Ad.numErr s.data.toList most : Int)]) ∧ Below w.heap.size w w' := addr_Number0 s most w hs

theorem cut_miss (l : List UInt8) (h : Ad.colon l < 0) : Lib.cut l [58] = (l, [], false) := by
  unfold Lib.cut
  rw [Lib.index_one, if_neg (by unfold Ad.colon at h; omega)]
theorem cut_hit (l : List UInt8) (h : 0 ≤ Ad.colon l) : Lib.cut l [58] = (Ad.front l, Ad.back l, true) := by
  unfold Lib.cut
  rw [Lib.index_one, if_pos (show 0 ≤ Lib.indexByte l 58 from h)]
  rfl
/-- strings.Cut at the colon. -/
theorem lib_Cut (s : ByteArray) (w : World) (hs : s.size ≤ 1048576) (hM : MaxTab w) :
    Calls Tryz.prog 43 #[.string s, .string ⟨#[58]⟩] w fun e w' => e = .returned (.tuple #[.string ⟨(Lib.cut s.data.toList [58]).1.toArray⟩, .string ⟨(Lib.cut s.data.toList [58]).2.1.toArray⟩, .bool (Lib.cut s.data.toList [58]).2.2]) ∧ Below w.heap.size w w' := by
  obtain ⟨m, hm⟩ := hM
  refine (Tryz.strings_Cut s ⟨#[58]⟩ m w (by omega) hm).mono ?_
  rintro e w' ⟨rfl, n, rfl⟩
  exact ⟨rfl, below_drewN (Below.refl _ _) n⟩

set_option maxHeartbeats 800000 in
theorem addr_End (s : ByteArray) (w : World) (hs : s.size ≤ 1048576) (hC : CodeTabs w) :
    Calls Tryz.prog 49 #[.string s] w fun e w' => e = .returned (.tuple #[.int .u32 (Ad.endAddr s.data.toList : Int), .int .i64 (Ad.endPort s.data.toList : Int), .int .i64 (Ad.endErr s.data.toList : Int)]) ∧ Below w.heap.size w w' := by
  have HI := lib_Cut s w hs hC.2
  have hsl : s.data.toList.length = s.size := by simp
  by_cases h0 : Ad.colon s.data.toList < 0
  · have Hb := Lib.hid (end_bad (l := s.data.toList) (by unfold Ad.endGood; rw [decide_eq_false (by omega)]; rfl))
    rw [cut_miss _ h0] at HI
    clear h0 hC hsl
    generalize (⟨s.data.toList.toArray⟩ : ByteArray) = q at *
    go_enter Tryz.func49, Tryz.ntmps49
    go_wp2_with fail
    refine HI.mono ?_
    rintro e w1 ⟨rfl, hb1⟩
    go_wp2
    go_ret3
    rw [Hb.out.1, Hb.out.2.1, Hb.out.2.2]
    exact ⟨rfl, hb1⟩
  · have hge : decide (0 ≤ Ad.colon s.data.toList) = true := decide_eq_true (by omega)
    rw [cut_hit _ (by omega)] at HI
    have hf1 : (⟨(Ad.front s.data.toList).toArray⟩ : ByteArray).size ≤ 281474976710656 := by
      show (Ad.front s.data.toList).toArray.size ≤ _
      rw [List.size_toArray]
      unfold Ad.front
      rw [List.length_take]
      omega
    have hf2 : (⟨(Ad.back s.data.toList).toArray⟩ : ByteArray).size ≤ 281474976710656 := by
      show (Ad.back s.data.toList).toArray.size ≤ _
      rw [List.size_toArray]
      unfold Ad.back
      rw [List.length_drop]
      omega
    have H1 : Hid (∀ W, Below w.heap.size w W → Calls Tryz.prog 44 #[.string ⟨(Ad.front s.data.toList).toArray⟩] W fun e W' => e = .returned (.tuple #[.int .u32 (Ad.addrOut (Ad.front s.data.toList) : Int), .int .i64 (Ad.addrErr (Ad.front s.data.toList) : Int)]) ∧ Below w.heap.size w W') :=
      Lib.hid fun W hW => (addr_Parse0 ⟨(Ad.front s.data.toList).toArray⟩ W hf1).mono fun e W' ⟨he, hb⟩ => ⟨he, hW.trans (hb.mono hW.size)⟩
    have H2 : Hid (∀ W, Below w.heap.size w W → Calls Tryz.prog 25 #[.string ⟨(Ad.back s.data.toList).toArray⟩, .int .i64 65535] W fun e W' => e = .returned (.tuple #[.int .i64 (Ad.numOut (Ad.back s.data.toList) 65535 : Int), .int .i64 (Ad.numErr (Ad.back s.data.toList) 65535 : Int)]) ∧ Below w.heap.size w W') :=
      Lib.hid fun W hW => (addr_Number0 ⟨(Ad.back s.data.toList).toArray⟩ 65535 W hf2).mono fun e W' ⟨he, hb⟩ => ⟨he, hW.trans (hb.mono hW.size)⟩
    clear hC hsl hf1 hf2 h0
    by_cases g1 : ¬ Ad.good (Ad.front s.data.toList) = true
    · have Hr := Lib.hid (end_bad (l := s.data.toList) (by unfold Ad.endGood; rw [show Ad.good (Ad.front s.data.toList) = false by simpa using g1, Bool.and_false]; rfl))
      have hb := addr_bad _ (show Ad.good (Ad.front s.data.toList) = false by simpa using g1)
      rw [hb.1, hb.2] at H1
      clear g1 hge hb
      generalize (⟨(Ad.front s.data.toList).toArray⟩ : ByteArray) = F at *
      generalize (⟨(Ad.back s.data.toList).toArray⟩ : ByteArray) = B at *
      go_enter Tryz.func49, Tryz.ntmps49
      go_wp2_with fail
      refine HI.mono ?_
      rintro e w1 ⟨rfl, hb1⟩
      go_wp2_with fail
      refine (H1.out w1 hb1).mono ?_
      rintro e w2 ⟨rfl, hb2⟩
      go_wp2
      go_ret3
      rw [Hr.out.1, Hr.out.2.1, Hr.out.2.2]
      exact ⟨rfl, hb2⟩
    replace g1 : Ad.good (Ad.front s.data.toList) = true := Classical.not_not.1 g1
    have he : Ad.addrErr (Ad.front s.data.toList) = 0 := by unfold Ad.addrErr; rw [if_pos g1]
    rw [he] at H1
    clear he
    by_cases g2 : ¬ Ad.numErr (Ad.back s.data.toList) 65535 = 0
    · have Hr := Lib.hid (end_bad (l := s.data.toList) (by unfold Ad.endGood; rw [hge, g1, decide_eq_false g2]; rfl))
      rw [(numOut_bad _ _ g2).1, (numOut_bad _ _ g2).2] at H2
      clear g1 g2 hge
      generalize Ad.addrOut (Ad.front s.data.toList) = a2 at *
      generalize (⟨(Ad.front s.data.toList).toArray⟩ : ByteArray) = F at *
      generalize (⟨(Ad.back s.data.toList).toArray⟩ : ByteArray) = B at *
      go_enter Tryz.func49, Tryz.ntmps49
      go_wp2_with fail
      refine HI.mono ?_
      rintro e w1 ⟨rfl, hb1⟩
      go_wp2_with fail
      refine (H1.out w1 hb1).mono ?_
      rintro e w2 ⟨rfl, hb2⟩
      go_wp2_with fail
      refine (H2.out w2 hb2).mono ?_
      rintro e w3 ⟨rfl, hb3⟩
      go_wp2
      go_ret3
      rw [Hr.out.1, Hr.out.2.1, Hr.out.2.2]
      exact ⟨rfl, hb3⟩
    replace g2 : Ad.numErr (Ad.back s.data.toList) 65535 = 0 := Classical.not_not.1 g2
    rw [g2] at H2
    by_cases g3 : 1 ≤ Ad.numOut (Ad.back s.data.toList) 65535
    · have Hr := Lib.hid (end_ok (l := s.data.toList) (by unfold Ad.endGood; rw [hge, g1, decide_eq_true g2, decide_eq_true g3]; rfl))
      clear g1 g2 hge
      generalize Ad.addrOut (Ad.front s.data.toList) = a2 at *
      generalize Ad.numOut (Ad.back s.data.toList) 65535 = n2 at *
      generalize (⟨(Ad.front s.data.toList).toArray⟩ : ByteArray) = F at *
      generalize (⟨(Ad.back s.data.toList).toArray⟩ : ByteArray) = B at *
      have d1 : ((n2 : Int) == 0) = false := by simp; omega
      go_enter Tryz.func49, Tryz.ntmps49
      go_wp2_with fail
      refine HI.mono ?_
      rintro e w1 ⟨rfl, hb1⟩
      go_wp2_with fail
      refine (H1.out w1 hb1).mono ?_
      rintro e w2 ⟨rfl, hb2⟩
      go_wp2_with fail
      refine (H2.out w2 hb2).mono ?_
      rintro e w3 ⟨rfl, hb3⟩
      go_wp2
      go_ret3
      rw [Hr.out.1, Hr.out.2.1, Hr.out.2.2]
      exact ⟨rfl, hb3⟩
    · have Hr := Lib.hid (end_bad (l := s.data.toList) (by unfold Ad.endGood; rw [hge, g1, decide_eq_false g3, Bool.and_false]))
      have hz : Ad.numOut (Ad.back s.data.toList) 65535 = 0 := by omega
      rw [hz] at H2
      clear g1 g2 g3 hge hz
      generalize Ad.addrOut (Ad.front s.data.toList) = a2 at *
      generalize (⟨(Ad.front s.data.toList).toArray⟩ : ByteArray) = F at *
      generalize (⟨(Ad.back s.data.toList).toArray⟩ : ByteArray) = B at *
      go_enter Tryz.func49, Tryz.ntmps49
      go_wp2_with fail
      refine HI.mono ?_
      rintro e w1 ⟨rfl, hb1⟩
      go_wp2_with fail
      refine (H1.out w1 hb1).mono ?_
      rintro e w2 ⟨rfl, hb2⟩
      go_wp2_with fail
      refine (H2.out w2 hb2).mono ?_
      rintro e w3 ⟨rfl, hb3⟩
      go_wp2
      go_ret3
      rw [Hr.out.1, Hr.out.2.1, Hr.out.2.2]
      exact ⟨rfl, hb3⟩
end Go.Proofs.YthlagpmacnijfaaGreatDoor

namespace Go.Proofs.YthlagpmacnijfaaGreatDoor
open Go.RowKit

set_option maxRecDepth 20000 in
set_option maxHeartbeats 8000000 in
theorem batch_hasOthers (k : Int) (t : ByteArray) (n : Int) (a : Nat) (b : Int) (f : Nat) (hf : f ≤ 3) (w : World) :
    Calls Tryz.prog 46 #[setV ⟨k, t, n, a, b⟩, .int .i64 (f : Int)] w fun e w' => e = .returned (.bool (Bt.others t n a b f)) ∧ Below w.heap.size w w' := by
  have HB : Hid (∀ o, Below w.heap.size w (w.alloc o)) := Lib.hid fun o => (Below.refl _ _).alloc (Nat.le_refl _) _
  obtain ⟨ht, hn, hc⟩ := bool_parts t n a b
  unfold setV
  have h4 : f = 0 ∨ f = 1 ∨ f = 2 ∨ f = 3 := by omega
  clear hf
  rcases h4 with rfl | rfl | rfl | rfl <;> rcases ht with te | rfl <;> rcases hn with n0 | rfl <;> rcases hc with a0 | ⟨rfl, b0⟩ | ⟨rfl, rfl⟩
  all_goals
    go_enter Tryz.func46, Tryz.ntmps46
    go_wp2
    go_ret
    exact ⟨by simp [Bt.others, *], HB.out _⟩
theorem batch_checkNumber (n m : Int) (w : World) :
    Calls Tryz.prog 50 #[.int .i64 n, .int .i64 m] w fun e w' => e = .returned (.int .i64 ((if n < 0 ∨ m < n then 4 else 0 : Nat) : Int)) ∧ w = w' := by
  by_cases h1 : n < 0
  · have d1 : decide (n < 0) = true := decide_eq_true h1
    rw [if_pos (.inl h1)]
    go_enter Tryz.func50, Tryz.ntmps50
    go_wp2
    go_ret
    exact ⟨rfl, rfl⟩
  · have d1 : decide (n < 0) = false := decide_eq_false h1
    by_cases h2 : m < n
    · have d2 : decide (m < n) = true := decide_eq_true h2
      rw [if_pos (.inr h2)]
      go_enter Tryz.func50, Tryz.ntmps50
      go_wp2
      go_ret
      exact ⟨rfl, rfl⟩
    · have d2 : decide (m < n) = false := decide_eq_false h2
      rw [if_neg (by omega)]
      go_enter Tryz.func50, Tryz.ntmps50
      go_wp2
      go_ret
      exact ⟨rfl, rfl⟩
set_option maxRecDepth 20000 in
set_option maxHeartbeats 4000000 in
theorem batch_checkShared (t : ByteArray) (w : World) (hs : t.size ≤ maxLen) :
    Calls Tryz.prog 48 #[.string t] w fun e w' => e = .returned (.int .i64 ((if t.size = 0 then 0 else if t = Bt.zeros then 3 else Hx.checkErr t.data.toList : Nat) : Int)) ∧ w = w' := by
  by_cases h0 : t.size = 0
  · have te : t.toList.isEmpty = true := by rw [empty_size, decide_eq_true h0]
    rw [if_pos h0]
    clear hs h0
    go_enter Tryz.func48, Tryz.ntmps48
    go_wp2
    go_ret
    exact ⟨rfl, rfl⟩
  · have te : t.toList.isEmpty = false := by rw [empty_size, decide_eq_false h0]
    rw [if_neg h0]
    clear h0
    rw [Bt.zeros_lit]
    by_cases hz : t = ⟨#[48, 48, 48, 48, 48, 48, 48, 48, 48, 48, 48, 48, 48, 48, 48, 48, 48, 48, 48, 48, 48, 48, 48, 48, 48, 48, 48, 48, 48, 48, 48, 48, 48, 48, 48, 48, 48, 48, 48, 48, 48, 48, 48, 48, 48, 48, 48, 48, 48, 48, 48, 48, 48, 48, 48, 48, 48, 48, 48, 48, 48, 48, 48, 48]⟩
    · rw [if_pos hz]
      have dz : (t.toList == [48, 48, 48, 48, 48, 48, 48, 48, 48, 48, 48, 48, 48, 48, 48, 48, 48, 48, 48, 48, 48, 48, 48, 48, 48, 48, 48, 48, 48, 48, 48, 48, 48, 48, 48, 48, 48, 48, 48, 48, 48, 48, 48, 48, 48, 48, 48, 48, 48, 48, 48, 48, 48, 48, 48, 48, 48, 48, 48, 48, 48, 48, 48, 48]) = true := by rw [hz, ByteArray.toList_eq]; decide
      clear hz hs
      go_enter Tryz.func48, Tryz.ntmps48
      go_wp2
      go_ret
      exact ⟨rfl, rfl⟩
    · rw [if_neg hz]
      have dz : (t.toList == [48, 48, 48, 48, 48, 48, 48, 48, 48, 48, 48, 48, 48, 48, 48, 48, 48, 48, 48, 48, 48, 48, 48, 48, 48, 48, 48, 48, 48, 48, 48, 48, 48, 48, 48, 48, 48, 48, 48, 48, 48, 48, 48, 48, 48, 48, 48, 48, 48, 48, 48, 48, 48, 48, 48, 48, 48, 48, 48, 48, 48, 48, 48, 48]) = false := by
        refine beq_eq_false_iff_ne.2 fun e => hz ?_
        rw [ByteArray.toList_eq] at e
        exact WideShapes.bytes_inj (by rw [e])
      have HF := Lib.hid (hex_Check t w hs)
      clear hz hs
      generalize Hx.checkErr t.data.toList = r at *
      go_enter Tryz.func48, Tryz.ntmps48
      go_wp2_with fail
      refine HF.out.mono ?_
      rintro e w1 ⟨rfl, rfl⟩
      go_wp2
      go_ret
      exact ⟨rfl, rfl⟩
end Go.Proofs.YthlagpmacnijfaaGreatDoor

namespace Go.Proofs.YthlagpmacnijfaaGreatDoor
open Go.RowKit

set_option maxRecDepth 20000 in
set_option maxHeartbeats 8000000 in
/-- Kinds that have nothing. -/
theorem check_none (k : Int) (hk : k = 3 ∨ k = 5 ∨ k = 9) (t : ByteArray) (n : Int) (a : Nat) (b : Int) (w : World) (hT : BTabs w) :
    Calls Tryz.prog 27 #[setV ⟨k, t, n, a, b⟩] w fun e w' => e = .returned (.int .i64 ((if Bt.others t n a b 0 = true then 3 else 0 : Nat) : Int)) ∧ Below w.heap.size w w' := by
  have HO := Lib.hid (fun k W => batch_hasOthers k t n a b 0 (by decide) W)
  have hlt := hT.2.1
  have HT := Lib.hid hT
  unfold setV at HO ⊢
  generalize Bt.others t n a b 0 = r at *
  cases r with
  | true =>
    rw [if_pos rfl]
    rcases hk with rfl | rfl | rfl
    · obtain ⟨w1, hw1⟩ : ∃ w1, w1 = w.alloc (.cells #[.int .i64 3, .string t, .int .i64 n, .int .u32 (a : Int), .int .i64 b] 28) := ⟨_, rfl⟩
      have hA : Below w.heap.size w w1 := by rw [hw1]; exact (Below.refl _ _).alloc (Nat.le_refl _) _
      have c := (hT.2.below hA).at 3 (by decide) 7 0 rfl rfl
      have HA := Lib.hid hA.drew
      have HG := Lib.hid (show Blk w1 w.heap.size 28 [.int .i64 3, .string t, .int .i64 n, .int .u32 (a : Int), .int .i64 b] by rw [hw1]; exact Blk.new w _ _)
      obtain ⟨⟨b0, b1, b2, b3, b4⟩, -⟩ := HG.out.facts5
      have q : ∀ ad : Addr, ({ heap := w1.heap, tape := w1.tape, drawn := w1.drawn + 1, os := w1.os, output := w1.output } : World).cell? ad = w1.cell? ad := fun _ => rfl
      clear hT hA
      go_enter Tryz.func27, Tryz.ntmps27
      go_wp2_with fail
      rw [← hw1]
      clear hw1
      go_still_tail 6, (by kernel_rfl)
      change wpList _ _ _ _ _ w1.drew
      clear q c b0 b1 b2 b3 b4
      obtain ⟨wd, hwd⟩ : ∃ wd, wd = w1.drew := ⟨_, rfl⟩
      have HGd := Lib.hid (show Blk wd w.heap.size 28 [.int .i64 3, .string t, .int .i64 n, .int .u32 (a : Int), .int .i64 b] by rw [hwd]; exact HG.out)
      rw [← hwd] at HA ⊢
      clear hwd HG
      go_wp2_with fail
      refine (HO.out 3 wd).mono ?_
      rintro e w2 ⟨rfl, hb2⟩
      have hG2 := HGd.out.kept hb2
      have HB2 := Lib.hid (HA.out.trans (hb2.mono HA.out.size))
      obtain ⟨⟨b0, b1, b2, b3, b4⟩, -⟩ := hG2.facts5
      have hgl := hG2.lt
      clear hb2 hG2 HGd HA HO
      go_wp2
      go_ret
      exact ⟨rfl, HB2.out⟩
    · obtain ⟨w1, hw1⟩ : ∃ w1, w1 = w.alloc (.cells #[.int .i64 5, .string t, .int .i64 n, .int .u32 (a : Int), .int .i64 b] 28) := ⟨_, rfl⟩
      have hA : Below w.heap.size w w1 := by rw [hw1]; exact (Below.refl _ _).alloc (Nat.le_refl _) _
      have c := (hT.2.below hA).at 5 (by decide) 11 0 rfl rfl
      have HA := Lib.hid hA.drew
      have HG := Lib.hid (show Blk w1 w.heap.size 28 [.int .i64 5, .string t, .int .i64 n, .int .u32 (a : Int), .int .i64 b] by rw [hw1]; exact Blk.new w _ _)
      obtain ⟨⟨b0, b1, b2, b3, b4⟩, -⟩ := HG.out.facts5
      have q : ∀ ad : Addr, ({ heap := w1.heap, tape := w1.tape, drawn := w1.drawn + 1, os := w1.os, output := w1.output } : World).cell? ad = w1.cell? ad := fun _ => rfl
      clear hT hA
      go_enter Tryz.func27, Tryz.ntmps27
      go_wp2_with fail
      rw [← hw1]
      clear hw1
      go_still_tail 6, (by kernel_rfl)
      change wpList _ _ _ _ _ w1.drew
      clear q c b0 b1 b2 b3 b4
      obtain ⟨wd, hwd⟩ : ∃ wd, wd = w1.drew := ⟨_, rfl⟩
      have HGd := Lib.hid (show Blk wd w.heap.size 28 [.int .i64 5, .string t, .int .i64 n, .int .u32 (a : Int), .int .i64 b] by rw [hwd]; exact HG.out)
      rw [← hwd] at HA ⊢
      clear hwd HG
      go_wp2_with fail
      refine (HO.out 5 wd).mono ?_
      rintro e w2 ⟨rfl, hb2⟩
      have hG2 := HGd.out.kept hb2
      have HB2 := Lib.hid (HA.out.trans (hb2.mono HA.out.size))
      obtain ⟨⟨b0, b1, b2, b3, b4⟩, -⟩ := hG2.facts5
      have hgl := hG2.lt
      clear hb2 hG2 HGd HA HO
      go_wp2
      go_ret
      exact ⟨rfl, HB2.out⟩
    · obtain ⟨w1, hw1⟩ : ∃ w1, w1 = w.alloc (.cells #[.int .i64 9, .string t, .int .i64 n, .int .u32 (a : Int), .int .i64 b] 28) := ⟨_, rfl⟩
      have hA : Below w.heap.size w w1 := by rw [hw1]; exact (Below.refl _ _).alloc (Nat.le_refl _) _
      have c := (hT.2.below hA).at 9 (by decide) 19 0 rfl rfl
      have HA := Lib.hid hA.drew
      have HG := Lib.hid (show Blk w1 w.heap.size 28 [.int .i64 9, .string t, .int .i64 n, .int .u32 (a : Int), .int .i64 b] by rw [hw1]; exact Blk.new w _ _)
      obtain ⟨⟨b0, b1, b2, b3, b4⟩, -⟩ := HG.out.facts5
      have q : ∀ ad : Addr, ({ heap := w1.heap, tape := w1.tape, drawn := w1.drawn + 1, os := w1.os, output := w1.output } : World).cell? ad = w1.cell? ad := fun _ => rfl
      clear hT hA
      go_enter Tryz.func27, Tryz.ntmps27
      go_wp2_with fail
      rw [← hw1]
      clear hw1
      go_still_tail 6, (by kernel_rfl)
      change wpList _ _ _ _ _ w1.drew
      clear q c b0 b1 b2 b3 b4
      obtain ⟨wd, hwd⟩ : ∃ wd, wd = w1.drew := ⟨_, rfl⟩
      have HGd := Lib.hid (show Blk wd w.heap.size 28 [.int .i64 9, .string t, .int .i64 n, .int .u32 (a : Int), .int .i64 b] by rw [hwd]; exact HG.out)
      rw [← hwd] at HA ⊢
      clear hwd HG
      go_wp2_with fail
      refine (HO.out 9 wd).mono ?_
      rintro e w2 ⟨rfl, hb2⟩
      have hG2 := HGd.out.kept hb2
      have HB2 := Lib.hid (HA.out.trans (hb2.mono HA.out.size))
      obtain ⟨⟨b0, b1, b2, b3, b4⟩, -⟩ := hG2.facts5
      have hgl := hG2.lt
      clear hb2 hG2 HGd HA HO
      go_wp2
      go_ret
      exact ⟨rfl, HB2.out⟩
  | false =>
    rw [if_neg (by decide)]
    rcases hk with rfl | rfl | rfl
    · obtain ⟨w1, hw1⟩ : ∃ w1, w1 = w.alloc (.cells #[.int .i64 3, .string t, .int .i64 n, .int .u32 (a : Int), .int .i64 b] 28) := ⟨_, rfl⟩
      have hA : Below w.heap.size w w1 := by rw [hw1]; exact (Below.refl _ _).alloc (Nat.le_refl _) _
      have c := (hT.2.below hA).at 3 (by decide) 7 0 rfl rfl
      have HA := Lib.hid hA.drew
      have HG := Lib.hid (show Blk w1 w.heap.size 28 [.int .i64 3, .string t, .int .i64 n, .int .u32 (a : Int), .int .i64 b] by rw [hw1]; exact Blk.new w _ _)
      obtain ⟨⟨b0, b1, b2, b3, b4⟩, -⟩ := HG.out.facts5
      have q : ∀ ad : Addr, ({ heap := w1.heap, tape := w1.tape, drawn := w1.drawn + 1, os := w1.os, output := w1.output } : World).cell? ad = w1.cell? ad := fun _ => rfl
      clear hT hA
      go_enter Tryz.func27, Tryz.ntmps27
      go_wp2_with fail
      rw [← hw1]
      clear hw1
      go_still_tail 6, (by kernel_rfl)
      change wpList _ _ _ _ _ w1.drew
      clear q c b0 b1 b2 b3 b4
      obtain ⟨wd, hwd⟩ : ∃ wd, wd = w1.drew := ⟨_, rfl⟩
      have HGd := Lib.hid (show Blk wd w.heap.size 28 [.int .i64 3, .string t, .int .i64 n, .int .u32 (a : Int), .int .i64 b] by rw [hwd]; exact HG.out)
      rw [← hwd] at HA ⊢
      clear hwd HG
      go_wp2_with fail
      refine (HO.out 3 wd).mono ?_
      rintro e w2 ⟨rfl, hb2⟩
      have hG2 := HGd.out.kept hb2
      have HB2 := Lib.hid (HA.out.trans (hb2.mono HA.out.size))
      obtain ⟨⟨b0, b1, b2, b3, b4⟩, -⟩ := hG2.facts5
      have hgl := hG2.lt
      clear hb2 hG2 HGd HA HO
      go_wp2
      go_ret
      exact ⟨rfl, HB2.out⟩
    · obtain ⟨w1, hw1⟩ : ∃ w1, w1 = w.alloc (.cells #[.int .i64 5, .string t, .int .i64 n, .int .u32 (a : Int), .int .i64 b] 28) := ⟨_, rfl⟩
      have hA : Below w.heap.size w w1 := by rw [hw1]; exact (Below.refl _ _).alloc (Nat.le_refl _) _
      have c := (hT.2.below hA).at 5 (by decide) 11 0 rfl rfl
      have HA := Lib.hid hA.drew
      have HG := Lib.hid (show Blk w1 w.heap.size 28 [.int .i64 5, .string t, .int .i64 n, .int .u32 (a : Int), .int .i64 b] by rw [hw1]; exact Blk.new w _ _)
      obtain ⟨⟨b0, b1, b2, b3, b4⟩, -⟩ := HG.out.facts5
      have q : ∀ ad : Addr, ({ heap := w1.heap, tape := w1.tape, drawn := w1.drawn + 1, os := w1.os, output := w1.output } : World).cell? ad = w1.cell? ad := fun _ => rfl
      clear hT hA
      go_enter Tryz.func27, Tryz.ntmps27
      go_wp2_with fail
      rw [← hw1]
      clear hw1
      go_still_tail 6, (by kernel_rfl)
      change wpList _ _ _ _ _ w1.drew
      clear q c b0 b1 b2 b3 b4
      obtain ⟨wd, hwd⟩ : ∃ wd, wd = w1.drew := ⟨_, rfl⟩
      have HGd := Lib.hid (show Blk wd w.heap.size 28 [.int .i64 5, .string t, .int .i64 n, .int .u32 (a : Int), .int .i64 b] by rw [hwd]; exact HG.out)
      rw [← hwd] at HA ⊢
      clear hwd HG
      go_wp2_with fail
      refine (HO.out 5 wd).mono ?_
      rintro e w2 ⟨rfl, hb2⟩
      have hG2 := HGd.out.kept hb2
      have HB2 := Lib.hid (HA.out.trans (hb2.mono HA.out.size))
      obtain ⟨⟨b0, b1, b2, b3, b4⟩, -⟩ := hG2.facts5
      have hgl := hG2.lt
      clear hb2 hG2 HGd HA HO
      go_wp2
      go_ret
      exact ⟨rfl, HB2.out⟩
    · obtain ⟨w1, hw1⟩ : ∃ w1, w1 = w.alloc (.cells #[.int .i64 9, .string t, .int .i64 n, .int .u32 (a : Int), .int .i64 b] 28) := ⟨_, rfl⟩
      have hA : Below w.heap.size w w1 := by rw [hw1]; exact (Below.refl _ _).alloc (Nat.le_refl _) _
      have c := (hT.2.below hA).at 9 (by decide) 19 0 rfl rfl
      have HA := Lib.hid hA.drew
      have HG := Lib.hid (show Blk w1 w.heap.size 28 [.int .i64 9, .string t, .int .i64 n, .int .u32 (a : Int), .int .i64 b] by rw [hw1]; exact Blk.new w _ _)
      obtain ⟨⟨b0, b1, b2, b3, b4⟩, -⟩ := HG.out.facts5
      have q : ∀ ad : Addr, ({ heap := w1.heap, tape := w1.tape, drawn := w1.drawn + 1, os := w1.os, output := w1.output } : World).cell? ad = w1.cell? ad := fun _ => rfl
      clear hT hA
      go_enter Tryz.func27, Tryz.ntmps27
      go_wp2_with fail
      rw [← hw1]
      clear hw1
      go_still_tail 6, (by kernel_rfl)
      change wpList _ _ _ _ _ w1.drew
      clear q c b0 b1 b2 b3 b4
      obtain ⟨wd, hwd⟩ : ∃ wd, wd = w1.drew := ⟨_, rfl⟩
      have HGd := Lib.hid (show Blk wd w.heap.size 28 [.int .i64 9, .string t, .int .i64 n, .int .u32 (a : Int), .int .i64 b] by rw [hwd]; exact HG.out)
      rw [← hwd] at HA ⊢
      clear hwd HG
      go_wp2_with fail
      refine (HO.out 9 wd).mono ?_
      rintro e w2 ⟨rfl, hb2⟩
      have hG2 := HGd.out.kept hb2
      have HB2 := Lib.hid (HA.out.trans (hb2.mono HA.out.size))
      obtain ⟨⟨b0, b1, b2, b3, b4⟩, -⟩ := hG2.facts5
      have hgl := hG2.lt
      clear hb2 hG2 HGd HA HO
      go_wp2
      go_ret
      exact ⟨rfl, HB2.out⟩
set_option maxRecDepth 20000 in
set_option maxHeartbeats 8000000 in
/-- Kinds that have a number. -/
theorem check_num (k : Int) (hk : k = 2 ∨ k = 8) (t : ByteArray) (n : Int) (a : Nat) (b : Int) (w : World) (hT : BTabs w) :
    Calls Tryz.prog 27 #[setV ⟨k, t, n, a, b⟩] w fun e w' => e = .returned (.int .i64 ((if Bt.others t n a b 2 = true then 3 else if n < 0 ∨ 65535 < n then 4 else 0 : Nat) : Int)) ∧ Below w.heap.size w w' := by
  have HO := Lib.hid (fun k W => batch_hasOthers k t n a b 2 (by decide) W)
  have HF := Lib.hid (fun W => batch_checkNumber n 65535 W)
  generalize (if n < 0 ∨ 65535 < n then 4 else 0 : Nat) = z at *
  have hlt := hT.2.1
  have HT := Lib.hid hT
  unfold setV at HO ⊢
  generalize Bt.others t n a b 2 = r at *
  cases r with
  | true =>
    rw [if_pos rfl]
    rcases hk with rfl | rfl
    · obtain ⟨w1, hw1⟩ : ∃ w1, w1 = w.alloc (.cells #[.int .i64 2, .string t, .int .i64 n, .int .u32 (a : Int), .int .i64 b] 28) := ⟨_, rfl⟩
      have hA : Below w.heap.size w w1 := by rw [hw1]; exact (Below.refl _ _).alloc (Nat.le_refl _) _
      have c := (hT.2.below hA).at 2 (by decide) 5 2 rfl rfl
      have HA := Lib.hid hA.drew
      have HG := Lib.hid (show Blk w1 w.heap.size 28 [.int .i64 2, .string t, .int .i64 n, .int .u32 (a : Int), .int .i64 b] by rw [hw1]; exact Blk.new w _ _)
      obtain ⟨⟨b0, b1, b2, b3, b4⟩, -⟩ := HG.out.facts5
      have q : ∀ ad : Addr, ({ heap := w1.heap, tape := w1.tape, drawn := w1.drawn + 1, os := w1.os, output := w1.output } : World).cell? ad = w1.cell? ad := fun _ => rfl
      clear hT hA
      go_enter Tryz.func27, Tryz.ntmps27
      go_wp2_with fail
      rw [← hw1]
      clear hw1
      go_still_tail 6, (by kernel_rfl)
      change wpList _ _ _ _ _ w1.drew
      clear q c b0 b1 b2 b3 b4
      obtain ⟨wd, hwd⟩ : ∃ wd, wd = w1.drew := ⟨_, rfl⟩
      have HGd := Lib.hid (show Blk wd w.heap.size 28 [.int .i64 2, .string t, .int .i64 n, .int .u32 (a : Int), .int .i64 b] by rw [hwd]; exact HG.out)
      rw [← hwd] at HA ⊢
      clear hwd HG
      go_wp2_with fail
      refine (HO.out 2 wd).mono ?_
      rintro e w2 ⟨rfl, hb2⟩
      have hG2 := HGd.out.kept hb2
      have HB2 := Lib.hid (HA.out.trans (hb2.mono HA.out.size))
      obtain ⟨⟨b0, b1, b2, b3, b4⟩, -⟩ := hG2.facts5
      have hgl := hG2.lt
      clear hb2 hG2 HGd HA HO
      go_wp2
      go_ret
      exact ⟨rfl, HB2.out⟩
    · obtain ⟨w1, hw1⟩ : ∃ w1, w1 = w.alloc (.cells #[.int .i64 8, .string t, .int .i64 n, .int .u32 (a : Int), .int .i64 b] 28) := ⟨_, rfl⟩
      have hA : Below w.heap.size w w1 := by rw [hw1]; exact (Below.refl _ _).alloc (Nat.le_refl _) _
      have c := (hT.2.below hA).at 8 (by decide) 17 2 rfl rfl
      have HA := Lib.hid hA.drew
      have HG := Lib.hid (show Blk w1 w.heap.size 28 [.int .i64 8, .string t, .int .i64 n, .int .u32 (a : Int), .int .i64 b] by rw [hw1]; exact Blk.new w _ _)
      obtain ⟨⟨b0, b1, b2, b3, b4⟩, -⟩ := HG.out.facts5
      have q : ∀ ad : Addr, ({ heap := w1.heap, tape := w1.tape, drawn := w1.drawn + 1, os := w1.os, output := w1.output } : World).cell? ad = w1.cell? ad := fun _ => rfl
      clear hT hA
      go_enter Tryz.func27, Tryz.ntmps27
      go_wp2_with fail
      rw [← hw1]
      clear hw1
      go_still_tail 6, (by kernel_rfl)
      change wpList _ _ _ _ _ w1.drew
      clear q c b0 b1 b2 b3 b4
      obtain ⟨wd, hwd⟩ : ∃ wd, wd = w1.drew := ⟨_, rfl⟩
      have HGd := Lib.hid (show Blk wd w.heap.size 28 [.int .i64 8, .string t, .int .i64 n, .int .u32 (a : Int), .int .i64 b] by rw [hwd]; exact HG.out)
      rw [← hwd] at HA ⊢
      clear hwd HG
      go_wp2_with fail
      refine (HO.out 8 wd).mono ?_
      rintro e w2 ⟨rfl, hb2⟩
      have hG2 := HGd.out.kept hb2
      have HB2 := Lib.hid (HA.out.trans (hb2.mono HA.out.size))
      obtain ⟨⟨b0, b1, b2, b3, b4⟩, -⟩ := hG2.facts5
      have hgl := hG2.lt
      clear hb2 hG2 HGd HA HO
      go_wp2
      go_ret
      exact ⟨rfl, HB2.out⟩
  | false =>
    rw [if_neg (by decide)]
    rcases hk with rfl | rfl
    · obtain ⟨w1, hw1⟩ : ∃ w1, w1 = w.alloc (.cells #[.int .i64 2, .string t, .int .i64 n, .int .u32 (a : Int), .int .i64 b] 28) := ⟨_, rfl⟩
      have hA : Below w.heap.size w w1 := by rw [hw1]; exact (Below.refl _ _).alloc (Nat.le_refl _) _
      have c := (hT.2.below hA).at 2 (by decide) 5 2 rfl rfl
      have HA := Lib.hid hA.drew
      have HG := Lib.hid (show Blk w1 w.heap.size 28 [.int .i64 2, .string t, .int .i64 n, .int .u32 (a : Int), .int .i64 b] by rw [hw1]; exact Blk.new w _ _)
      obtain ⟨⟨b0, b1, b2, b3, b4⟩, -⟩ := HG.out.facts5
      have q : ∀ ad : Addr, ({ heap := w1.heap, tape := w1.tape, drawn := w1.drawn + 1, os := w1.os, output := w1.output } : World).cell? ad = w1.cell? ad := fun _ => rfl
      clear hT hA
      go_enter Tryz.func27, Tryz.ntmps27
      go_wp2_with fail
      rw [← hw1]
      clear hw1
      go_still_tail 6, (by kernel_rfl)
      change wpList _ _ _ _ _ w1.drew
      clear q c b0 b1 b2 b3 b4
      obtain ⟨wd, hwd⟩ : ∃ wd, wd = w1.drew := ⟨_, rfl⟩
      have HGd := Lib.hid (show Blk wd w.heap.size 28 [.int .i64 2, .string t, .int .i64 n, .int .u32 (a : Int), .int .i64 b] by rw [hwd]; exact HG.out)
      rw [← hwd] at HA ⊢
      clear hwd HG
      go_wp2_with fail
      refine (HO.out 2 wd).mono ?_
      rintro e w2 ⟨rfl, hb2⟩
      have hG2 := HGd.out.kept hb2
      have HB2 := Lib.hid (HA.out.trans (hb2.mono HA.out.size))
      obtain ⟨⟨b0, b1, b2, b3, b4⟩, -⟩ := hG2.facts5
      have hgl := hG2.lt
      clear hb2 hG2 HGd HA HO
      go_wp2_with fail
      refine (HF.out w2).mono ?_
      rintro e w3 ⟨rfl, hw3⟩
      subst hw3
      go_wp2
      go_ret
      exact ⟨rfl, HB2.out⟩
    · obtain ⟨w1, hw1⟩ : ∃ w1, w1 = w.alloc (.cells #[.int .i64 8, .string t, .int .i64 n, .int .u32 (a : Int), .int .i64 b] 28) := ⟨_, rfl⟩
      have hA : Below w.heap.size w w1 := by rw [hw1]; exact (Below.refl _ _).alloc (Nat.le_refl _) _
      have c := (hT.2.below hA).at 8 (by decide) 17 2 rfl rfl
      have HA := Lib.hid hA.drew
      have HG := Lib.hid (show Blk w1 w.heap.size 28 [.int .i64 8, .string t, .int .i64 n, .int .u32 (a : Int), .int .i64 b] by rw [hw1]; exact Blk.new w _ _)
      obtain ⟨⟨b0, b1, b2, b3, b4⟩, -⟩ := HG.out.facts5
      have q : ∀ ad : Addr, ({ heap := w1.heap, tape := w1.tape, drawn := w1.drawn + 1, os := w1.os, output := w1.output } : World).cell? ad = w1.cell? ad := fun _ => rfl
      clear hT hA
      go_enter Tryz.func27, Tryz.ntmps27
      go_wp2_with fail
      rw [← hw1]
      clear hw1
      go_still_tail 6, (by kernel_rfl)
      change wpList _ _ _ _ _ w1.drew
      clear q c b0 b1 b2 b3 b4
      obtain ⟨wd, hwd⟩ : ∃ wd, wd = w1.drew := ⟨_, rfl⟩
      have HGd := Lib.hid (show Blk wd w.heap.size 28 [.int .i64 8, .string t, .int .i64 n, .int .u32 (a : Int), .int .i64 b] by rw [hwd]; exact HG.out)
      rw [← hwd] at HA ⊢
      clear hwd HG
      go_wp2_with fail
      refine (HO.out 8 wd).mono ?_
      rintro e w2 ⟨rfl, hb2⟩
      have hG2 := HGd.out.kept hb2
      have HB2 := Lib.hid (HA.out.trans (hb2.mono HA.out.size))
      obtain ⟨⟨b0, b1, b2, b3, b4⟩, -⟩ := hG2.facts5
      have hgl := hG2.lt
      clear hb2 hG2 HGd HA HO
      go_wp2_with fail
      refine (HF.out w2).mono ?_
      rintro e w3 ⟨rfl, hw3⟩
      subst hw3
      go_wp2
      go_ret
      exact ⟨rfl, HB2.out⟩
set_option maxRecDepth 20000 in
set_option maxHeartbeats 8000000 in
/-- Kinds that have a key. -/
theorem check_key (k : Int) (hk : k = 1 ∨ k = 4) (t : ByteArray) (n : Int) (a : Nat) (b : Int) (w : World) (hs : t.size ≤ maxLen) (hT : BTabs w) :
    Calls Tryz.prog 27 #[setV ⟨k, t, n, a, b⟩] w fun e w' => e = .returned (.int .i64 ((if Bt.others t n a b 1 = true then 3 else Hx.checkErr t.data.toList : Nat) : Int)) ∧ Below w.heap.size w w' := by
  have HO := Lib.hid (fun k W => batch_hasOthers k t n a b 1 (by decide) W)
  have HF := Lib.hid (fun W => hex_Check t W hs)
  generalize Hx.checkErr t.data.toList = z at *
  clear hs
  have hlt := hT.2.1
  have HT := Lib.hid hT
  unfold setV at HO ⊢
  generalize Bt.others t n a b 1 = r at *
  cases r with
  | true =>
    rw [if_pos rfl]
    rcases hk with rfl | rfl
    · obtain ⟨w1, hw1⟩ : ∃ w1, w1 = w.alloc (.cells #[.int .i64 1, .string t, .int .i64 n, .int .u32 (a : Int), .int .i64 b] 28) := ⟨_, rfl⟩
      have hA : Below w.heap.size w w1 := by rw [hw1]; exact (Below.refl _ _).alloc (Nat.le_refl _) _
      have c := (hT.2.below hA).at 1 (by decide) 3 1 rfl rfl
      have HA := Lib.hid hA.drew
      have HG := Lib.hid (show Blk w1 w.heap.size 28 [.int .i64 1, .string t, .int .i64 n, .int .u32 (a : Int), .int .i64 b] by rw [hw1]; exact Blk.new w _ _)
      obtain ⟨⟨b0, b1, b2, b3, b4⟩, -⟩ := HG.out.facts5
      have q : ∀ ad : Addr, ({ heap := w1.heap, tape := w1.tape, drawn := w1.drawn + 1, os := w1.os, output := w1.output } : World).cell? ad = w1.cell? ad := fun _ => rfl
      clear hT hA
      go_enter Tryz.func27, Tryz.ntmps27
      go_wp2_with fail
      rw [← hw1]
      clear hw1
      go_still_tail 6, (by kernel_rfl)
      change wpList _ _ _ _ _ w1.drew
      clear q c b0 b1 b2 b3 b4
      obtain ⟨wd, hwd⟩ : ∃ wd, wd = w1.drew := ⟨_, rfl⟩
      have HGd := Lib.hid (show Blk wd w.heap.size 28 [.int .i64 1, .string t, .int .i64 n, .int .u32 (a : Int), .int .i64 b] by rw [hwd]; exact HG.out)
      rw [← hwd] at HA ⊢
      clear hwd HG
      go_wp2_with fail
      refine (HO.out 1 wd).mono ?_
      rintro e w2 ⟨rfl, hb2⟩
      have hG2 := HGd.out.kept hb2
      have HB2 := Lib.hid (HA.out.trans (hb2.mono HA.out.size))
      obtain ⟨⟨b0, b1, b2, b3, b4⟩, -⟩ := hG2.facts5
      have hgl := hG2.lt
      clear hb2 hG2 HGd HA HO
      go_wp2
      go_ret
      exact ⟨rfl, HB2.out⟩
    · obtain ⟨w1, hw1⟩ : ∃ w1, w1 = w.alloc (.cells #[.int .i64 4, .string t, .int .i64 n, .int .u32 (a : Int), .int .i64 b] 28) := ⟨_, rfl⟩
      have hA : Below w.heap.size w w1 := by rw [hw1]; exact (Below.refl _ _).alloc (Nat.le_refl _) _
      have c := (hT.2.below hA).at 4 (by decide) 9 1 rfl rfl
      have HA := Lib.hid hA.drew
      have HG := Lib.hid (show Blk w1 w.heap.size 28 [.int .i64 4, .string t, .int .i64 n, .int .u32 (a : Int), .int .i64 b] by rw [hw1]; exact Blk.new w _ _)
      obtain ⟨⟨b0, b1, b2, b3, b4⟩, -⟩ := HG.out.facts5
      have q : ∀ ad : Addr, ({ heap := w1.heap, tape := w1.tape, drawn := w1.drawn + 1, os := w1.os, output := w1.output } : World).cell? ad = w1.cell? ad := fun _ => rfl
      clear hT hA
      go_enter Tryz.func27, Tryz.ntmps27
      go_wp2_with fail
      rw [← hw1]
      clear hw1
      go_still_tail 6, (by kernel_rfl)
      change wpList _ _ _ _ _ w1.drew
      clear q c b0 b1 b2 b3 b4
      obtain ⟨wd, hwd⟩ : ∃ wd, wd = w1.drew := ⟨_, rfl⟩
      have HGd := Lib.hid (show Blk wd w.heap.size 28 [.int .i64 4, .string t, .int .i64 n, .int .u32 (a : Int), .int .i64 b] by rw [hwd]; exact HG.out)
      rw [← hwd] at HA ⊢
      clear hwd HG
      go_wp2_with fail
      refine (HO.out 4 wd).mono ?_
      rintro e w2 ⟨rfl, hb2⟩
      have hG2 := HGd.out.kept hb2
      have HB2 := Lib.hid (HA.out.trans (hb2.mono HA.out.size))
      obtain ⟨⟨b0, b1, b2, b3, b4⟩, -⟩ := hG2.facts5
      have hgl := hG2.lt
      clear hb2 hG2 HGd HA HO
      go_wp2
      go_ret
      exact ⟨rfl, HB2.out⟩
  | false =>
    rw [if_neg (by decide)]
    rcases hk with rfl | rfl
    · obtain ⟨w1, hw1⟩ : ∃ w1, w1 = w.alloc (.cells #[.int .i64 1, .string t, .int .i64 n, .int .u32 (a : Int), .int .i64 b] 28) := ⟨_, rfl⟩
      have hA : Below w.heap.size w w1 := by rw [hw1]; exact (Below.refl _ _).alloc (Nat.le_refl _) _
      have c := (hT.2.below hA).at 1 (by decide) 3 1 rfl rfl
      have HA := Lib.hid hA.drew
      have HG := Lib.hid (show Blk w1 w.heap.size 28 [.int .i64 1, .string t, .int .i64 n, .int .u32 (a : Int), .int .i64 b] by rw [hw1]; exact Blk.new w _ _)
      obtain ⟨⟨b0, b1, b2, b3, b4⟩, -⟩ := HG.out.facts5
      have q : ∀ ad : Addr, ({ heap := w1.heap, tape := w1.tape, drawn := w1.drawn + 1, os := w1.os, output := w1.output } : World).cell? ad = w1.cell? ad := fun _ => rfl
      clear hT hA
      go_enter Tryz.func27, Tryz.ntmps27
      go_wp2_with fail
      rw [← hw1]
      clear hw1
      go_still_tail 6, (by kernel_rfl)
      change wpList _ _ _ _ _ w1.drew
      clear q c b0 b1 b2 b3 b4
      obtain ⟨wd, hwd⟩ : ∃ wd, wd = w1.drew := ⟨_, rfl⟩
      have HGd := Lib.hid (show Blk wd w.heap.size 28 [.int .i64 1, .string t, .int .i64 n, .int .u32 (a : Int), .int .i64 b] by rw [hwd]; exact HG.out)
      rw [← hwd] at HA ⊢
      clear hwd HG
      go_wp2_with fail
      refine (HO.out 1 wd).mono ?_
      rintro e w2 ⟨rfl, hb2⟩
      have hG2 := HGd.out.kept hb2
      have HB2 := Lib.hid (HA.out.trans (hb2.mono HA.out.size))
      obtain ⟨⟨b0, b1, b2, b3, b4⟩, -⟩ := hG2.facts5
      have hgl := hG2.lt
      clear hb2 hG2 HGd HA HO
      go_wp2_with fail
      refine (HF.out w2).mono ?_
      rintro e w3 ⟨rfl, hw3⟩
      subst hw3
      go_wp2
      go_ret
      exact ⟨rfl, HB2.out⟩
    · obtain ⟨w1, hw1⟩ : ∃ w1, w1 = w.alloc (.cells #[.int .i64 4, .string t, .int .i64 n, .int .u32 (a : Int), .int .i64 b] 28) := ⟨_, rfl⟩
      have hA : Below w.heap.size w w1 := by rw [hw1]; exact (Below.refl _ _).alloc (Nat.le_refl _) _
      have c := (hT.2.below hA).at 4 (by decide) 9 1 rfl rfl
      have HA := Lib.hid hA.drew
      have HG := Lib.hid (show Blk w1 w.heap.size 28 [.int .i64 4, .string t, .int .i64 n, .int .u32 (a : Int), .int .i64 b] by rw [hw1]; exact Blk.new w _ _)
      obtain ⟨⟨b0, b1, b2, b3, b4⟩, -⟩ := HG.out.facts5
      have q : ∀ ad : Addr, ({ heap := w1.heap, tape := w1.tape, drawn := w1.drawn + 1, os := w1.os, output := w1.output } : World).cell? ad = w1.cell? ad := fun _ => rfl
      clear hT hA
      go_enter Tryz.func27, Tryz.ntmps27
      go_wp2_with fail
      rw [← hw1]
      clear hw1
      go_still_tail 6, (by kernel_rfl)
      change wpList _ _ _ _ _ w1.drew
      clear q c b0 b1 b2 b3 b4
      obtain ⟨wd, hwd⟩ : ∃ wd, wd = w1.drew := ⟨_, rfl⟩
      have HGd := Lib.hid (show Blk wd w.heap.size 28 [.int .i64 4, .string t, .int .i64 n, .int .u32 (a : Int), .int .i64 b] by rw [hwd]; exact HG.out)
      rw [← hwd] at HA ⊢
      clear hwd HG
      go_wp2_with fail
      refine (HO.out 4 wd).mono ?_
      rintro e w2 ⟨rfl, hb2⟩
      have hG2 := HGd.out.kept hb2
      have HB2 := Lib.hid (HA.out.trans (hb2.mono HA.out.size))
      obtain ⟨⟨b0, b1, b2, b3, b4⟩, -⟩ := hG2.facts5
      have hgl := hG2.lt
      clear hb2 hG2 HGd HA HO
      go_wp2_with fail
      refine (HF.out w2).mono ?_
      rintro e w3 ⟨rfl, hw3⟩
      subst hw3
      go_wp2
      go_ret
      exact ⟨rfl, HB2.out⟩
set_option maxRecDepth 20000 in
set_option maxHeartbeats 8000000 in
/-- The kind that has a key or none. -/
theorem check_shared (t : ByteArray) (n : Int) (a : Nat) (b : Int) (w : World) (hs : t.size ≤ maxLen) (hT : BTabs w) :
    Calls Tryz.prog 27 #[setV ⟨6, t, n, a, b⟩] w fun e w' => e = .returned (.int .i64 ((if Bt.others t n a b 1 = true then 3 else if t.size = 0 then 0 else if t = Bt.zeros then 3 else Hx.checkErr t.data.toList : Nat) : Int)) ∧ Below w.heap.size w w' := by
  have HO := Lib.hid (fun k W => batch_hasOthers k t n a b 1 (by decide) W)
  have HF := Lib.hid (fun W => batch_checkShared t W hs)
  generalize (if t.size = 0 then 0 else if t = Bt.zeros then 3 else Hx.checkErr t.data.toList : Nat) = z at *
  clear hs
  have hlt := hT.2.1
  have HT := Lib.hid hT
  unfold setV at HO ⊢
  generalize Bt.others t n a b 1 = r at *
  cases r with
  | true =>
    rw [if_pos rfl]
    obtain ⟨w1, hw1⟩ : ∃ w1, w1 = w.alloc (.cells #[.int .i64 6, .string t, .int .i64 n, .int .u32 (a : Int), .int .i64 b] 28) := ⟨_, rfl⟩
    have hA : Below w.heap.size w w1 := by rw [hw1]; exact (Below.refl _ _).alloc (Nat.le_refl _) _
    have c := (hT.2.below hA).at 6 (by decide) 13 1 rfl rfl
    have HA := Lib.hid hA.drew
    have HG := Lib.hid (show Blk w1 w.heap.size 28 [.int .i64 6, .string t, .int .i64 n, .int .u32 (a : Int), .int .i64 b] by rw [hw1]; exact Blk.new w _ _)
    obtain ⟨⟨b0, b1, b2, b3, b4⟩, -⟩ := HG.out.facts5
    have q : ∀ ad : Addr, ({ heap := w1.heap, tape := w1.tape, drawn := w1.drawn + 1, os := w1.os, output := w1.output } : World).cell? ad = w1.cell? ad := fun _ => rfl
    clear hT hA
    go_enter Tryz.func27, Tryz.ntmps27
    go_wp2_with fail
    rw [← hw1]
    clear hw1
    go_still_tail 6, (by kernel_rfl)
    change wpList _ _ _ _ _ w1.drew
    clear q c b0 b1 b2 b3 b4
    obtain ⟨wd, hwd⟩ : ∃ wd, wd = w1.drew := ⟨_, rfl⟩
    have HGd := Lib.hid (show Blk wd w.heap.size 28 [.int .i64 6, .string t, .int .i64 n, .int .u32 (a : Int), .int .i64 b] by rw [hwd]; exact HG.out)
    rw [← hwd] at HA ⊢
    clear hwd HG
    go_wp2_with fail
    refine (HO.out 6 wd).mono ?_
    rintro e w2 ⟨rfl, hb2⟩
    have hG2 := HGd.out.kept hb2
    have HB2 := Lib.hid (HA.out.trans (hb2.mono HA.out.size))
    obtain ⟨⟨b0, b1, b2, b3, b4⟩, -⟩ := hG2.facts5
    have hgl := hG2.lt
    clear hb2 hG2 HGd HA HO
    go_wp2
    go_ret
    exact ⟨rfl, HB2.out⟩
  | false =>
    rw [if_neg (by decide)]
    obtain ⟨w1, hw1⟩ : ∃ w1, w1 = w.alloc (.cells #[.int .i64 6, .string t, .int .i64 n, .int .u32 (a : Int), .int .i64 b] 28) := ⟨_, rfl⟩
    have hA : Below w.heap.size w w1 := by rw [hw1]; exact (Below.refl _ _).alloc (Nat.le_refl _) _
    have c := (hT.2.below hA).at 6 (by decide) 13 1 rfl rfl
    have HA := Lib.hid hA.drew
    have HG := Lib.hid (show Blk w1 w.heap.size 28 [.int .i64 6, .string t, .int .i64 n, .int .u32 (a : Int), .int .i64 b] by rw [hw1]; exact Blk.new w _ _)
    obtain ⟨⟨b0, b1, b2, b3, b4⟩, -⟩ := HG.out.facts5
    have q : ∀ ad : Addr, ({ heap := w1.heap, tape := w1.tape, drawn := w1.drawn + 1, os := w1.os, output := w1.output } : World).cell? ad = w1.cell? ad := fun _ => rfl
    clear hT hA
    go_enter Tryz.func27, Tryz.ntmps27
    go_wp2_with fail
    rw [← hw1]
    clear hw1
    go_still_tail 6, (by kernel_rfl)
    change wpList _ _ _ _ _ w1.drew
    clear q c b0 b1 b2 b3 b4
    obtain ⟨wd, hwd⟩ : ∃ wd, wd = w1.drew := ⟨_, rfl⟩
    have HGd := Lib.hid (show Blk wd w.heap.size 28 [.int .i64 6, .string t, .int .i64 n, .int .u32 (a : Int), .int .i64 b] by rw [hwd]; exact HG.out)
    rw [← hwd] at HA ⊢
    clear hwd HG
    go_wp2_with fail
    refine (HO.out 6 wd).mono ?_
    rintro e w2 ⟨rfl, hb2⟩
    have hG2 := HGd.out.kept hb2
    have HB2 := Lib.hid (HA.out.trans (hb2.mono HA.out.size))
    obtain ⟨⟨b0, b1, b2, b3, b4⟩, -⟩ := hG2.facts5
    have hgl := hG2.lt
    clear hb2 hG2 HGd HA HO
    go_wp2_with fail
    refine (HF.out w2).mono ?_
    rintro e w3 ⟨rfl, hw3⟩
    subst hw3
    go_wp2
    go_ret
    exact ⟨rfl, HB2.out⟩
set_option maxRecDepth 20000 in
set_option maxHeartbeats 8000000 in
/-- The kind that has an endpoint. -/
theorem check_end (t : ByteArray) (n : Int) (a : Nat) (b : Int) (w : World) (hs : t.size ≤ 1048576) (hT : BTabs w) :
    Calls Tryz.prog 27 #[setV ⟨7, t, n, a, b⟩] w fun e w' => e = .returned (.int .i64 ((if Bt.others t n a b 1 = true then 3 else Ad.endErr t.data.toList : Nat) : Int)) ∧ Below w.heap.size w w' := by
  have HO := Lib.hid (fun k W => batch_hasOthers k t n a b 1 (by decide) W)
  have HF := Lib.hid (fun W hW => addr_End t W hs (hT.1.below hW))
  generalize Ad.endErr t.data.toList = z at *
  generalize Ad.endAddr t.data.toList = z1 at *
  generalize Ad.endPort t.data.toList = z2 at *
  clear hs
  have hlt := hT.2.1
  have HT := Lib.hid hT
  unfold setV at HO ⊢
  generalize Bt.others t n a b 1 = r at *
  cases r with
  | true =>
    rw [if_pos rfl]
    obtain ⟨w1, hw1⟩ : ∃ w1, w1 = w.alloc (.cells #[.int .i64 7, .string t, .int .i64 n, .int .u32 (a : Int), .int .i64 b] 28) := ⟨_, rfl⟩
    have hA : Below w.heap.size w w1 := by rw [hw1]; exact (Below.refl _ _).alloc (Nat.le_refl _) _
    have c := (hT.2.below hA).at 7 (by decide) 15 1 rfl rfl
    have HA := Lib.hid hA.drew
    have HG := Lib.hid (show Blk w1 w.heap.size 28 [.int .i64 7, .string t, .int .i64 n, .int .u32 (a : Int), .int .i64 b] by rw [hw1]; exact Blk.new w _ _)
    obtain ⟨⟨b0, b1, b2, b3, b4⟩, -⟩ := HG.out.facts5
    have q : ∀ ad : Addr, ({ heap := w1.heap, tape := w1.tape, drawn := w1.drawn + 1, os := w1.os, output := w1.output } : World).cell? ad = w1.cell? ad := fun _ => rfl
    clear hT hA
    go_enter Tryz.func27, Tryz.ntmps27
    go_wp2_with fail
    rw [← hw1]
    clear hw1
    go_still_tail 6, (by kernel_rfl)
    change wpList _ _ _ _ _ w1.drew
    clear q c b0 b1 b2 b3 b4
    obtain ⟨wd, hwd⟩ : ∃ wd, wd = w1.drew := ⟨_, rfl⟩
    have HGd := Lib.hid (show Blk wd w.heap.size 28 [.int .i64 7, .string t, .int .i64 n, .int .u32 (a : Int), .int .i64 b] by rw [hwd]; exact HG.out)
    rw [← hwd] at HA ⊢
    clear hwd HG
    go_wp2_with fail
    refine (HO.out 7 wd).mono ?_
    rintro e w2 ⟨rfl, hb2⟩
    have hG2 := HGd.out.kept hb2
    have HB2 := Lib.hid (HA.out.trans (hb2.mono HA.out.size))
    obtain ⟨⟨b0, b1, b2, b3, b4⟩, -⟩ := hG2.facts5
    have hgl := hG2.lt
    clear hb2 hG2 HGd HA HO
    go_wp2
    go_ret
    exact ⟨rfl, HB2.out⟩
  | false =>
    rw [if_neg (by decide)]
    obtain ⟨w1, hw1⟩ : ∃ w1, w1 = w.alloc (.cells #[.int .i64 7, .string t, .int .i64 n, .int .u32 (a : Int), .int .i64 b] 28) := ⟨_, rfl⟩
    have hA : Below w.heap.size w w1 := by rw [hw1]; exact (Below.refl _ _).alloc (Nat.le_refl _) _
    have c := (hT.2.below hA).at 7 (by decide) 15 1 rfl rfl
    have HA := Lib.hid hA.drew
    have HG := Lib.hid (show Blk w1 w.heap.size 28 [.int .i64 7, .string t, .int .i64 n, .int .u32 (a : Int), .int .i64 b] by rw [hw1]; exact Blk.new w _ _)
    obtain ⟨⟨b0, b1, b2, b3, b4⟩, -⟩ := HG.out.facts5
    have q : ∀ ad : Addr, ({ heap := w1.heap, tape := w1.tape, drawn := w1.drawn + 1, os := w1.os, output := w1.output } : World).cell? ad = w1.cell? ad := fun _ => rfl
    clear hT hA
    go_enter Tryz.func27, Tryz.ntmps27
    go_wp2_with fail
    rw [← hw1]
    clear hw1
    go_still_tail 6, (by kernel_rfl)
    change wpList _ _ _ _ _ w1.drew
    clear q c b0 b1 b2 b3 b4
    obtain ⟨wd, hwd⟩ : ∃ wd, wd = w1.drew := ⟨_, rfl⟩
    have HGd := Lib.hid (show Blk wd w.heap.size 28 [.int .i64 7, .string t, .int .i64 n, .int .u32 (a : Int), .int .i64 b] by rw [hwd]; exact HG.out)
    rw [← hwd] at HA ⊢
    clear hwd HG
    go_wp2_with fail
    refine (HO.out 7 wd).mono ?_
    rintro e w2 ⟨rfl, hb2⟩
    have hG2 := HGd.out.kept hb2
    have HB2 := Lib.hid (HA.out.trans (hb2.mono HA.out.size))
    obtain ⟨⟨b0, b1, b2, b3, b4⟩, -⟩ := hG2.facts5
    have hgl := hG2.lt
    clear hb2 hG2 HGd HA HO
    go_wp2_with fail
    refine (HF.out w2 HB2.out).mono ?_
    rintro e w3 ⟨rfl, hb3⟩
    have hb := HB2.out.trans (hb3.mono HB2.out.size)
    clear hb3
    go_wp2
    go_ret
    exact ⟨rfl, hb⟩
set_option maxRecDepth 20000 in
set_option maxHeartbeats 8000000 in
/-- The kind that has a network. -/
theorem check_net (t : ByteArray) (n : Int) (a : Nat) (b : Int) (w : World) (ha : a < 4294967296) (hT : BTabs w) :
    Calls Tryz.prog 27 #[setV ⟨10, t, n, a, b⟩] w fun e w' => e = .returned (.int .i64 ((if Bt.others t n a b 3 = true then 3 else Nt.err a b : Nat) : Int)) ∧ Below w.heap.size w w' := by
  have HO := Lib.hid (fun k W => batch_hasOthers k t n a b 3 (by decide) W)
  have HF := Lib.hid (fun W => net_Check0 a b W ha)
  unfold netV at HF
  generalize Nt.err a b = z at *
  clear ha
  have hlt := hT.2.1
  have HT := Lib.hid hT
  unfold setV at HO ⊢
  generalize Bt.others t n a b 3 = r at *
  cases r with
  | true =>
    rw [if_pos rfl]
    obtain ⟨w1, hw1⟩ : ∃ w1, w1 = w.alloc (.cells #[.int .i64 10, .string t, .int .i64 n, .int .u32 (a : Int), .int .i64 b] 28) := ⟨_, rfl⟩
    have hA : Below w.heap.size w w1 := by rw [hw1]; exact (Below.refl _ _).alloc (Nat.le_refl _) _
    have c := (hT.2.below hA).at 10 (by decide) 21 3 rfl rfl
    have HA := Lib.hid hA.drew
    have HG := Lib.hid (show Blk w1 w.heap.size 28 [.int .i64 10, .string t, .int .i64 n, .int .u32 (a : Int), .int .i64 b] by rw [hw1]; exact Blk.new w _ _)
    obtain ⟨⟨b0, b1, b2, b3, b4⟩, -⟩ := HG.out.facts5
    have q : ∀ ad : Addr, ({ heap := w1.heap, tape := w1.tape, drawn := w1.drawn + 1, os := w1.os, output := w1.output } : World).cell? ad = w1.cell? ad := fun _ => rfl
    clear hT hA
    go_enter Tryz.func27, Tryz.ntmps27
    go_wp2_with fail
    rw [← hw1]
    clear hw1
    go_still_tail 6, (by kernel_rfl)
    change wpList _ _ _ _ _ w1.drew
    clear q c b0 b1 b2 b3 b4
    obtain ⟨wd, hwd⟩ : ∃ wd, wd = w1.drew := ⟨_, rfl⟩
    have HGd := Lib.hid (show Blk wd w.heap.size 28 [.int .i64 10, .string t, .int .i64 n, .int .u32 (a : Int), .int .i64 b] by rw [hwd]; exact HG.out)
    rw [← hwd] at HA ⊢
    clear hwd HG
    go_wp2_with fail
    refine (HO.out 10 wd).mono ?_
    rintro e w2 ⟨rfl, hb2⟩
    have hG2 := HGd.out.kept hb2
    have HB2 := Lib.hid (HA.out.trans (hb2.mono HA.out.size))
    obtain ⟨⟨b0, b1, b2, b3, b4⟩, -⟩ := hG2.facts5
    have hgl := hG2.lt
    clear hb2 hG2 HGd HA HO
    go_wp2
    go_ret
    exact ⟨rfl, HB2.out⟩
  | false =>
    rw [if_neg (by decide)]
    obtain ⟨w1, hw1⟩ : ∃ w1, w1 = w.alloc (.cells #[.int .i64 10, .string t, .int .i64 n, .int .u32 (a : Int), .int .i64 b] 28) := ⟨_, rfl⟩
    have hA : Below w.heap.size w w1 := by rw [hw1]; exact (Below.refl _ _).alloc (Nat.le_refl _) _
    have c := (hT.2.below hA).at 10 (by decide) 21 3 rfl rfl
    have HA := Lib.hid hA.drew
    have HG := Lib.hid (show Blk w1 w.heap.size 28 [.int .i64 10, .string t, .int .i64 n, .int .u32 (a : Int), .int .i64 b] by rw [hw1]; exact Blk.new w _ _)
    obtain ⟨⟨b0, b1, b2, b3, b4⟩, -⟩ := HG.out.facts5
    have q : ∀ ad : Addr, ({ heap := w1.heap, tape := w1.tape, drawn := w1.drawn + 1, os := w1.os, output := w1.output } : World).cell? ad = w1.cell? ad := fun _ => rfl
    clear hT hA
    go_enter Tryz.func27, Tryz.ntmps27
    go_wp2_with fail
    rw [← hw1]
    clear hw1
    go_still_tail 6, (by kernel_rfl)
    change wpList _ _ _ _ _ w1.drew
    clear q c b0 b1 b2 b3 b4
    obtain ⟨wd, hwd⟩ : ∃ wd, wd = w1.drew := ⟨_, rfl⟩
    have HGd := Lib.hid (show Blk wd w.heap.size 28 [.int .i64 10, .string t, .int .i64 n, .int .u32 (a : Int), .int .i64 b] by rw [hwd]; exact HG.out)
    rw [← hwd] at HA ⊢
    clear hwd HG
    go_wp2_with fail
    refine (HO.out 10 wd).mono ?_
    rintro e w2 ⟨rfl, hb2⟩
    have hG2 := HGd.out.kept hb2
    have HB2 := Lib.hid (HA.out.trans (hb2.mono HA.out.size))
    obtain ⟨⟨b0, b1, b2, b3, b4⟩, -⟩ := hG2.facts5
    have hgl := hG2.lt
    clear hb2 hG2 HGd HA HO
    go_wp2_with fail
    refine (HF.out w2).mono ?_
    rintro e w3 ⟨rfl, hb3⟩
    have hb := HB2.out.trans (hb3.mono HB2.out.size)
    clear hb3
    go_wp2
    go_ret
    exact ⟨rfl, hb⟩
/-- What is wrong with a setting. -/
theorem batch_Check (s : Bt.S) (w : World) (hs : s.t.size ≤ 1048576) (ha : s.a < 4294967296) (hT : BTabs w) :
    Calls Tryz.prog 27 #[setV s] w fun e w' => e = .returned (.int .i64 (Bt.err s : Int)) ∧ Below w.heap.size w w' := by
  by_cases hk : s.k < 1 ∨ 10 < s.k
  · have Hr := Lib.hid (show Bt.err s = 2 by unfold Bt.err; rw [if_pos hk])
    obtain ⟨k, t, n, a, b⟩ := s
    have HB : Hid (∀ o, Below w.heap.size w (w.alloc o)) := Lib.hid fun o => (Below.refl _ _).alloc (Nat.le_refl _) _
    unfold setV
    simp only at hk ⊢
    rcases hk with h | h
    · have d1 : decide (k < 1) = true := decide_eq_true h
      go_enter Tryz.func27, Tryz.ntmps27
      go_wp2
      go_ret
      exact ⟨by rw [Hr.out]; rfl, HB.out _⟩
    · have d1 : decide (k < 1) = false := decide_eq_false (by omega)
      have d2 : decide (11 ≤ k) = true := decide_eq_true (by omega)
      go_enter Tryz.func27, Tryz.ntmps27
      go_wp2
      go_ret
      exact ⟨by rw [Hr.out]; rfl, HB.out _⟩
  have h1 : 1 ≤ s.k := by omega
  have h2 : s.k ≤ 10 := by omega
  have hml : s.t.size ≤ maxLen := by unfold maxLen; omega
  have he : Bt.err s = (if Bt.others s.t s.n s.a s.b (Bt.fld s.k) = true then 3 else if Bt.fld s.k = 2 then (if s.n < 0 ∨ 65535 < s.n then 4 else 0) else if Bt.fld s.k = 3 then Nt.err s.a s.b else
    if s.k = 7 then Ad.endErr s.t.data.toList else if s.k = 6 ∧ s.t.size = 0 then 0 else if s.k = 6 ∧ s.t = Bt.zeros then 3 else if Bt.fld s.k = 1 then Hx.checkErr s.t.data.toList else 0) := by
    unfold Bt.err
    rw [if_neg (by omega), Bt.more_others]
  rw [he]
  clear he
  obtain ⟨k, t, n, a, b⟩ := s
  simp only at h1 h2 hs ha hml ⊢
  rcases Bt.fld_cases k h1 h2 with rfl | rfl | rfl | rfl | rfl | rfl | rfl | rfl | rfl | rfl
  · exact check_key 1 (by omega) t n a b w hml hT
  · exact check_num 2 (by omega) t n a b w hT
  · exact check_none 3 (by omega) t n a b w hT
  · exact check_key 4 (by omega) t n a b w hml hT
  · exact check_none 5 (by omega) t n a b w hT
  · have := check_shared t n a b w hml hT
    rw [show Bt.fld 6 = 1 from rfl]
    simpa using this
  · exact check_end t n a b w hs hT
  · exact check_num 8 (by omega) t n a b w hT
  · exact check_none 9 (by omega) t n a b w hT
  · exact check_net t n a b w ha hT
end Go.Proofs.YthlagpmacnijfaaGreatDoor

namespace Go.Proofs.YthlagpmacnijfaaGreatDoor
open Go.RowKit

theorem set_beside (w : World) (xs ys : List Value) (t u : TypeId) : Below w.heap.size w ((w.alloc (.cells xs.toArray t)).alloc (.cells ys.toArray u)) ∧ Blk ((w.alloc (.cells xs.toArray t)).alloc (.cells ys.toArray u)) w.heap.size t xs ∧ Blk ((w.alloc (.cells xs.toArray t)).alloc (.cells ys.toArray u)) (w.heap.size + 1) u ys := by
  refine ⟨((Below.refl _ _).alloc (Nat.le_refl _) _).alloc (by simp) _, (Blk.new w t xs).kept ((Below.refl _ _).alloc (Nat.le_refl _) _), ?_⟩
  have := Blk.new (w.alloc (.cells xs.toArray t)) u ys
  rwa [show (w.alloc (.cells xs.toArray t)).heap.size = w.heap.size + 1 by simp] at this
theorem err_net_bits {s : Bt.S} (h : Bt.err s = 0) : -9223372036854775808 ≤ s.b ∧ s.b ≤ 9223372036854775807 := by
  obtain ⟨h1, h2⟩ := Bt.err_in h
  obtain ⟨-, -, h3⟩ := Bt.more_of h2
  rcases h3 with ⟨-, h3⟩ | h3
  · omega
  · have := (Bt.err_rest h).2.1 h3
    unfold Nt.err at this
    split at this <;> first | omega | cases this
def lineVal (G k : Nat) (st : ByteArray) (sn : Int) (sa : Nat) (sb : Int) (X V : ByteArray) (j : Nat) : Value :=
  match j with
  | 0 => .pointer (some ⟨G, 0, none⟩)
  | 1 => .int .i64 (k : Int)
  | 2 => .pointer (some ⟨0, k * 2, none⟩)
  | 3 => .pointer (some ⟨0, k * 2, none⟩)
  | 4 => .string X
  | 5 => .agg #[.int .i64 (k : Int), .string st, .int .i64 sn, .int .u32 (sa : Int), .int .i64 sb]
  | 6 => .string V
  | 7 => .agg #[.string X, .string V]
  | _ => .int .i64 0
def lineDst (i : Nat) : Option Nat := ([some 11, some 12, some 13, some 14, some 15, some 16, some 17, some 18, none, some 3] : List (Option Nat)).getD i none
theorem line_dist (i j : Nat) (h : i < j) (hj : j < 10) : lineDst i = none ∨ lineDst i ≠ lineDst j := (by decide : ∀ j, j < 10 → ∀ i, i < j → (lineDst i = none ∨ lineDst i ≠ lineDst j)) j hj i h
theorem line_in (i d : Nat) (hi : i < 10) (hd : lineDst i = some d) : (d = 3 ∨ 11 ≤ d) ∧ d ≤ 18 := by
  have h := (by decide : ∀ i, i < 10 → ((lineDst i).getD 3 = 3 ∨ 11 ≤ (lineDst i).getD 3) ∧ (lineDst i).getD 0 ≤ 18) i hi
  rw [hd] at h
  exact h
theorem line_put (F : Nat → Value) (a0 : Act) : putAll lineDst F a0 10 = (((((((((a0.put (some 11) (F 0)).put (some 12) (F 1)).put (some 13) (F 2)).put (some 14) (F 3)).put (some 15) (F 4)).put (some 16) (F 5)).put (some 17) (F 6)).put (some 18) (F 7)).put (some 3) (F 9)) := by
  rw [putAll_some 10 9 3 _ rfl rfl rfl, putAll_none 9 8 rfl rfl, putAll_some 8 7 18 _ rfl rfl rfl, putAll_some 7 6 17 _ rfl rfl rfl, putAll_some 6 5 16 _ rfl rfl rfl, putAll_some 5 4 15 _ rfl rfl rfl, putAll_some 4 3 14 _ rfl rfl rfl, putAll_some 3 2 13 _ rfl rfl rfl, putAll_some 2 1 12 _ rfl rfl rfl, putAll_some 1 0 11 _ rfl rfl rfl]
  rfl
set_option maxRecDepth 20000 in
set_option maxHeartbeats 8000000 in
theorem batch_Line (s : Bt.S) (w : World) (hs : s.t.size ≤ 1048576) (ha : s.a < 4294967296) (hn0 : -9223372036854775808 ≤ s.n) (hn1 : s.n ≤ 9223372036854775807) (hT : BTabs w) :
    Calls Tryz.prog 15 #[setV s] w fun e w' => e = .returned (.tuple #[lineV (Bt.line s), .int .i64 (Bt.err s : Int)]) ∧ Below w.heap.size w w' := by
  have hS := set_beside w (Bt.setC s) (Ln.lineC Bt.noLine) 28 23
  obtain ⟨w1, hw1⟩ : ∃ w1, w1 = (w.alloc (.cells (Bt.setC s).toArray 28)).alloc (.cells (Ln.lineC Bt.noLine).toArray 23) := ⟨_, rfl⟩
  rw [← hw1] at hS
  obtain ⟨hA, hG, hR⟩ := hS
  have HA := Lib.hid hA
  have HG := Lib.hid hG
  have HR := Lib.hid hR
  have HC := Lib.hid (fun W hW => batch_Check s W hs ha (hT.below hW))
  have HT := Lib.hid hT
  have hgl := hG.lt
  have hrl := hR.lt
  clear hT
  by_cases he : Bt.err s = 0
  · obtain ⟨hb0, hb1⟩ := err_net_bits he
    obtain ⟨⟨h1, h2⟩, -⟩ := Bt.err_in he
    have HW := Lib.hid (fun W hW => batch_write s W h1 h2 ha hn0 hn1 hb0 hb1 (HT.out.below hW))
    have hl : Bt.line s = ⟨Bt.nameOf s.k.toNat, Bt.val s⟩ := by unfold Bt.line; rw [if_pos he]; rfl
    obtain ⟨k, hk⟩ : ∃ k : Nat, s.k = (k : Int) := ⟨s.k.toNat, by omega⟩
    have hk11 : k < 11 := by omega
    rw [hl]
    rw [he] at HC ⊢
    rw [hk, Int.toNat_natCast]
    clear hl he hs ha hn0 hn1 hb0 hb1 h1 h2
    obtain ⟨sk, st, sn, sa, sb⟩ := s
    simp only at hk
    subst hk
    have hw1' : w1 = (w.alloc (.cells #[.int .i64 k, .string st, .int .i64 sn, .int .u32 (sa : Int), .int .i64 sb] 28)).alloc (.cells #[.string ⟨#[]⟩, .string ⟨#[]⟩] 23) := hw1
    have HN : Hid (∀ W, Below w.heap.size w W → W.cell? ⟨0, k * 2, none⟩ = some (.string (Bt.nameOf k))) := Lib.hid fun W hW => ((HT.out.2.below hW).2 k hk11).1
    generalize Bt.val ⟨(k : Int), st, sn, sa, sb⟩ = V at *
    generalize Bt.nameOf k = X at *
    obtain ⟨⟨g0, g1, g2, g3, g4⟩, -⟩ := hG.facts5
    have i0 : (0 : Int) ≤ (k : Int) := by omega
    have i1 : (k : Int) < 11 := by omega
    unfold setV at HC HW ⊢
    unfold lineV
    clear hA hG hR hw1
    go_enter Tryz.func15, Tryz.ntmps15
    go_upto_region 1 with fail
    rw [← hw1']
    clear hw1'
    go_wp2_with fail
    refine (HC.out w1 HA.out).mono ?_
    rintro e w2 ⟨rfl, hb2⟩
    have hG2 := HG.out.kept hb2
    have hR2 := HR.out.kept hb2
    have HG2 := Lib.hid hG2
    have HR2 := Lib.hid hR2
    have HA2 := Lib.hid (HA.out.trans (hb2.mono HA.out.size))
    have hlt0 := HT.out.2.1
    have HB2 := HA2
    clear g0 g1 g2 g3 g4 hG2 hR2 hb2 HC
    go_upto_region 4 with fail
    have hmix : Tryz.prog.follows .mixedOrders = true := by kernel_rfl
    refine wp_region_vals 10 8 lineDst (fun b' j v W => (b' = true ∧ j < 8) ∨ j = 8 ∨ v = lineVal w.heap.size k st sn sa sb X V j) (fun b' W => Below w.heap.size w W ∧ (b' = false → Below w2.heap.size w2 W) ∧ (b' = true → Blk W (w.heap.size + 1) 23 [.string X, .string V])) hmix rfl line_dist ?low ?inn ?stab ?drop ?late ?s0 ?step ?done
    case low =>
      intro i o ho
      have hi : i < 10 := by
        have := (Array.getElem?_eq_some_iff.1 ho).1
        simpa using this
      have hc : i = 0 ∨ i = 1 ∨ i = 2 ∨ i = 3 ∨ i = 4 ∨ i = 5 ∨ i = 6 ∨ i = 7 ∨ i = 8 ∨ i = 9 := by omega
      rcases hc with rfl | rfl | rfl | rfl | rfl | rfl | rfl | rfl | rfl | rfl <;> (obtain rfl := Option.some.inj ho; simp)
    case inn =>
      intro i d hi hd
      have hle := (line_in i d hi hd).2
      exact Nat.lt_of_le_of_lt hle (of_decide_eq_true rfl)
    case stab => exact fun b' j u W W' hb h => h
    case drop => exact fun j u W hj => .inl ⟨rfl, hj⟩
    case late =>
      intro j o hj ho
      have hi : j < 10 := by
        have := (Array.getElem?_eq_some_iff.1 ho).1
        simpa using this
      obtain rfl : j = 9 := by omega
      obtain rfl := Option.some.inj ho
      exact ⟨⟨8, .chain⟩, by simp, rfl, rfl⟩
    case s0 => exact ⟨HA2.out.drew, fun _ => (Below.refl _ _).drew, fun h => by cases h⟩
    case done =>
      intro F W hS hR
      have h9 : F 9 = .int .i64 0 := by
        rcases hR 9 (by decide) with ⟨_, h⟩ | h | h
        · omega
        · omega
        · exact h
      have HE := Lib.hid (hS.2.2 rfl)
      have HBf := Lib.hid hS.1
      rw [line_put, h9]
      simp only [Act.put, List.setIfInBounds_toArray, List.set_cons_succ, List.set_cons_zero]
      clear hR hS h9
      go_wp2
      exact bodyPost_ret (ret_cell (load_line HE.out rfl) Tryz.results15 rfl rfl) rfl ⟨rfl, HBf.out⟩
    case step =>
      intro listed W hs' hcl hSW A0 F hget hR hold i o ho h0 hdep
      have hi : i < 10 := by
        have := (Array.getElem?_eq_some_iff.1 ho).1
        simpa using this
      have hc : i = 0 ∨ i = 1 ∨ i = 2 ∨ i = 3 ∨ i = 4 ∨ i = 5 ∨ i = 6 ∨ i = 7 ∨ i = 8 ∨ i = 9 := by omega
      have nm : i < 9 → listed.getD 8 false = false := by
        intro hi8
        cases hx : listed.getD 8 false with
        | false => rfl
        | true =>
          exfalso
          have l7 := hcl 8 _ rfl hx ⟨7, .data⟩ (by simp) rfl
          have l6 := hcl 7 _ rfl l7 ⟨6, .data⟩ (by simp) rfl
          have l4 := hcl 7 _ rfl l7 ⟨4, .data⟩ (by simp) rfl
          have l5 := hcl 6 _ rfl l6 ⟨5, .data⟩ (by simp) rfl
          have l3 := hcl 4 _ rfl l4 ⟨3, .data⟩ (by simp) rfl
          have l2 := hcl 3 _ rfl l3 ⟨2, .data⟩ (by simp) rfl
          have l1 := hcl 2 _ rfl l2 ⟨1, .data⟩ (by simp) rfl
          have l0 := hcl 1 _ rfl l1 ⟨0, .data⟩ (by simp) rfl
          rcases hc with rfl | rfl | rfl | rfl | rfl | rfl | rfl | rfl | rfl | rfl <;> first | omega | (simp_all)
      have Hsp := Lib.hid (show ∀ j, j < 8 → i < 9 → listed.getD j false = true → F j = lineVal w.heap.size k st sn sa sb X V j by
        intro j hj hi8 hlj
        rcases hR j (by omega) hlj with ⟨hx, _⟩ | h | h
        · rw [nm hi8] at hx; cases hx
        · omega
        · exact h)
      have Hget := Lib.hid hget
      have Hold := Lib.hid hold
      have HS := Lib.hid hSW
      have Nm := Lib.hid nm
      clear hget hcl hold hSW hR nm
      rcases hc with rfl | rfl | rfl | rfl | rfl | rfl | rfl | rfl | rfl | rfl
      · obtain rfl := Option.some.inj ho
        have e1 : A0.tmps.getD 1 undef = .pointer (some ⟨w.heap.size, 0, none⟩) := (Hold.out 1 (fun j hj hd => by have := (line_in j 1 hj hd).1; omega)).trans rfl
        refine wpOp_mono (fun a' w' (h : ∃ v, a' = A0.put (some 11) v ∧ Hid (v = lineVal w.heap.size k st sn sa sb X V 0) ∧ Hid (Below W.heap.size W w')) => by obtain ⟨v, h1, h2, h3⟩ := h; exact ⟨v, h1, .inl ⟨by decide, ⟨HS.out.1.trans (h3.out.mono HS.out.1.size), fun hx => (HS.out.2.1 hx).trans (h3.out.mono (HS.out.2.1 hx).size), fun hx => absurd (Nm.out (by decide)) (by rw [hx]; decide)⟩, .inr (.inr h2.out), h3.out⟩⟩) ?_
        refine wpOp_plain rfl rfl ?_
        clear hdep h0
        unfold Oper.wp
        go_simp
        exact ⟨_, rfl, Lib.hid rfl, Lib.hid (Below.refl _ _)⟩
      · obtain rfl := Option.some.inj ho
        have v0 : A0.tmps.getD 11 undef = .pointer (some ⟨w.heap.size, 0, none⟩) := (Hget.out 0 11 (by decide) (hdep ⟨0, .data⟩ (by simp) rfl) rfl).trans (Hsp.out 0 (by decide) (by decide) (hdep ⟨0, .data⟩ (by simp) rfl))
        have HGW := Lib.hid (HG2.out.kept (HS.out.2.1 (Nm.out (by decide))))
        have y0 := HGW.out.cell 0 rfl
        refine wpOp_mono (fun a' w' (h : ∃ v, a' = A0.put (some 12) v ∧ Hid (v = lineVal w.heap.size k st sn sa sb X V 1) ∧ Hid (Below W.heap.size W w')) => by obtain ⟨v, h1, h2, h3⟩ := h; exact ⟨v, h1, .inl ⟨by decide, ⟨HS.out.1.trans (h3.out.mono HS.out.1.size), fun hx => (HS.out.2.1 hx).trans (h3.out.mono (HS.out.2.1 hx).size), fun hx => absurd (Nm.out (by decide)) (by rw [hx]; decide)⟩, .inr (.inr h2.out), h3.out⟩⟩) ?_
        refine wpOp_plain rfl rfl ?_
        clear hdep h0
        unfold Oper.wp
        go_simp
        exact ⟨_, rfl, Lib.hid rfl, Lib.hid (Below.refl _ _)⟩
      · obtain rfl := Option.some.inj ho
        have v1 : A0.tmps.getD 12 undef = .int .i64 (k : Int) := (Hget.out 1 12 (by decide) (hdep ⟨1, .data⟩ (by simp) rfl) rfl).trans (Hsp.out 1 (by decide) (by decide) (hdep ⟨1, .data⟩ (by simp) rfl))
        refine wpOp_mono (fun a' w' (h : ∃ v, a' = A0.put (some 13) v ∧ Hid (v = lineVal w.heap.size k st sn sa sb X V 2) ∧ Hid (Below W.heap.size W w')) => by obtain ⟨v, h1, h2, h3⟩ := h; exact ⟨v, h1, .inl ⟨by decide, ⟨HS.out.1.trans (h3.out.mono HS.out.1.size), fun hx => (HS.out.2.1 hx).trans (h3.out.mono (HS.out.2.1 hx).size), fun hx => absurd (Nm.out (by decide)) (by rw [hx]; decide)⟩, .inr (.inr h2.out), h3.out⟩⟩) ?_
        refine wpOp_plain rfl rfl ?_
        clear hdep h0
        unfold Oper.wp
        go_simp
        exact ⟨_, rfl, Lib.hid rfl, Lib.hid (Below.refl _ _)⟩
      · obtain rfl := Option.some.inj ho
        have v2 : A0.tmps.getD 13 undef = .pointer (some ⟨0, k * 2, none⟩) := (Hget.out 2 13 (by decide) (hdep ⟨2, .data⟩ (by simp) rfl) rfl).trans (Hsp.out 2 (by decide) (by decide) (hdep ⟨2, .data⟩ (by simp) rfl))
        refine wpOp_mono (fun a' w' (h : ∃ v, a' = A0.put (some 14) v ∧ Hid (v = lineVal w.heap.size k st sn sa sb X V 3) ∧ Hid (Below W.heap.size W w')) => by obtain ⟨v, h1, h2, h3⟩ := h; exact ⟨v, h1, .inl ⟨by decide, ⟨HS.out.1.trans (h3.out.mono HS.out.1.size), fun hx => (HS.out.2.1 hx).trans (h3.out.mono (HS.out.2.1 hx).size), fun hx => absurd (Nm.out (by decide)) (by rw [hx]; decide)⟩, .inr (.inr h2.out), h3.out⟩⟩) ?_
        refine wpOp_plain rfl rfl ?_
        clear hdep h0
        unfold Oper.wp
        go_simp
        exact ⟨_, rfl, Lib.hid rfl, Lib.hid (Below.refl _ _)⟩
      · obtain rfl := Option.some.inj ho
        have v3 : A0.tmps.getD 14 undef = .pointer (some ⟨0, k * 2, none⟩) := (Hget.out 3 14 (by decide) (hdep ⟨3, .data⟩ (by simp) rfl) rfl).trans (Hsp.out 3 (by decide) (by decide) (hdep ⟨3, .data⟩ (by simp) rfl))
        have y0 := HN.out W HS.out.1
        refine wpOp_mono (fun a' w' (h : ∃ v, a' = A0.put (some 15) v ∧ Hid (v = lineVal w.heap.size k st sn sa sb X V 4) ∧ Hid (Below W.heap.size W w')) => by obtain ⟨v, h1, h2, h3⟩ := h; exact ⟨v, h1, .inl ⟨by decide, ⟨HS.out.1.trans (h3.out.mono HS.out.1.size), fun hx => (HS.out.2.1 hx).trans (h3.out.mono (HS.out.2.1 hx).size), fun hx => absurd (Nm.out (by decide)) (by rw [hx]; decide)⟩, .inr (.inr h2.out), h3.out⟩⟩) ?_
        refine wpOp_plain rfl rfl ?_
        clear hdep h0
        unfold Oper.wp
        go_simp
        exact ⟨_, rfl, Lib.hid rfl, Lib.hid (Below.refl _ _)⟩
      · obtain rfl := Option.some.inj ho
        have e1 : A0.tmps.getD 1 undef = .pointer (some ⟨w.heap.size, 0, none⟩) := (Hold.out 1 (fun j hj hd => by have := (line_in j 1 hj hd).1; omega)).trans rfl
        have HGW := Lib.hid (HG2.out.kept (HS.out.2.1 (Nm.out (by decide))))
        obtain ⟨y0, y1, y2, y3, y4⟩ := HGW.out.facts5.1
        refine wpOp_mono (fun a' w' (h : ∃ v, a' = A0.put (some 16) v ∧ Hid (v = lineVal w.heap.size k st sn sa sb X V 5) ∧ Hid (Below W.heap.size W w')) => by obtain ⟨v, h1, h2, h3⟩ := h; exact ⟨v, h1, .inl ⟨by decide, ⟨HS.out.1.trans (h3.out.mono HS.out.1.size), fun hx => (HS.out.2.1 hx).trans (h3.out.mono (HS.out.2.1 hx).size), fun hx => absurd (Nm.out (by decide)) (by rw [hx]; decide)⟩, .inr (.inr h2.out), h3.out⟩⟩) ?_
        refine wpOp_plain rfl rfl ?_
        clear hdep h0
        unfold Oper.wp
        go_simp
        exact ⟨_, rfl, Lib.hid rfl, Lib.hid (Below.refl _ _)⟩
      · obtain rfl := Option.some.inj ho
        have v5 : A0.tmps.getD 16 undef = .agg #[.int .i64 (k : Int), .string st, .int .i64 sn, .int .u32 (sa : Int), .int .i64 sb] := (Hget.out 5 16 (by decide) (hdep ⟨5, .data⟩ (by simp) rfl) rfl).trans (Hsp.out 5 (by decide) (by decide) (hdep ⟨5, .data⟩ (by simp) rfl))
        have v5' : A0.tmps[16]?.getD undef = .agg #[.int .i64 (k : Int), .string st, .int .i64 sn, .int .u32 (sa : Int), .int .i64 sb] := by simpa using v5
        refine wpOp_mono (fun a' w' (h : ∃ v, a' = A0.put (some 17) v ∧ Hid (v = lineVal w.heap.size k st sn sa sb X V 6) ∧ Hid (Below W.heap.size W w')) => by obtain ⟨v, h1, h2, h3⟩ := h; exact ⟨v, h1, .inl ⟨by decide, ⟨HS.out.1.trans (h3.out.mono HS.out.1.size), fun hx => (HS.out.2.1 hx).trans (h3.out.mono (HS.out.2.1 hx).size), fun hx => absurd (Nm.out (by decide)) (by rw [hx]; decide)⟩, .inr (.inr h2.out), h3.out⟩⟩) ?_
        refine wpOp_plain rfl rfl ?_
        clear hdep h0
        unfold Oper.wp
        go_simp
        refine (HW.out W HS.out.1).mono ?_
        rintro e W' ⟨rfl, hb⟩
        exact ⟨_, rfl, Lib.hid rfl, Lib.hid hb⟩
      · obtain rfl := Option.some.inj ho
        have v4 : A0.tmps.getD 15 undef = .string X := (Hget.out 4 15 (by decide) (hdep ⟨4, .data⟩ (by simp) rfl) rfl).trans (Hsp.out 4 (by decide) (by decide) (hdep ⟨4, .data⟩ (by simp) rfl))
        have v6 : A0.tmps.getD 17 undef = .string V := (Hget.out 6 17 (by decide) (hdep ⟨6, .data⟩ (by simp) rfl) rfl).trans (Hsp.out 6 (by decide) (by decide) (hdep ⟨6, .data⟩ (by simp) rfl))
        have v4' : A0.tmps[15]?.getD undef = .string X := by simpa using v4
        have v6' : A0.tmps[17]?.getD undef = .string V := by simpa using v6
        refine wpOp_mono (fun a' w' (h : ∃ v, a' = A0.put (some 18) v ∧ Hid (v = lineVal w.heap.size k st sn sa sb X V 7) ∧ Hid (Below W.heap.size W w')) => by obtain ⟨v, h1, h2, h3⟩ := h; exact ⟨v, h1, .inl ⟨by decide, ⟨HS.out.1.trans (h3.out.mono HS.out.1.size), fun hx => (HS.out.2.1 hx).trans (h3.out.mono (HS.out.2.1 hx).size), fun hx => absurd (Nm.out (by decide)) (by rw [hx]; decide)⟩, .inr (.inr h2.out), h3.out⟩⟩) ?_
        refine wpOp_plain rfl rfl ?_
        clear hdep h0
        unfold Oper.wp
        go_simp
        exact ⟨_, rfl, Lib.hid rfl, Lib.hid (Below.refl _ _)⟩
      · obtain rfl := Option.some.inj ho
        have v7 : A0.tmps.getD 18 undef = .agg #[.string X, .string V] := (Hget.out 7 18 (by decide) (hdep ⟨7, .data⟩ (by simp) rfl) rfl).trans (Hsp.out 7 (by decide) (by decide) (hdep ⟨7, .data⟩ (by simp) rfl))
        have v7' : A0.tmps[18]?.getD undef = .agg #[.string X, .string V] := by simpa using v7
        have e2 : A0.tmps.getD 2 undef = .pointer (some ⟨w.heap.size + 1, 0, none⟩) := (Hold.out 2 (fun j hj hd => by have := (line_in j 2 hj hd).1; omega)).trans rfl
        have hRW := HR2.out.kept (HS.out.2.1 (Nm.out (by decide)))
        have c0 := hRW.cell 0 rfl
        have c1 := hRW.cell 1 rfl
        have f0 := hRW.frozen (by decide) 0
        have f1 := hRW.frozen (by decide) 1
        have HE := Lib.hid (hRW.set2 (.string X) (.string V))
        have HBE := Lib.hid ((HS.out.1.setCell (p := ⟨w.heap.size + 1, 0, none⟩) (Nat.le_succ _) (.string X)).setCell (p := ⟨w.heap.size + 1, 1, none⟩) (Nat.le_succ _) (.string V))
        clear hRW
        refine wpOp_mono (fun a' w' (h : ∃ v, a' = A0.put none v ∧ Hid (Blk w' (w.heap.size + 1) 23 [.string X, .string V]) ∧ Hid (Below w.heap.size w w')) => by obtain ⟨v, h1, h2, h3⟩ := h; exact ⟨v, h1, .inr ⟨rfl, ⟨h3.out, fun hx => (by cases hx), fun _ => h2.out⟩, .inr (.inl rfl)⟩⟩) ?_
        refine wpOp_plain rfl rfl ?_
        clear hdep h0
        unfold Oper.wp
        go_simp
        all_goals exact ⟨undef, rfl, HE, HBE⟩
      · obtain rfl := Option.some.inj ho
        have l8 := hdep ⟨8, .chain⟩ (by simp) rfl
        refine wpOp_mono (fun a' w' (h : ∃ v, a' = A0.put (some 3) v ∧ Hid (v = .int .i64 0) ∧ Hid (w' = W)) => by obtain ⟨v, h1, h2, h3⟩ := h; exact ⟨v, h1, .inl ⟨by decide, by rw [h3.out]; exact HS.out, .inr (.inr h2.out), by rw [h3.out]; exact Below.refl _ _⟩⟩) ?_
        refine wpOp_plain rfl rfl ?_
        clear hdep h0
        unfold Oper.wp
        go_simp
        exact ⟨_, rfl, Lib.hid rfl, Lib.hid (by trivial)⟩
  · have Hl : Hid (Bt.line s = ⟨⟨#[]⟩, ⟨#[]⟩⟩) := Lib.hid (by unfold Bt.line; rw [if_neg he]; rfl)
    have hn : ((Bt.err s : Int) != 0) = true := by simpa using he
    rw [Hl.out]
    obtain ⟨sk, st, sn, sa, sb⟩ := s
    have hw1' : w1 = (w.alloc (.cells #[.int .i64 sk, .string st, .int .i64 sn, .int .u32 (sa : Int), .int .i64 sb] 28)).alloc (.cells #[.string ⟨#[]⟩, .string ⟨#[]⟩] 23) := hw1
    obtain ⟨⟨g0, g1, g2, g3, g4⟩, -⟩ := hG.facts5
    clear he hA hG hR hw1
    generalize Bt.err ⟨sk, st, sn, sa, sb⟩ = r at *
    unfold setV at HC ⊢
    unfold lineV
    go_enter Tryz.func15, Tryz.ntmps15
    go_upto_region 1 with fail
    rw [← hw1']
    clear hw1'
    go_wp2_with fail
    refine (HC.out w1 HA.out).mono ?_
    rintro e w2 ⟨rfl, hb2⟩
    have hR2 := HR.out.kept hb2
    have c0 := hR2.cell 0 rfl
    have c1 := hR2.cell 1 rfl
    have f0 := hR2.frozen (by decide) 0
    have f1 := hR2.frozen (by decide) 1
    have HE := Lib.hid (hR2.set2 (.string ⟨#[]⟩) (.string ⟨#[]⟩))
    have HB2 := Lib.hid (HA.out.trans (hb2.mono HA.out.size))
    clear hR2 hb2 g0 g1 g2 g3 g4
    go_wp2
    exact bodyPost_ret (ret_cell (load_line HE.out rfl) Tryz.results15 rfl rfl) rfl ⟨rfl, (HB2.out.setCell (p := ⟨w.heap.size + 1, 0, none⟩) (Nat.le_succ _) _).setCell (p := ⟨w.heap.size + 1, 1, none⟩) (Nat.le_succ _) _⟩
end Go.Proofs.YthlagpmacnijfaaGreatDoor

namespace Go.Proofs.YthlagpmacnijfaaGreatDoor.Bt
open Ln (ofT)

/-- The setting of a kind whose line has a value, if there is one. -/
def guess (k : Int) (v : ByteArray) : S :=
  if fld k = 1 then ⟨k, if k = 6 ∧ v = zeros then ⟨#[]⟩ else v, 0, 0, 0⟩ else
  if fld k = 2 then ⟨k, ⟨#[]⟩, (Ad.numOut v.data.toList 65535 : Int), 0, 0⟩ else
  if fld k = 3 then ⟨k, ⟨#[]⟩, 0, Nt.parAddr v.data.toList, (Nt.parBits v.data.toList : Int)⟩ else ⟨k, ⟨#[]⟩, 0, 0, 0⟩
theorem guess_val {s : S} (hs : err s = 0) (ha : s.a < 4294967296) : guess s.k (val s) = s := by
  obtain ⟨hs1, hs2⟩ := err_in hs
  obtain ⟨a1, a2, a3⟩ := more_of hs2
  obtain ⟨r1, r2, r3⟩ := err_rest hs
  have hf : fld s.k = 0 ∨ fld s.k = 1 ∨ fld s.k = 2 ∨ fld s.k = 3 := by
    rcases fld_cases s.k hs1.1 hs1.2 with h | h | h | h | h | h | h | h | h | h <;> rw [h] <;> decide
  have ht : fld s.k ≠ 1 → s.t = ⟨#[]⟩ := fun h => empty_of (by omega)
  unfold guess
  rcases hf with hf | hf | hf | hf
  · rw [if_neg (by omega), if_neg (by omega), if_neg (by omega)]
    have e1 := ht (by omega)
    obtain ⟨k, t, n, a, b⟩ := s
    simp only at *
    rw [e1]
    congr 1 <;> omega
  · rw [if_pos hf]
    have e2 : (if s.k = 6 ∧ val s = zeros then (⟨#[]⟩ : ByteArray) else val s) = s.t := by
      by_cases h6 : s.k = 6
      · by_cases h0 : s.t.size = 0
        · rw [val_six h6, if_pos h0, if_pos ⟨h6, rfl⟩, empty_of h0]
        · rw [val_six h6, if_neg h0, if_neg (fun h => r3 h6 h0 h.2)]
      · rw [if_neg (fun h => h6 h.1), val_text hf h6]
    rw [e2]
    obtain ⟨k, t, n, a, b⟩ := s
    simp only at *
    congr 1 <;> omega
  · rw [if_neg (by omega), if_pos hf]
    have e1 := ht (by omega)
    have e2 := num_itoa (r1 hf).1 (r1 hf).2
    rw [val_num hf]
    show (⟨s.k, ⟨#[]⟩, (Ad.numOut (Lib.itoa s.n) 65535 : Int), 0, 0⟩ : S) = s
    rw [e2]
    obtain ⟨k, t, n, a, b⟩ := s
    simp only at *
    rw [e1]
    congr 1 <;> omega
  · rw [if_neg (by omega), if_neg (by omega), if_pos hf]
    have h10 : s.k = 10 := by
      rcases fld_cases s.k hs1.1 hs1.2 with h | h | h | h | h | h | h | h | h | h <;> first | exact h | (rw [h] at hf; exact absurd hf (by decide))
    have e1 := ht (by omega)
    obtain ⟨e2, e3⟩ := net_text ha (r2 hf)
    rw [val_net h10]
    show (⟨s.k, ⟨#[]⟩, 0, Nt.parAddr (Nt.textOut s.a s.b), (Nt.parBits (Nt.textOut s.a s.b) : Int)⟩ : S) = s
    rw [e2, e3]
    obtain ⟨k, t, n, a, b⟩ := s
    simp only at *
    rw [e1]
    congr 1 <;> omega
theorem guess_k (k : Int) (v : ByteArray) : (guess k v).k = k := by
  unfold guess
  split
  · rfl
  · split
    · rfl
    · split <;> rfl
theorem guess_ok (k : Int) (v : ByteArray) (hv : v.size ≤ 1048576) : (guess k v).t.size ≤ 1048576 ∧ (guess k v).a < 4294967296 ∧ -9223372036854775808 ≤ (guess k v).n ∧ (guess k v).n ≤ 9223372036854775807 := by
  have hn := numOut_lt v.data.toList 65535
  have hp := (par_lt v.data.toList).1
  unfold guess
  split
  · refine ⟨?_, by show (0 : Nat) < _; omega, by show _ ≤ (0 : Int); omega, by show (0 : Int) ≤ _; omega⟩
    show ByteArray.size (if k = 6 ∧ v = zeros then (⟨#[]⟩ : ByteArray) else v) ≤ _
    split
    · show (0 : Nat) ≤ _; omega
    · exact hv
  · split
    · refine ⟨by show (0 : Nat) ≤ _; omega, by show (0 : Nat) < _; omega, ?_, ?_⟩
      · show _ ≤ ((Ad.numOut v.data.toList 65535 : Nat) : Int); omega
      · show ((Ad.numOut v.data.toList 65535 : Nat) : Int) ≤ _; omega
    · split
      · exact ⟨by show (0 : Nat) ≤ _; omega, hp, by show _ ≤ (0 : Int); omega, by show (0 : Int) ≤ _; omega⟩
      · exact ⟨by show (0 : Nat) ≤ _; omega, by show (0 : Nat) < _; omega, by show _ ≤ (0 : Int); omega, by show (0 : Int) ≤ _; omega⟩
/-- The setting of a line, by its guess. -/
theorem of_guess (l : Ln.L) (hv : l.v.size ≤ 1048576) : ofLine l = if kindOf l.k = 0 then (zeroS, 2) else
    if err (guess (kindOf l.k) l.v) = 0 ∧ line (guess (kindOf l.k) l.v) = l then (guess (kindOf l.k) l.v, 0) else (zeroS, 3) := by
  by_cases hk : kindOf l.k = 0
  · unfold ofLine
    rw [if_pos hk, if_pos hk]
  · rw [if_neg hk]
    have hg := (guess_ok (kindOf l.k) l.v hv).2.1
    by_cases h : err (guess (kindOf l.k) l.v) = 0 ∧ line (guess (kindOf l.k) l.v) = l
    · rw [if_pos h]
      have := of_line h.1 hg
      rw [h.2] at this
      exact this
    · rw [if_neg h]
      unfold ofLine
      rw [if_neg hk]
      unfold pick1
      cases hf : (cands (kindOf l.k) l.v).find? (fits l) with
      | none => rfl
      | some x =>
        exfalso
        have hx := List.find?_some hf
        have hxm := List.mem_of_find?_eq_some hf
        unfold fits at hx
        obtain ⟨x1, x2⟩ := of_decide_eq_true hx
        have hxa := (cands_ok _ _ hv x hxm).2.1
        have hxk : x.k = ((kindOf l.k : Nat) : Int) := by
          unfold cands at hxm
          simp only [List.mem_cons, List.not_mem_nil, or_false] at hxm
          rcases hxm with rfl | rfl | rfl | rfl <;> rfl
        have hxl : line x = lineOf x := by unfold line; rw [if_pos x1]
        have hxv : l.v = val x := by rw [← x2, hxl]; rfl
        have e := guess_val x1 hxa
        rw [hxk, ← hxv] at e
        exact h (by rw [e]; exact ⟨x1, x2⟩)
end Go.Proofs.YthlagpmacnijfaaGreatDoor.Bt
