/- The contract of addr.End; the contracts of package addr in the shape that the laws' walks use. -/
import Derived.Test.YthlagpmacnijfaaGreatDoorSp07
import Derived.Test.YthlagpmacnijfaaGreatDoorSp09
import Derived.Test.YthlagpmacnijfaaGreatDoorBatchPlain
import Derived.Test.YthlagpmacnijfaaGreatDoorBatchBits
import Derived.Test.YthlagpmacnijfaaGreatDoorSp04
import Derived.Test.YthlagpmacnijfaaGreatDoorAddrRef4
import Derived.Test.YthlagpmacnijfaaGreatDoorSp08
namespace Go.Proofs.YthlagpmacnijfaaGreatDoor.Bt
open Ln (ofT)

theorem fld_vals : fld 1 = 1 ∧ fld 4 = 1 ∧ fld 6 = 1 ∧ fld 7 = 1 ∧ fld 2 = 2 ∧ fld 8 = 2 ∧ fld 10 = 3 ∧ fld 3 = 0 ∧ fld 5 = 0 ∧ fld 9 = 0 := by decide
theorem empty_of {t : ByteArray} (h : t.size = 0) : t = ⟨#[]⟩ := by
  apply WideShapes.bytes_inj
  have : t.data.toList.length = 0 := by simpa using h
  rw [List.length_eq_zero_iff.1 this]
theorem err_in {s : S} (h : err s = 0) : (1 ≤ s.k ∧ s.k ≤ 10) ∧ more s = false := by
  unfold err at h
  split at h
  · cases h
  · rename_i h1
    split at h
    · cases h
    · rename_i h2
      exact ⟨by omega, by simpa using h2⟩
theorem more_of {s : S} (h : more s = false) : (s.t.size = 0 ∨ fld s.k = 1) ∧ (s.n = 0 ∨ fld s.k = 2) ∧ ((s.a = 0 ∧ s.b = 0) ∨ fld s.k = 3) := by
  unfold more at h
  simp only [Bool.or_eq_false_iff, Bool.and_eq_false_iff, decide_eq_false_iff_not] at h
  omega
theorem err_rest {s : S} (h : err s = 0) : (fld s.k = 2 → 0 ≤ s.n ∧ s.n ≤ 65535) ∧ (fld s.k = 3 → Nt.err s.a s.b = 0) ∧ (s.k = 6 → s.t.size ≠ 0 → s.t ≠ zeros) := by
  obtain ⟨hk, hm⟩ := err_in h
  obtain ⟨f1, f4, f6, f7, f2, f8, f10, f3, f5, f9⟩ := fld_vals
  have he := h
  unfold err at he
  rw [if_neg (by omega), if_neg (by rw [hm]; decide)] at he
  refine ⟨fun hf => ?_, fun hf => ?_, fun h6 h0 hz => ?_⟩
  · rw [if_pos hf] at he
    split at he
    · cases he
    · omega
  · rw [if_neg (by omega), if_pos hf] at he
    exact he
  · rw [h6, f6, if_neg (by decide), if_neg (by decide), if_neg (by decide), if_neg (fun e => h0 e.2), if_pos ⟨rfl, hz⟩] at he
    cases he
theorem itoa_nat {n : Int} (h : 0 ≤ n) : Lib.itoa n = Lib.decDigits n.toNat := by unfold Lib.itoa; rw [if_neg (by omega)]
theorem itoa_inj {n m : Int} (hn : 0 ≤ n) (hm : 0 ≤ m) (h : Lib.itoa n = Lib.itoa m) : n = m := by
  rw [itoa_nat hn, itoa_nat hm] at h
  have h1 := (Ad.dec_good n.toNat).2.1
  have h2 := (Ad.dec_good m.toNat).2.1
  rw [h] at h1
  omega
theorem dec_len5 (u : Nat) (h : u < 100000) : (Lib.decDigits u).length ≤ 5 := by
  by_cases h1 : u < 10
  · rw [Lib.decDigits, dif_pos h1]; simp
  rw [Lib.decDigits, dif_neg h1]
  by_cases h2 : u / 10 < 10
  · rw [Lib.decDigits, dif_pos h2]; simp
  rw [Lib.decDigits, dif_neg h2]
  by_cases h3 : u / 10 / 10 < 10
  · rw [Lib.decDigits, dif_pos h3]; simp
  rw [Lib.decDigits, dif_neg h3]
  by_cases h4 : u / 10 / 10 / 10 < 10
  · rw [Lib.decDigits, dif_pos h4]; simp
  rw [Lib.decDigits, dif_neg h4, Lib.decDigits, dif_pos (by omega)]; simp
theorem num_itoa {n : Int} (h0 : 0 ≤ n) (h1 : n ≤ 65535) : (Ad.numOut (Lib.itoa n) 65535 : Int) = n := by
  obtain ⟨g1, g2⟩ := Ad.num_back (Lib.itoa n) n h0 (by rw [itoa_nat h0]; exact dec_len5 _ (by omega)) rfl
  have he : Ad.numErr (Lib.itoa n) 65535 = 0 := by unfold Ad.numErr; rw [if_pos ⟨g1, by omega⟩]
  unfold Ad.numOut
  rw [if_pos he]
  exact g2.symm
theorem ofT_inj {l m : List UInt8} (h : ofT l = ofT m) : l = m := by
  have := congrArg (fun b : ByteArray => b.data.toList) h
  simpa [ofT] using this
/-- The value of a setting whose kind has a text, and is not the shared key. -/
theorem val_text {s : S} (h : fld s.k = 1) (h6 : s.k ≠ 6) : val s = s.t := by
  unfold val
  rw [if_neg (by omega), if_neg ?_, if_neg ?_, if_neg (fun e => h6 e.1)]
  · intro e
    rw [e] at h
    exact absurd h (by decide)
  · rintro (e | e | e) <;> (rw [e] at h; exact absurd h (by decide))
theorem val_six {s : S} (h : s.k = 6) : val s = if s.t.size = 0 then zeros else s.t := by
  unfold val
  rw [h, show fld 6 = 1 from rfl, if_neg (by decide), if_neg (by decide), if_neg (by decide)]
  by_cases h0 : s.t.size = 0
  · rw [if_pos ⟨rfl, h0⟩, if_pos h0]
  · rw [if_neg (fun e => h0 e.2), if_neg h0]
theorem val_num {s : S} (h : fld s.k = 2) : val s = ofT (Lib.itoa s.n) := by unfold val; rw [if_pos h]
theorem val_net {s : S} (h : s.k = 10) : val s = ofT (Nt.textOut s.a s.b) := by
  unfold val
  rw [h, show fld 10 = 3 from rfl, if_neg (by decide), if_neg (by decide), if_pos rfl]
theorem net_text {a : Nat} {b : Int} (ha : a < 4294967296) (he : Nt.err a b = 0) : Nt.parAddr (Nt.textOut a b) = a ∧ (Nt.parBits (Nt.textOut a b) : Int) = b := by
  obtain ⟨h0, h1, _⟩ := Nt.err_zero he
  obtain ⟨n, rfl⟩ : ∃ n : Nat, b = (n : Int) := ⟨b.toNat, by omega⟩
  unfold Nt.textOut
  rw [if_pos he, Int.toNat_natCast]
  obtain ⟨_, p2, p3⟩ := Nt.par_text ha (by omega) he
  rw [p2, p3]
  exact ⟨rfl, rfl⟩
set_option maxHeartbeats 1000000 in
/-- A kind's settings are told apart by the values of their lines. -/
theorem val_inj {s c : S} (hs : err s = 0) (hc : err c = 0) (hk : s.k = c.k) (ha : s.a < 4294967296) (hca : c.a < 4294967296) (hv : val s = val c) : s = c := by
  obtain ⟨f1, f4, f6, f7, f2, f8, f10, f3, f5, f9⟩ := fld_vals
  obtain ⟨hs1, hs2⟩ := err_in hs
  obtain ⟨hc1, hc2⟩ := err_in hc
  obtain ⟨a1, a2, a3⟩ := more_of hs2
  obtain ⟨b1, b2, b3⟩ := more_of hc2
  obtain ⟨r1, r2, r3⟩ := err_rest hs
  obtain ⟨q1, q2, q3⟩ := err_rest hc
  rw [← hk] at b1 b2 b3 q1 q2 q3
  obtain ⟨k, t, n, a, b⟩ := s
  obtain ⟨k', t', n', a', b'⟩ := c
  simp only at hk hs1 a1 a2 a3 b1 b2 b3 r1 r2 r3 q1 q2 q3 ha hca
  subst hk
  have key : t = t' ∧ n = n' ∧ a = a' ∧ b = b' := by
    have hf : fld k = 0 ∨ fld k = 1 ∨ fld k = 2 ∨ fld k = 3 := by
      rcases fld_cases k hs1.1 hs1.2 with rfl | rfl | rfl | rfl | rfl | rfl | rfl | rfl | rfl | rfl <;> decide
    rcases hf with hf | hf | hf | hf
    · refine ⟨?_, by omega, by omega, by omega⟩
      rw [empty_of (t := t) (by omega), empty_of (t := t') (by omega)]
    · refine ⟨?_, by omega, by omega, by omega⟩
      by_cases h6 : k = 6
      · rw [val_six (s := ⟨k, t, n, a, b⟩) h6, val_six (s := ⟨k, t', n', a', b'⟩) h6] at hv
        simp only at hv
        by_cases h0 : t.size = 0
        · by_cases h0' : t'.size = 0
          · rw [empty_of h0, empty_of h0']
          · rw [if_pos h0, if_neg h0'] at hv
            exact absurd hv.symm (q3 h6 h0')
        · by_cases h0' : t'.size = 0
          · rw [if_neg h0, if_pos h0'] at hv
            exact absurd hv (r3 h6 h0)
          · rw [if_neg h0, if_neg h0'] at hv
            exact hv
      · rw [val_text (s := ⟨k, t, n, a, b⟩) hf h6, val_text (s := ⟨k, t', n', a', b'⟩) hf h6] at hv
        exact hv
    · rw [val_num (s := ⟨k, t, n, a, b⟩) hf, val_num (s := ⟨k, t', n', a', b'⟩) hf] at hv
      refine ⟨?_, itoa_inj (r1 hf).1 (q1 hf).1 (ofT_inj hv), by omega, by omega⟩
      rw [empty_of (t := t) (by omega), empty_of (t := t') (by omega)]
    · have h10 : k = 10 := by
        rcases fld_cases k hs1.1 hs1.2 with rfl | rfl | rfl | rfl | rfl | rfl | rfl | rfl | rfl | rfl <;> first | rfl | (exact absurd hf (by decide))
      rw [val_net (s := ⟨k, t, n, a, b⟩) h10, val_net (s := ⟨k, t', n', a', b'⟩) h10] at hv
      have hv' := ofT_inj hv
      simp only at hv'
      have ht : t = t' := by rw [empty_of (t := t) (by omega), empty_of (t := t') (by omega)]
      have hn : n = n' := by omega
      obtain ⟨p1, p2⟩ := net_text ha (r2 hf)
      obtain ⟨p3, p4⟩ := net_text hca (q2 hf)
      rw [hv'] at p1 p2
      exact ⟨ht, hn, p1.symm.trans p3, p2.symm.trans p4⟩
  obtain ⟨rfl, rfl, rfl, rfl⟩ := key
  rfl
/-- A setting is among the candidates of its line. -/
theorem cand_mem {s : S} (hs : err s = 0) (ha : s.a < 4294967296) : s ∈ cands s.k.toNat (val s) := by
  obtain ⟨f1, f4, f6, f7, f2, f8, f10, f3, f5, f9⟩ := fld_vals
  obtain ⟨hs1, hs2⟩ := err_in hs
  obtain ⟨a1, a2, a3⟩ := more_of hs2
  obtain ⟨r1, r2, r3⟩ := err_rest hs
  have hkk : ((s.k.toNat : Nat) : Int) = s.k := by omega
  unfold cands
  rw [hkk]
  simp only [List.mem_cons, List.not_mem_nil, or_false]
  have hf : fld s.k = 0 ∨ fld s.k = 1 ∨ fld s.k = 2 ∨ fld s.k = 3 := by
    rcases fld_cases s.k hs1.1 hs1.2 with h | h | h | h | h | h | h | h | h | h <;> rw [h] <;> decide
  have ht : fld s.k ≠ 1 → s.t = ⟨#[]⟩ := fun h => empty_of (by omega)
  rcases hf with hf | hf | hf | hf
  · left
    have e1 := ht (by omega)
    obtain ⟨k, t, n, a, b⟩ := s
    simp only at *
    rw [e1]
    congr 1 <;> omega
  · by_cases h6 : s.k = 6
    · by_cases h0 : s.t.size = 0
      · left
        have e1 := empty_of h0
        obtain ⟨k, t, n, a, b⟩ := s
        simp only at *
        rw [e1]
        congr 1 <;> omega
      · right; left
        rw [val_six h6, if_neg h0]
        obtain ⟨k, t, n, a, b⟩ := s
        simp only at *
        congr 1 <;> omega
    · right; left
      rw [val_text hf h6]
      obtain ⟨k, t, n, a, b⟩ := s
      simp only at *
      congr 1 <;> omega
  · right; right; left
    have e1 := ht (by omega)
    have e2 := num_itoa (r1 hf).1 (r1 hf).2
    rw [val_num hf]
    show s = ⟨s.k, ⟨#[]⟩, (Ad.numOut (Lib.itoa s.n) 65535 : Int), 0, 0⟩
    rw [e2]
    obtain ⟨k, t, n, a, b⟩ := s
    simp only at *
    rw [e1]
    congr 1 <;> omega
  · right; right; right
    have h10 : s.k = 10 := by
      rcases fld_cases s.k hs1.1 hs1.2 with h | h | h | h | h | h | h | h | h | h <;> first | exact h | (rw [h] at hf; exact absurd hf (by decide))
    have e1 := ht (by omega)
    obtain ⟨e2, e3⟩ := net_text ha (r2 hf)
    rw [val_net h10]
    show s = ⟨s.k, ⟨#[]⟩, 0, Nt.parAddr (Nt.textOut s.a s.b), (Nt.parBits (Nt.textOut s.a s.b) : Int)⟩
    rw [e2, e3]
    obtain ⟨k, t, n, a, b⟩ := s
    simp only at *
    rw [e1]
    congr 1 <;> omega
/-- Reading the line of a setting gives the setting. -/
theorem of_line {s : S} (hs : err s = 0) (ha : s.a < 4294967296) : ofLine (line s) = (s, 0) := by
  obtain ⟨hs1, hs2⟩ := err_in hs
  have hl : line s = lineOf s := by unfold line; rw [if_pos hs]
  have hkk : kindOf (lineOf s).k = s.k.toNat := kind_of_name _ (by omega) (by omega)
  unfold ofLine
  rw [hl, hkk, if_neg (by omega)]
  have hv : (lineOf s).v = val s := rfl
  rw [hv]
  have hm := cand_mem hs ha
  have hfs : fits (lineOf s) s = true := fits_ok hs hl
  unfold pick1
  cases hf : (cands s.k.toNat (val s)).find? (fits (lineOf s)) with
  | none =>
    have := List.find?_eq_none.1 hf s hm
    exact absurd hfs this
  | some x =>
    have hx := List.find?_some hf
    have hxm := List.mem_of_find?_eq_some hf
    unfold fits at hx
    obtain ⟨x1, x2⟩ := of_decide_eq_true hx
    have hxl : line x = lineOf x := by unfold line; rw [if_pos x1]
    have hxk : x.k = ((s.k.toNat : Nat) : Int) := by
      unfold cands at hxm
      simp only [List.mem_cons, List.not_mem_nil, or_false] at hxm
      rcases hxm with rfl | rfl | rfl | rfl <;> rfl
    have hxa : x.a < 4294967296 := by
      have hp := (par_lt (val s).data.toList).1
      unfold cands at hxm
      simp only [List.mem_cons, List.not_mem_nil, or_false] at hxm
      rcases hxm with rfl | rfl | rfl | rfl
      · show (0 : Nat) < _; omega
      · show (0 : Nat) < _; omega
      · show (0 : Nat) < _; omega
      · exact hp
    have e : x = s := val_inj x1 hs (by omega) hxa ha (by
      rw [hxl] at x2
      exact congrArg Ln.L.v x2)
    rw [e]
end Go.Proofs.YthlagpmacnijfaaGreatDoor.Bt

namespace Go.Proofs.YthlagpmacnijfaaGreatDoor
open Go.RowKit

/-- The table of kinds is there: each kind's key and the number of its field. -/
def ShapeTab (w : World) : Prop := 0 < w.heap.size ∧ ∀ k, k < 11 → w.cell? ⟨0, k * 2, none⟩ = some (.string (Bt.nameOf k)) ∧ w.cell? ⟨0, k * 2 + 1, none⟩ = some (.int .i64 (Bt.fld (k : Int) : Int))
theorem ShapeTab.below {w w' : World} (h : ShapeTab w) (hb : Below w.heap.size w w') : ShapeTab w' :=
  ⟨Nat.lt_of_lt_of_le h.1 hb.size, fun k hk => by
    rw [hb.cell (p := ⟨0, k * 2, none⟩) h.1, hb.cell (p := ⟨0, k * 2 + 1, none⟩) h.1]
    exact h.2 k hk⟩
/-- What the landed code of chapter 12 reads of variables. -/
def BTabs (w : World) : Prop := CodeTabs w ∧ ShapeTab w
theorem BTabs.below {w w' : World} (h : BTabs w) (hb : Below w.heap.size w w') : BTabs w' := ⟨h.1.below hb, h.2.below hb⟩
/-- What the exact laws of chapter 12 read of variables. -/
def ATabs (w : World) : Prop := AllTabs w ∧ ShapeTab w
theorem ATabs.below {w w' : World} (h : ATabs w) (hb : Below w.heap.size w w') : ATabs w' := ⟨h.1.below hb, h.2.below hb⟩
theorem ATabs.code {w : World} (h : ATabs w) : BTabs w := ⟨⟨h.1.1, h.1.2.2⟩, h.2⟩
end Go.Proofs.YthlagpmacnijfaaGreatDoor

namespace Go.Proofs.YthlagpmacnijfaaGreatDoor
open Go.RowKit

theorem strOf_ofT (l : List UInt8) : strOf l = Ln.ofT l := rfl
/-- What the table says of one kind. -/
theorem ShapeTab.at {w : World} (h : ShapeTab w) (k : Nat) (hk : k < 11) (n f : Nat) (hn : n = k * 2 + 1) (hf : f = Bt.fld (k : Int)) : w.cell? ⟨0, n, none⟩ = some (.int .i64 (f : Int)) := by
  rw [hn, hf]
  exact (h.2 k hk).2
set_option maxRecDepth 20000 in
set_option maxHeartbeats 4000000 in
theorem write_none (k : Int) (hk : k = 3 ∨ k = 5 ∨ k = 9) (t : ByteArray) (n : Int) (a : Nat) (b : Int) (w : World) (hT : ShapeTab w) :
    Calls Tryz.prog 28 #[setV ⟨k, t, n, a, b⟩] w fun e w' => e = .returned (.string Bt.isTrue) ∧ Below w.heap.size w w' := by
  have hlt := hT.1
  have HB : Hid (∀ o, Below w.heap.size w (w.alloc o)) := Lib.hid fun o => (Below.refl _ _).alloc (Nat.le_refl _) _
  unfold setV
  rcases hk with rfl | rfl | rfl
  · have c := hT.at 3 (by decide) 7 0 rfl rfl
    clear hT
    go_enter Tryz.func28, Tryz.ntmps28
    go_wp2
    go_ret
    exact ⟨rfl, HB.out _⟩
  · have c := hT.at 5 (by decide) 11 0 rfl rfl
    clear hT
    go_enter Tryz.func28, Tryz.ntmps28
    go_wp2
    go_ret
    exact ⟨rfl, HB.out _⟩
  · have c := hT.at 9 (by decide) 19 0 rfl rfl
    clear hT
    go_enter Tryz.func28, Tryz.ntmps28
    go_wp2
    go_ret
    exact ⟨rfl, HB.out _⟩
set_option maxRecDepth 20000 in
set_option maxHeartbeats 4000000 in
theorem write_text (k : Int) (hk : k = 1 ∨ k = 4 ∨ k = 7) (t : ByteArray) (n : Int) (a : Nat) (b : Int) (w : World) (hT : ShapeTab w) :
    Calls Tryz.prog 28 #[setV ⟨k, t, n, a, b⟩] w fun e w' => e = .returned (.string t) ∧ Below w.heap.size w w' := by
  have hlt := hT.1
  have HB : Hid (∀ o, Below w.heap.size w (w.alloc o)) := Lib.hid fun o => (Below.refl _ _).alloc (Nat.le_refl _) _
  unfold setV
  rcases hk with rfl | rfl | rfl
  · have c := hT.at 1 (by decide) 3 1 rfl rfl
    clear hT
    go_enter Tryz.func28, Tryz.ntmps28
    go_wp2
    go_ret
    exact ⟨rfl, HB.out _⟩
  · have c := hT.at 4 (by decide) 9 1 rfl rfl
    clear hT
    go_enter Tryz.func28, Tryz.ntmps28
    go_wp2
    go_ret
    exact ⟨rfl, HB.out _⟩
  · have c := hT.at 7 (by decide) 15 1 rfl rfl
    clear hT
    go_enter Tryz.func28, Tryz.ntmps28
    go_wp2
    go_ret
    exact ⟨rfl, HB.out _⟩
set_option maxRecDepth 20000 in
set_option maxHeartbeats 4000000 in
theorem write_shared (t : ByteArray) (n : Int) (a : Nat) (b : Int) (w : World) (hT : ShapeTab w) :
    Calls Tryz.prog 28 #[setV ⟨6, t, n, a, b⟩] w fun e w' => e = .returned (.string (if t.size = 0 then Bt.zeros else t)) ∧ Below w.heap.size w w' := by
  have hlt := hT.1
  have HB : Hid (∀ o, Below w.heap.size w (w.alloc o)) := Lib.hid fun o => (Below.refl _ _).alloc (Nat.le_refl _) _
  have c := hT.at 6 (by decide) 13 1 rfl rfl
  unfold setV
  clear hT
  by_cases h0 : t.size = 0
  · have te : t.toList.isEmpty = true := by rw [empty_size, decide_eq_true h0]
    rw [if_pos h0, Bt.zeros_lit]
    clear h0
    go_enter Tryz.func28, Tryz.ntmps28
    go_wp2
    go_ret
    exact ⟨rfl, HB.out _⟩
  · have te : t.toList.isEmpty = false := by rw [empty_size, decide_eq_false h0]
    rw [if_neg h0]
    clear h0
    go_enter Tryz.func28, Tryz.ntmps28
    go_wp2
    go_ret
    exact ⟨rfl, HB.out _⟩
set_option maxRecDepth 20000 in
set_option maxHeartbeats 4000000 in
theorem write_num (k : Int) (hk : k = 2 ∨ k = 8) (t : ByteArray) (n : Int) (a : Nat) (b : Int) (w : World) (hn0 : -9223372036854775808 ≤ n) (hn1 : n ≤ 9223372036854775807) (hT : BTabs w) :
    Calls Tryz.prog 28 #[setV ⟨k, t, n, a, b⟩] w fun e w' => e = .returned (.string (Ln.ofT (Lib.itoa n))) ∧ Below w.heap.size w w' := by
  have hlt := hT.2.1
  have HB : Hid (∀ o, Below w.heap.size w (w.alloc o)) := Lib.hid fun o => (Below.refl _ _).alloc (Nat.le_refl _) _
  have HI := Lib.hid (fun W hW => lib_Itoa n W hn0 hn1 (hT.1.1.below hW))
  unfold setV
  rw [← strOf_ofT]
  have hx : (⟨(Lib.itoa n).toArray⟩ : ByteArray) = strOf (Lib.itoa n) := rfl
  rw [hx] at HI
  generalize strOf (Lib.itoa n) = X at *
  clear hx
  rcases hk with rfl | rfl
  · have c := hT.2.at 2 (by decide) 5 2 rfl rfl
    clear hT hn0 hn1
    go_enter Tryz.func28, Tryz.ntmps28
    go_wp2_with fail
    refine (HI.out _ (HB.out _)).mono ?_
    rintro e w2 ⟨rfl, hb2⟩
    have hb := (HB.out _).trans (hb2.mono (HB.out _).size)
    clear hb2
    go_wp2
    go_ret
    exact ⟨rfl, hb⟩
  · have c := hT.2.at 8 (by decide) 17 2 rfl rfl
    clear hT hn0 hn1
    go_enter Tryz.func28, Tryz.ntmps28
    go_wp2_with fail
    refine (HI.out _ (HB.out _)).mono ?_
    rintro e w2 ⟨rfl, hb2⟩
    have hb := (HB.out _).trans (hb2.mono (HB.out _).size)
    clear hb2
    go_wp2
    go_ret
    exact ⟨rfl, hb⟩
set_option maxRecDepth 20000 in
set_option maxHeartbeats 4000000 in
theorem write_net (t : ByteArray) (n : Int) (a : Nat) (b : Int) (w : World) (ha : a < 4294967296) (hb0 : -9223372036854775808 ≤ b) (hb1 : b ≤ 9223372036854775807) (hT : BTabs w) :
    Calls Tryz.prog 28 #[setV ⟨10, t, n, a, b⟩] w fun e w' => e = .returned (.string (Ln.ofT (Nt.textOut a b))) ∧ Below w.heap.size w w' := by
  have hlt := hT.2.1
  have HB : Hid (∀ o, Below w.heap.size w (w.alloc o)) := Lib.hid fun o => (Below.refl _ _).alloc (Nat.le_refl _) _
  have HI := Lib.hid (fun W hW => net_Text a b W ha hb0 hb1 (hT.1.below hW))
  have c := hT.2.at 10 (by decide) 21 3 rfl rfl
  unfold setV
  unfold netV at HI
  rw [← strOf_ofT]
  generalize strOf (Nt.textOut a b) = X at *
  generalize Nt.err a b = r at *
  clear hT hb0 hb1
  go_enter Tryz.func28, Tryz.ntmps28
  go_wp2_with fail
  refine (HI.out _ (HB.out _)).mono ?_
  rintro e w2 ⟨rfl, hb2⟩
  have hb := (HB.out _).trans (hb2.mono (HB.out _).size)
  clear hb2
  go_wp2
  go_ret
  exact ⟨rfl, hb⟩
/-- The value of a right setting's line. -/
theorem batch_write (s : Bt.S) (w : World) (h1 : 1 ≤ s.k) (h2 : s.k ≤ 10) (ha : s.a < 4294967296) (hn0 : -9223372036854775808 ≤ s.n) (hn1 : s.n ≤ 9223372036854775807) (hb0 : -9223372036854775808 ≤ s.b) (hb1 : s.b ≤ 9223372036854775807) (hT : BTabs w) :
    Calls Tryz.prog 28 #[setV s] w fun e w' => e = .returned (.string (Bt.val s)) ∧ Below w.heap.size w w' := by
  obtain ⟨k, t, n, a, b⟩ := s
  simp only at h1 h2 ha hn0 hn1 hb0 hb1
  rcases Bt.fld_cases k h1 h2 with rfl | rfl | rfl | rfl | rfl | rfl | rfl | rfl | rfl | rfl
  · exact write_text 1 (by omega) t n a b w hT.2
  · exact write_num 2 (by omega) t n a b w hn0 hn1 hT
  · exact write_none 3 (by omega) t n a b w hT.2
  · exact write_text 4 (by omega) t n a b w hT.2
  · exact write_none 5 (by omega) t n a b w hT.2
  · have := write_shared t n a b w hT.2
    have e : Bt.val ⟨6, t, n, a, b⟩ = if t.size = 0 then Bt.zeros else t := Bt.val_six rfl
    rw [e]
    exact this
  · exact write_text 7 (by omega) t n a b w hT.2
  · exact write_num 8 (by omega) t n a b w hn0 hn1 hT
  · exact write_none 9 (by omega) t n a b w hT.2
  · exact write_net t n a b w ha hb0 hb1 hT
end Go.Proofs.YthlagpmacnijfaaGreatDoor

namespace Go.Proofs.YthlagpmacnijfaaGreatDoor
open Go.RowKit

theorem addr_Text (a : Nat) (ha : a < 4294967296) (w : World) (hC : CodeTabs w) :
    Calls Tryz.prog 75 #[.int .u32 (a : Int)] w fun e w' => e = .returned (.string ⟨(Ad.text a).toArray⟩) ∧ Below w.heap.size w w' := addr_Text0 a ha w hC.1
theorem addr_Parse (s : ByteArray) (w : World) (hs : s.size ≤ 281474976710656) :
    Calls Tryz.prog 44 #[.string s] w fun e w' => e = .returned (.tuple #[.int .u32 (Ad.addrOut s.data.toList : Int), .int .i64 (Ad.addrErr s.data.toList : Int)]) ∧ Below w.heap.size w w' := addr_Parse0 s w hs
theorem addr_Number (s : ByteArray) (most : Int) (w : World) (hs : s.size ≤ 281474976710656) :
    Calls Tryz.prog 25 #[.string s, .int .i64 most] w fun e w' => e = .returned (.tuple #[.int .i64 (Ad.numOut s.data.toList most : Int), .int .i64 (Ad.numErr s.data.toList most : Int)]) ∧ Below w.heap.size w w' := addr_Number0 s most w hs

theorem cut_miss (l : List UInt8) (h : Ad.colon l < 0) : Lib.cut l [58] = (l, [], false) := by
  unfold Lib.cut
  rw [Lib.index_one, if_neg (by unfold Ad.colon at h; omega)]
theorem cut_hit (l : List UInt8) (h : 0 ≤ Ad.colon l) : Lib.cut l [58] = (Ad.front l, Ad.back l, true) := by
  unfold Lib.cut
  rw [Lib.index_one, if_pos (show 0 ≤ Lib.indexByte l 58 from h)]
  rfl
/-- strings.Cut at the colon. -/
theorem lib_Cut (s : ByteArray) (w : World) (hs : s.size ≤ 1048576) (hM : MaxTab w) :
    Calls Tryz.prog 43 #[.string s, .string ⟨#[58]⟩] w fun e w' => e = .returned (.tuple #[.string ⟨(Lib.cut s.data.toList [58]).1.toArray⟩, .string ⟨(Lib.cut s.data.toList [58]).2.1.toArray⟩, .bool (Lib.cut s.data.toList [58]).2.2]) ∧ Below w.heap.size w w' := by
  obtain ⟨m, hm⟩ := hM
  refine (Tryz.strings_Cut s ⟨#[58]⟩ m w (by omega) hm).mono ?_
  rintro e w' ⟨rfl, n, rfl⟩
  exact ⟨rfl, below_drewN (Below.refl _ _) n⟩

set_option maxHeartbeats 800000 in
theorem addr_End (s : ByteArray) (w : World) (hs : s.size ≤ 1048576) (hC : CodeTabs w) :
    Calls Tryz.prog 49 #[.string s] w fun e w' => e = .returned (.tuple #[.int .u32 (Ad.endAddr s.data.toList : Int), .int .i64 (Ad.endPort s.data.toList : Int), .int .i64 (Ad.endErr s.data.toList : Int)]) ∧ Below w.heap.size w w' := by
  have HI := lib_Cut s w hs hC.2
  have hsl : s.data.toList.length = s.size := by simp
  by_cases h0 : Ad.colon s.data.toList < 0
  · have Hb := Lib.hid (end_bad (l := s.data.toList) (by unfold Ad.endGood; rw [decide_eq_false (by omega)]; rfl))
    rw [cut_miss _ h0] at HI
    clear h0 hC hsl
    generalize (⟨s.data.toList.toArray⟩ : ByteArray) = q at *
    go_enter Tryz.func49, Tryz.ntmps49
    go_wp2_with fail
    refine HI.mono ?_
    rintro e w1 ⟨rfl, hb1⟩
    go_wp2
    go_ret3
    rw [Hb.out.1, Hb.out.2.1, Hb.out.2.2]
    exact ⟨rfl, hb1⟩
  · have hge : decide (0 ≤ Ad.colon s.data.toList) = true := decide_eq_true (by omega)
    rw [cut_hit _ (by omega)] at HI
    have hf1 : (⟨(Ad.front s.data.toList).toArray⟩ : ByteArray).size ≤ 281474976710656 := by
      show (Ad.front s.data.toList).toArray.size ≤ _
      rw [List.size_toArray]
      unfold Ad.front
      rw [List.length_take]
      omega
    have hf2 : (⟨(Ad.back s.data.toList).toArray⟩ : ByteArray).size ≤ 281474976710656 := by
      show (Ad.back s.data.toList).toArray.size ≤ _
      rw [List.size_toArray]
      unfold Ad.back
      rw [List.length_drop]
      omega
    have H1 : Hid (∀ W, Below w.heap.size w W → Calls Tryz.prog 44 #[.string ⟨(Ad.front s.data.toList).toArray⟩] W fun e W' => e = .returned (.tuple #[.int .u32 (Ad.addrOut (Ad.front s.data.toList) : Int), .int .i64 (Ad.addrErr (Ad.front s.data.toList) : Int)]) ∧ Below w.heap.size w W') :=
      Lib.hid fun W hW => (addr_Parse0 ⟨(Ad.front s.data.toList).toArray⟩ W hf1).mono fun e W' ⟨he, hb⟩ => ⟨he, hW.trans (hb.mono hW.size)⟩
    have H2 : Hid (∀ W, Below w.heap.size w W → Calls Tryz.prog 25 #[.string ⟨(Ad.back s.data.toList).toArray⟩, .int .i64 65535] W fun e W' => e = .returned (.tuple #[.int .i64 (Ad.numOut (Ad.back s.data.toList) 65535 : Int), .int .i64 (Ad.numErr (Ad.back s.data.toList) 65535 : Int)]) ∧ Below w.heap.size w W') :=
      Lib.hid fun W hW => (addr_Number0 ⟨(Ad.back s.data.toList).toArray⟩ 65535 W hf2).mono fun e W' ⟨he, hb⟩ => ⟨he, hW.trans (hb.mono hW.size)⟩
    clear hC hsl hf1 hf2 h0
    by_cases g1 : ¬ Ad.good (Ad.front s.data.toList) = true
    · have Hr := Lib.hid (end_bad (l := s.data.toList) (by unfold Ad.endGood; rw [show Ad.good (Ad.front s.data.toList) = false by simpa using g1, Bool.and_false]; rfl))
      have hb := addr_bad _ (show Ad.good (Ad.front s.data.toList) = false by simpa using g1)
      rw [hb.1, hb.2] at H1
      clear g1 hge hb
      generalize (⟨(Ad.front s.data.toList).toArray⟩ : ByteArray) = F at *
      generalize (⟨(Ad.back s.data.toList).toArray⟩ : ByteArray) = B at *
      go_enter Tryz.func49, Tryz.ntmps49
      go_wp2_with fail
      refine HI.mono ?_
      rintro e w1 ⟨rfl, hb1⟩
      go_wp2_with fail
      refine (H1.out w1 hb1).mono ?_
      rintro e w2 ⟨rfl, hb2⟩
      go_wp2
      go_ret3
      rw [Hr.out.1, Hr.out.2.1, Hr.out.2.2]
      exact ⟨rfl, hb2⟩
    replace g1 : Ad.good (Ad.front s.data.toList) = true := Classical.not_not.1 g1
    have he : Ad.addrErr (Ad.front s.data.toList) = 0 := by unfold Ad.addrErr; rw [if_pos g1]
    rw [he] at H1
    clear he
    by_cases g2 : ¬ Ad.numErr (Ad.back s.data.toList) 65535 = 0
    · have Hr := Lib.hid (end_bad (l := s.data.toList) (by unfold Ad.endGood; rw [hge, g1, decide_eq_false g2]; rfl))
      rw [(numOut_bad _ _ g2).1, (numOut_bad _ _ g2).2] at H2
      clear g1 g2 hge
      generalize Ad.addrOut (Ad.front s.data.toList) = a2 at *
      generalize (⟨(Ad.front s.data.toList).toArray⟩ : ByteArray) = F at *
      generalize (⟨(Ad.back s.data.toList).toArray⟩ : ByteArray) = B at *
      go_enter Tryz.func49, Tryz.ntmps49
      go_wp2_with fail
      refine HI.mono ?_
      rintro e w1 ⟨rfl, hb1⟩
      go_wp2_with fail
      refine (H1.out w1 hb1).mono ?_
      rintro e w2 ⟨rfl, hb2⟩
      go_wp2_with fail
      refine (H2.out w2 hb2).mono ?_
      rintro e w3 ⟨rfl, hb3⟩
      go_wp2
      go_ret3
      rw [Hr.out.1, Hr.out.2.1, Hr.out.2.2]
      exact ⟨rfl, hb3⟩
    replace g2 : Ad.numErr (Ad.back s.data.toList) 65535 = 0 := Classical.not_not.1 g2
    rw [g2] at H2
    by_cases g3 : 1 ≤ Ad.numOut (Ad.back s.data.toList) 65535
    · have Hr := Lib.hid (end_ok (l := s.data.toList) (by unfold Ad.endGood; rw [hge, g1, decide_eq_true g2, decide_eq_true g3]; rfl))
      clear g1 g2 hge
      generalize Ad.addrOut (Ad.front s.data.toList) = a2 at *
      generalize Ad.numOut (Ad.back s.data.toList) 65535 = n2 at *
      generalize (⟨(Ad.front s.data.toList).toArray⟩ : ByteArray) = F at *
      generalize (⟨(Ad.back s.data.toList).toArray⟩ : ByteArray) = B at *
      have d1 : ((n2 : Int) == 0) = false := by simp; omega
      go_enter Tryz.func49, Tryz.ntmps49
      go_wp2_with fail
      refine HI.mono ?_
      rintro e w1 ⟨rfl, hb1⟩
      go_wp2_with fail
      refine (H1.out w1 hb1).mono ?_
      rintro e w2 ⟨rfl, hb2⟩
      go_wp2_with fail
      refine (H2.out w2 hb2).mono ?_
      rintro e w3 ⟨rfl, hb3⟩
      go_wp2
      go_ret3
      rw [Hr.out.1, Hr.out.2.1, Hr.out.2.2]
      exact ⟨rfl, hb3⟩
    · have Hr := Lib.hid (end_bad (l := s.data.toList) (by unfold Ad.endGood; rw [hge, g1, decide_eq_false g3, Bool.and_false]))
      have hz : Ad.numOut (Ad.back s.data.toList) 65535 = 0 := by omega
      rw [hz] at H2
      clear g1 g2 g3 hge hz
      generalize Ad.addrOut (Ad.front s.data.toList) = a2 at *
      generalize (⟨(Ad.front s.data.toList).toArray⟩ : ByteArray) = F at *
      generalize (⟨(Ad.back s.data.toList).toArray⟩ : ByteArray) = B at *
      go_enter Tryz.func49, Tryz.ntmps49
      go_wp2_with fail
      refine HI.mono ?_
      rintro e w1 ⟨rfl, hb1⟩
      go_wp2_with fail
      refine (H1.out w1 hb1).mono ?_
      rintro e w2 ⟨rfl, hb2⟩
      go_wp2_with fail
      refine (H2.out w2 hb2).mono ?_
      rintro e w3 ⟨rfl, hb3⟩
      go_wp2
      go_ret3
      rw [Hr.out.1, Hr.out.2.1, Hr.out.2.2]
      exact ⟨rfl, hb3⟩
end Go.Proofs.YthlagpmacnijfaaGreatDoor
