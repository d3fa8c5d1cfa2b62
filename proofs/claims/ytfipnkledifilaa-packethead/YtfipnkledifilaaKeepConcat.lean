/- The contracts of slices.Grow of nil and of slices.Concat of two slices, at []byte. -/
import Derived.Test.YtfipnkledifilaaMem3
import Derived.Test.YtfipnkledifilaaKeepTurned
import Derived.Lib.AppendZerosOnto
namespace Go.Proofs.Ytfipnkledifilaa
open Go.RowKit

/-- append(nil, make([]byte, n)...): a new row with room for n. -/
theorem wpL_grow_zeros (w : World) {ops : Array Oper} {rest : List Oper} {o : Oper} {a : Act} {Q : Exit → Act → World → Prop} (hgd : o.guard = none) (s x : Operand)
    (hop : o.op = .call { callee := .builtin .append, args := #[s, x], argTypes := #[55, 3] }) (n : Nat) (hs : a.eval s = .slice none 0 0) (hx : a.eval x = .int .i64 (n : Int)) (h0 : 0 < n) (hn : n ≤ 140737488355328)
    (h : ∀ cap w', w'.ownsRow w.heap.size 5 1 (.slice (some ⟨w.heap.size, 0, none⟩) 0 cap) 0 [] → Below w.heap.size w w' → n ≤ cap → cap ≤ 9223372036854775807 → wpList Try.prog ops Q rest (a.put o.dst (.slice (some ⟨w.heap.size, 0, none⟩) n cap)) w') : wpList Try.prog ops Q (o :: rest) a w := by
  obtain ⟨i0, hi, hz0, hz1, hz2⟩ := info_u8
  have hr := Go.Lib.run_append_grow_zeros (P := Try.prog) w 55 3 o.type 5 i0 (.int .u8 0) .i64 .i64 Try.underlying55 Try.underlying3 hi hz0 none 0 0 [] (by simp [Builtin.firstCells]) n h0 (by omega) (by omega) (by omega) (by rw [hz2]; omega) (growslice_fits (by omega) (by rw [hz2]; omega))
  have hge := grownCap_ge w (0 + n) 0 5
  have hle := grownCap_le_maxLen w (0 + n) 0 5 (by unfold maxLen; omega)
  generalize grownCap w (0 + n) 0 5 = cap at *
  obtain ⟨cs, hcs⟩ : ∃ cs, cs = (([] : List Value).toArray ++ Builtin.zeroCells (Value.int .u8 0).cells n ++ Builtin.zeroCells (Value.int .u8 0).cells (cap - (0 + n))) := ⟨_, rfl⟩
  have hcl : cs.size = cap * 1 := by rw [hcs]; simp [Builtin.zeroCells, Value.cells]; omega
  rw [← hcs] at hr
  have ho := World.ownsRow_made (base := w.heap.size) (e := 5) (size := 1) w.drew cs cap (Nat.le_refl _) hle hcl
  rw [Nat.zero_add] at hr hge
  unfold maxLen at hle
  refine wpList_plain hgd fun K hK => ?_
  unfold Oper.wp execOp
  simp only [hop, resolve, invoke, builtin, Sem.run_bind, Sem.run_pure, Result.andThen_ok, List.map_toArray, List.map_cons, List.map_nil, hs, hx, hr]
  exact hK _ _ (h cap _ ho ((Below.drew (Below.refl _ _)).alloc (Nat.le_refl _) _) hge (by omega))

set_option maxHeartbeats 400000 in
theorem slices_Grow (n : Nat) (w : World) (h0 : 0 < n) (hn : n ≤ 140737488355328) :
    Calls Try.prog 60 #[.slice none 0 0, .int .i64 (n : Int)] w fun e w' => ∃ cap, e = .returned (.slice (some ⟨w.heap.size, 0, none⟩) 0 cap) ∧ w'.ownsRow w.heap.size 5 1 (.slice (some ⟨w.heap.size, 0, none⟩) 0 cap) 0 [] ∧ Below w.heap.size w w' := by
  go_enter Try.func60, Try.ntmps60
  go_wp2_with (at_builtin; refine wpL_grow_zeros _ rfl _ _ rfl n rfl rfl h0 hn ?_)
  intro cap w1 ho hB h1 h2
  have Ho := Lib.hid ho
  clear ho
  go_wp2
  go_ret
  exact ⟨cap, rfl, Ho.out, hB⟩

/-- Two slices in a row. -/
theorem two_cells (w : World) (x y : Value) (t : TypeId) : (w.alloc (.cells #[x, y] t)).cell? ⟨w.heap.size, 0, none⟩ = some x ∧ (w.alloc (.cells #[x, y] t)).cell? ⟨w.heap.size, 1, none⟩ = some y := by
  constructor <;> rw [cell_of_row _ _ _ _ _ _ (heap_alloc_last w _)] <;> rfl

/-- What has been joined behind k of the two. -/
def Joined (w : World) (xs ys : List UInt8) (n m k : Nat) (v : Value) (wr : World) : Prop :=
  ∃ a l c, v = .slice a l c ∧ l = (if k = 0 then 0 else if k = 1 then n else n + m) ∧ wr.ownsRow w.heap.size 5 1 (.slice a l c) l (bcells (if k = 0 then [] else if k = 1 then xs else xs ++ ys))

set_option maxHeartbeats 1000000 in
theorem slices_Concat (g c : Nat) (a b : Option Addr) (n m ca cb : Nat) (xs ys : List UInt8) (w : World) (hg : g < w.heap.size) (h1 : w.cell? ⟨g, 0, none⟩ = some (.slice a n ca)) (h2 : w.cell? ⟨g, 1, none⟩ = some (.slice b m cb))
    (hx : BytesAt w w.heap.size a n xs) (hy : BytesAt w w.heap.size b m ys) (hna : a = none → n = 0 ∧ ca = 0) (hnb : b = none → m = 0 ∧ cb = 0) (h0 : 0 < n + m) (hn : n ≤ 1000000) (hm : m ≤ 1000000) :
    Calls Try.prog 37 #[.slice (some ⟨g, 0, none⟩) 2 c] w (RowPost (xs ++ ys) w) := by
  have Hx := Lib.hid hx
  have Hy := Lib.hid hy
  have Hna := Lib.hid hna
  have Hnb := Lib.hid hnb
  clear hx hy hna hnb
  go_enter Try.func37, Try.ntmps37
  go_wp2
  go_loopw [3, 11] (fun sz i wr => ∃ k : Nat, k ≤ 2 ∧ i = .int .i64 k ∧ sz = .int .i64 ((if k = 0 then 0 else if k = 1 then n else n + m : Nat) : Int) ∧ wr = w) (fun _ i _ => 2 - (intOf i).toNat)
  case atStart => exact ⟨0, by decide, rfl, rfl, rfl⟩
  case round =>
    obtain ⟨k, hk, rfl, rfl, rfl⟩ := hrel
    have : k = 0 ∨ k = 1 ∨ k = 2 := by omega
    rcases this with rfl | rfl | rfl
    · rw [if_pos rfl]
      go_wp2
      go_roundw
      case rel => exact ⟨1, by decide, by go_num, by simp, trivial⟩
      case measure => simp [intOf]
    · rw [if_neg (by decide), if_pos rfl]
      go_wp2
      go_roundw
      case rel => exact ⟨2, by decide, by go_num, by simp, trivial⟩
      case measure => simp [intOf]
    · rw [if_neg (by decide), if_neg (by decide)]
      obtain ⟨wo, hwo⟩ : ∃ wo, wo = wr := ⟨_, rfl⟩
      subst hwo
      obtain ⟨s, hsz⟩ : ∃ s : Nat, s = n + m := ⟨_, rfl⟩
      rw [← hsz]
      have Hs := Lib.hid hsz
      have hs0 : 0 < s := by omega
      have hs1 : s ≤ 2000000 := by omega
      clear hsz
      go_wp2_with fail
      refine (slices_Grow s _ hs0 (by omega)).mono ?_
      rintro e w1 ⟨cap, rfl, ho1, hB1⟩
      have z1 := hB1.size
      have Hg1 := Lib.hid ((hB1.cell (p := ⟨g, 0, none⟩) hg).trans h1)
      have Hg2 := Lib.hid ((hB1.cell (p := ⟨g, 1, none⟩) hg).trans h2)
      clear h1 h2
      go_wp2
      go_loopw [6, 27] (fun v i wr => ∃ k : Nat, k ≤ 2 ∧ i = .int .i64 k ∧ Joined wo xs ys n m k v wr ∧ Below wo.heap.size wo wr) (fun _ i _ => 2 - (intOf i).toNat)
      case atStart => exact ⟨0, by decide, rfl, ⟨_, 0, _, rfl, rfl, ho1⟩, hB1⟩
      case round =>
        clear ho1
        obtain ⟨k, hk, rfl, ⟨av, nv, cv, rfl, hnv, hov⟩, hBr⟩ := hrel
        have hzr := hBr.size
        have c1 := (hBr.cell (p := ⟨g, 0, none⟩) hg).trans ((hB1.cell (p := ⟨g, 0, none⟩) hg).symm.trans Hg1.out)
        have c2 := (hBr.cell (p := ⟨g, 1, none⟩) hg).trans ((hB1.cell (p := ⟨g, 1, none⟩) hg).symm.trans Hg2.out)
        have Hx1 := Lib.hid (Hx.out.below hBr)
        have Hy1 := Lib.hid (Hy.out.below hBr)
        have : k = 0 ∨ k = 1 ∨ k = 2 := by omega
        rcases this with rfl | rfl | rfl
        · obtain rfl : nv = 0 := hnv
          clear c2
          go_wp2_with (at_builtin; refine wpL_append8 _ rfl _ _ rfl wo.heap.size _ 0 _ [] rfl hov _ n _ (bcells xs) rfl (by rw [bcells_length]; exact Hx.out.1) Hna.out Hx1.out.news (bcells_one _) (by omega) hzr ?_)
          intro a3 c3 w3 ho3 hg3
          have hB3 : Below wo.heap.size wo w3 := below_own hBr hov hg3 (Nat.le_refl _) hzr
          have HJ := Lib.hid (show Joined wo xs ys n m 1 (.slice a3 (0 + n) c3) w3 from ⟨_, _, _, rfl, by simp, by simpa using ho3⟩)
          clear hov hg3 ho3 hBr
          go_wp2
          go_roundw
          case rel => exact ⟨1, by decide, by go_num, by simpa using HJ.out, hB3⟩
          case measure => simp [intOf]
        · obtain rfl : nv = n := hnv
          clear c1
          go_wp2_with (at_builtin; refine wpL_append8 _ rfl _ _ rfl wo.heap.size _ nv _ _ rfl hov _ m _ (bcells ys) rfl (by rw [bcells_length]; exact Hy.out.1) Hnb.out Hy1.out.news (bcells_one _) (by omega) hzr ?_)
          intro a3 c3 w3 ho3 hg3
          have hB3 : Below wo.heap.size wo w3 := below_own hBr hov hg3 (Nat.le_refl _) hzr
          have HJ := Lib.hid (show Joined wo xs ys nv m 2 (.slice a3 (nv + m) c3) w3 from ⟨_, _, _, rfl, by simp, by rw [show (if 2 = 0 then [] else if 2 = 1 then xs else xs ++ ys) = xs ++ ys from rfl, bcells_append]; exact ho3⟩)
          clear hov hg3 ho3 hBr
          go_wp2
          go_roundw
          case rel => exact ⟨2, by decide, by go_num, HJ.out, hB3⟩
          case measure => simp [intOf]
        · have ho4 : wr.ownsRow wo.heap.size 5 1 (.slice av nv cv) nv (bcells (xs ++ ys)) := hov
          have hnv' : nv = n + m := hnv
          have Ho4 := Lib.hid ho4
          have Hnv := Lib.hid hnv'
          clear hov ho4 hnv hnv' c1 c2
          rw [show ((2 : Nat) : Int) = (2 : Int) from rfl]
          go_wp2
          go_ret
          refine ⟨_, _, _, rfl, ?_, hBr⟩
          rw [List.length_append, Hx.out.1, Hy.out.1, ← Hnv.out]
          exact Ho4.out
end Go.Proofs.Ytfipnkledifilaa
