/- The contract of sha.round. -/
import Derived.Test.YthknkfiofdfogaaDoorArr
import Derived.Deep.Cut
namespace Go.Proofs.YthknkfiofdfogaaDoor
open Go.RowKit

def zero8 : Array Value := #[.int .u32 0, .int .u32 0, .int .u32 0, .int .u32 0, .int .u32 0, .int .u32 0, .int .u32 0, .int .u32 0]
theorem zero8_words : zero8 = (wcells (List.replicate 8 0)).toArray := rfl
theorem wpL_build8 {w : World} {ops : Array Oper} {rest : List Oper} {o : Oper} {A : Act} {Q : Exit → Act → World → Prop} (hgd : o.guard = none) (x0 x1 x2 x3 x4 x5 x6 x7 : Operand)
    (ho : o.op = .build 80 #[(0, x0), (1, x1), (2, x2), (3, x3), (4, x4), (5, x5), (6, x6), (7, x7)]) (a b c d e f g h : BitVec 32)
    (h0 : A.eval x0 = U a) (h1 : A.eval x1 = U b) (h2 : A.eval x2 = U c) (h3 : A.eval x3 = U d) (h4 : A.eval x4 = U e) (h5 : A.eval x5 = U f) (h6 : A.eval x6 = U g) (h7 : A.eval x7 = U h)
    (k : wpList Tryd.prog ops Q rest (A.put o.dst (.agg #[U a, U b, U c, U d, U e, U f, U g, U h])) w) : wpList Tryd.prog ops Q (o :: rest) A w := by
  refine wpList_plain hgd fun K hK => ?_
  unfold Oper.wp execOp
  simp only [ho, List.map_toArray, List.map_cons, List.map_nil, h0, h1, h2, h3, h4, h5, h6, h7, Sem.run_bind, run_build (P := Tryd.prog) w 80 #[(0, U a), (1, U b), (2, U c), (3, U d), (4, U e), (5, U f), (6, U g), (7, U h)] #[U a, U b, U c, U d, U e, U f, U g, U h] (by kernel_rfl), Sem.run_pure, Result.andThen_ok]
  exact hK _ _ k

set_option maxRecDepth 100000 in
set_option maxHeartbeats 1000000 in
theorem sha_round8 (a b c d e f g h k : BitVec 32) (w : World) :
    Calls Tryd.prog 63 #[.agg #[U a, U b, U c, U d, U e, U f, U g, U h], U k] w fun x w' => x = .returned (.agg (wcells (Sh.rnd [a, b, c, d, e, f, g, h] k)).toArray) ∧ Below w.heap.size w w' := by
  go_enter Tryd.func63, Tryd.ntmps63
  go_wp2_with fail
  go_quiet (fail)
  obtain ⟨W, hW⟩ : ∃ W, W = ((w.alloc (.cells #[U a, U b, U c, U d, U e, U f, U g, U h] 80)).alloc (.cells zero8 80)).drewN nq := ⟨_, rfl⟩
  have hb : Below w.heap.size w W := by
    rw [hW]; exact below_drewN (((Below.refl _ _).alloc (Nat.le_refl _) _).alloc (by simp) _) _
  have hg : ArrAt W (w.heap.size + 1) 80 (List.replicate 8 0) := by
    have := (ArrAt.new (w.alloc (.cells #[U a, U b, U c, U d, U e, U f, U g, U h] 80)) 80 _ zero8 zero8_words).drewN nq
    rw [← hW, show (w.alloc (.cells #[U a, U b, U c, U d, U e, U f, U g, U h] 80)).heap.size = w.heap.size + 1 by simp] at this
    exact this
  unfold zero8 at hW
  rw [← hW]
  clear hW
  iterate 6
    (go_wp2_with fail
     with_reducible refine (sha_right _ _ _ (by omega) (by omega)).mono ?_
     rintro x w' ⟨rfl, rfl⟩)
  go_wp2_with (first
    | (with_reducible refine wpL_build8 (o := ⟨some 88, _, _, _, _, _⟩) rfl _ _ _ _ _ _ _ _ rfl _ _ _ _ _ _ _ _ rfl rfl rfl rfl rfl rfl rfl rfl ?_)
    | (with_reducible refine wpL_store_arr (o := ⟨none, _, _, _, _, _⟩) rfl 80 (.tmp 4) (.tmp 88) rfl (w.heap.size + 1) 8 _ rfl rfl _ (Sh.rnd [a, b, c, d, e, f, g, h] k) hg size_words ?s1 ?s2 ?s3 ?_))
  case s1 => rfl
  case s2 => rfl
  case s3 => rfl
  intro w1 hA hgr hsz
  have hb1 : Below w.heap.size w w1 := hb.grown hgr hb.size (fun k h => by injection h with h; omega)
  have hL := hA.load Tryd.underlying80 size_words rfl
  go_wp2
  exact bodyPost_ret (v := .agg (wcells (Sh.rnd [a, b, c, d, e, f, g, h] k)).toArray) (results_cell Tryd.results63 rfl hL) rfl ⟨rfl, hb1⟩
theorem sha_round (ws : List (BitVec 32)) (k : BitVec 32) (w : World) (h : ws.length = 8) :
    Calls Tryd.prog 63 #[.agg (wcells ws).toArray, U k] w fun x w' => x = .returned (.agg (wcells (Sh.rnd ws k)).toArray) ∧ Below w.heap.size w w' := by
  match ws, h with
  | [a, b, c, d, e, f, g, h], _ => exact sha_round8 a b c d e f g h k w
end Go.Proofs.YthknkfiofdfogaaDoor
