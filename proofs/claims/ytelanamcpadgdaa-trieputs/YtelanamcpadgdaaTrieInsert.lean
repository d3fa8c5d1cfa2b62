/- The contract of slices.Insert of one node into a row of nodes of the call's own. -/
import Derived.Test.YtelanamcpadgdaaNodeMem5
import Derived.Test.YtelanamcpadgdaaNodeEq
import Derived.StillTailTactics
namespace Go.Proofs.Ytelanamcpadgdaa
open Go.RowKit

theorem OwnN.addr {w : World} {B n c : Nat} {ad : Addr} {l : List Tr.Node} (h : OwnN w B (.slice (some ad) n c) l) : ∃ g, ad = ⟨g, 0, none⟩ := by
  obtain ⟨a', c', e, ho⟩ := h
  injection e with e1 e2 e3
  rcases ho.2 with ⟨h1, _⟩ | ⟨g, cap, cur, h1, _⟩
  · injection h1 with h1
    rw [← e1] at h1
    cases h1
  · injection h1 with h1
    rw [← e1] at h1
    injection h1 with h1
    exact ⟨g, h1⟩
set_option maxRecDepth 20000 in
set_option maxHeartbeats 3200000 in
/-- At the end. -/
theorem nodes_Insert_end (v : Value) (S : List Tr.Node) (gv : Nat) (nd : Tr.Node) (w : World) (B : Nat) (hO : OwnN w B v S) (hB : B ≤ w.heap.size) (hn : S.length + 1 ≤ 3518437208883) (hnd : NodeIn w gv nd) :
    Calls Try.prog 45 #[v, .int .i64 (S.length : Int), .slice (some ⟨gv, 0, none⟩) 1 1] w fun e w' => ∃ v', e = .returned v' ∧ OwnN w' B v' (S ++ [nd]) ∧ Below B w w' := by
  obtain ⟨va, vc, rfl, hown⟩ := hO
  have hO : OwnN w B (.slice va S.length vc) S := ⟨va, vc, rfl, hown⟩
  have hcap : S.length ≤ vc := by
    rcases hown.2 with ⟨_, hz⟩ | ⟨g, cap, cur, hv, _, _, hk, _⟩
    · omega
    · injection hv with _ _ h3; omega
  have hnil := hO.at'.1
  have HO := Lib.hid hO
  have hnw : NodesAt w w.heap.size (some ⟨gv, 0, none⟩) 1 [nd] := ⟨rfl, fun _ => ⟨gv, 0, rfl, hnd.lt, fun i hi => by
    obtain rfl : i = 0 := by simpa using hi
    exact hnd.cells⟩⟩
  have Hnw := Lib.hid hnw
  obtain ⟨n, hnn⟩ : ∃ n, n = S.length := ⟨_, rfl⟩
  rw [← hnn] at hcap hn hnil ⊢
  have Hn := Lib.hid hnn
  rw [← hnn] at HO
  clear hO hown hnd hnw hnn
  have hw : IntKind.i64.wrap ((n : Int) + 1) = (n : Int) + 1 := IntWalk.i64_in _ (by omega)
  cases va with
  | none =>
    obtain ⟨rfl, rfl⟩ := hnil rfl
    go_enter Try.func45, Try.ntmps45
    go_wp2_with (at_builtin; refine wpL_append_nodes _ rfl _ _ rfl B _ S rfl HO.out _ 1 _ [nd] rfl (fun h => by cases h) Hnw.out (by have := Hn.out; omega) hB ?_)
    intro v' w2 hO2 hgr _
    have b2 := below_grownN HO.out hgr hB
    have HO2 := Lib.hid hO2
    clear hO2 hgr
    go_wp2
    go_ret
    exact ⟨_, rfl, HO2.out, b2⟩
  | some ad =>
    obtain ⟨g, rfl⟩ := HO.out.addr
    by_cases hcn : vc = n
    · subst hcn
      go_enter Try.func45, Try.ntmps45
      go_wp2_with (at_builtin; refine wpL_append_nodes _ rfl _ _ rfl B _ S rfl HO.out _ 1 _ [nd] rfl (fun h => by cases h) Hnw.out (by have := Hn.out; omega) hB ?_)
      intro v' w2 hO2 hgr _
      have b2 := below_grownN HO.out hgr hB
      have HO2 := Lib.hid hO2
      clear hO2 hgr
      go_wp2
      go_ret
      exact ⟨_, rfl, HO2.out, b2⟩
    · have hcd : ¬ vc - n = 0 := by omega
      go_enter Try.func45, Try.ntmps45
      go_wp2_with (at_builtin; refine wpL_append_nodes _ rfl _ _ rfl B _ S rfl HO.out _ 1 _ [nd] rfl (fun h => by cases h) Hnw.out (by have := Hn.out; omega) hB ?_)
      intro v' w2 hO2 hgr _
      have b2 := below_grownN HO.out hgr hB
      have HO2 := Lib.hid hO2
      clear hO2 hgr
      go_wp2
      go_ret
      exact ⟨_, rfl, HO2.out, b2⟩
end Go.Proofs.Ytelanamcpadgdaa
