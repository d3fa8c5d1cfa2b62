/- What the region of the laws' helper lines does, operation by operation. -/
import Derived.Test.YtldfamdjdkaloabDoorLineKeepP
import Derived.Test.YtldfamdjdkaloabDoorLineMem
import Derived.Test.YtldfamdjdkaloabDoorStructMem
import Derived.Test.YtldfamdjdkaloabDoorRegVals
import Derived.Test.YtldfamdjdkaloabDoorShelfRepeat
namespace Go.Proofs.YtldfamdjdkaloabDoor
open Go.RowKit

theorem wpO_append_line (w : World) {o : Oper} {a : Act} {K : Act → World → Prop} {Q : Exit → Act → World → Prop} (s x : Operand)
    (ho : o.op = .call { callee := .builtin .append, args := #[s, x], argTypes := #[26, 26] }) (B : Nat) (v : Value) (l : List Ln.L) (hs : a.eval s = v) (hO : OwnL w B v l)
    (ad : Addr) (m c : Nat) (news : List Ln.L) (hx : a.eval x = .slice (some ad) m c) (hm : news.length = m) (hnews : ∀ j u, (Ln.linesC news)[j]? = some u → w.cell? (ad.add j) = some u) (hmax : l.length + m ≤ 3518437208883) (hB : B ≤ w.heap.size)
    (h : ∀ v' w', OwnL w' B v' (l ++ news) → Below B w w' → K (a.put o.dst v') w') : o.wp Tryd.prog a w K Q := by
  obtain ⟨i, hi, hz0, hz1, hz2⟩ := info_line
  obtain ⟨av, cv, rfl, hown⟩ := hO
  refine wp_append_own w s x 26 ho B 23 i _ 2 32 Tryd.underlying26 hi hz0 hz1 hz2 rfl (by decide) _ l.length _ hs hown ad m c (Ln.linesC news) hx (by rw [Ln.linesC_length, hm]) hnews (Ln.linesC_one _) (by unfold maxLen; omega) (by omega) hB ?_
  intro v' w' ho' hg _
  obtain ⟨a', c', rfl⟩ := own_toL ho'
  refine h _ w' ⟨a', c', by rw [List.length_append, hm], ?_⟩ ((Below.refl B _).grown hg hB (fun k hk => (hown.lt k hk).1))
  rw [List.length_append, hm, Ln.linesC_append]
  exact ho'

def keyCells : List Value := [.string ⟨#[97]⟩, .string ⟨#[98, 95, 99]⟩, .string ⟨#[107, 101, 121]⟩, .string ⟨#[122, 122]⟩]
theorem keyCells_at (p : Nat) (h : p < 4) : keyCells[p]? = some (.string (Ln.keyT p)) := by
  have : p = 0 ∨ p = 1 ∨ p = 2 ∨ p = 3 := by omega
  rcases this with rfl | rfl | rfl | rfl <;> rfl
/-- What an operation of the region leaves. -/
def lineSpec (V : Value) (B G : Nat) (D : List Ln.L) (k a b : Int) (s : ByteArray) (p q : Nat) (X : Ln.L) (j : Nat) (v : Value) (w : World) : Prop :=
  match j with
  | 0 => v = V ∧ OwnL w B V D
  | 1 => ∃ g, v = .slice (some ⟨g, 0, none⟩) 4 4 ∧ Blk w g 9 keyCells
  | 2 => v = .pointer (some ⟨G, 0, none⟩) ∧ Blk w G 46 [.int .i64 k, .int .i64 a, .int .i64 b, .string s]
  | 3 => v = .int .i64 k
  | 4 => v = .int .i64 (p : Int)
  | 5 => ∃ g, v = .pointer (some ⟨g, p, none⟩) ∧ Blk w g 9 keyCells
  | 6 => v = .string X.k
  | 7 => v = .pointer (some ⟨G, 1, none⟩) ∧ Blk w G 46 [.int .i64 k, .int .i64 a, .int .i64 b, .string s]
  | 8 => v = .int .i64 a
  | 9 => v = .int .i64 (q : Int)
  | 10 => v = .string X.v
  | 11 => v = lineV X
  | 12 => ∃ g, v = .slice (some ⟨g, 0, none⟩) 1 1 ∧ Blk w g 23 (Ln.lineC X)
  | _ => OwnL w B v (D ++ [X])
theorem lineSpec_kept {V : Value} {B G : Nat} {D : List Ln.L} {k a b : Int} {s : ByteArray} {p q : Nat} {X : Ln.L} {j : Nat} {v : Value} {w w' : World} (hb : Below w.heap.size w w') (h : lineSpec V B G D k a b s p q X j v w) : lineSpec V B G D k a b s p q X j v w' := by
  unfold lineSpec at *
  split at h
  · exact ⟨h.1, h.2.below hb⟩
  · obtain ⟨g, h1, h2⟩ := h; exact ⟨g, h1, h2.kept hb⟩
  · exact ⟨h.1, h.2.kept hb⟩
  · exact h
  · exact h
  · obtain ⟨g, h1, h2⟩ := h; exact ⟨g, h1, h2.kept hb⟩
  · exact h
  · exact ⟨h.1, h.2.kept hb⟩
  · exact h
  · exact h
  · exact h
  · exact h
  · obtain ⟨g, h1, h2⟩ := h; exact ⟨g, h1, h2.kept hb⟩
  · exact h.below hb
def lineDst (i : Nat) : Option Nat := ([some 15, some 16, some 17, some 18, some 19, some 20, some 21, some 22, some 23, some 24, some 25, some 26, some 27, some 28, some 3] : List (Option Nat)).getD i none
theorem line_dist (i j : Nat) (h : i < j) (hj : j < 15) : lineDst i = none ∨ lineDst i ≠ lineDst j := (by decide : ∀ j, j < 15 → ∀ i, i < j → (lineDst i = none ∨ lineDst i ≠ lineDst j)) j hj i h
theorem line_in (i d : Nat) (hi : i < 15) (hd : lineDst i = some d) : d ≤ 28 := by
  have h := (by decide : ∀ i, i < 15 → (lineDst i).getD 0 ≤ 28) i hi
  rw [hd] at h
  exact h
theorem line_three (j : Nat) (hj : j < 15) (hd : lineDst j = some 3) : j = 14 := (by decide : ∀ j, j < 15 → lineDst j = some 3 → j = 14) j hj hd
theorem line_five (j : Nat) (hj : j < 15) (hd : lineDst j = some 5) : False := (by decide : ∀ j, j < 15 → lineDst j = some 5 → False) j hj hd
theorem line_put (F : Nat → Value) (a0 : Act) : putAll lineDst F a0 15 = (((((((((((((((a0.put (some 15) (F 0)).put (some 16) (F 1)).put (some 17) (F 2)).put (some 18) (F 3)).put (some 19) (F 4)).put (some 20) (F 5)).put (some 21) (F 6)).put (some 22) (F 7)).put (some 23) (F 8)).put (some 24) (F 9)).put (some 25) (F 10)).put (some 26) (F 11)).put (some 27) (F 12)).put (some 28) (F 13)).put (some 3) (F 14)) := rfl
theorem rep_call (n : Nat) (h : n < 30) (w : World) : Calls Tryd.prog 22 #[.string ⟨#[118, 61]⟩, .int .i64 (n : Int)] w fun e w' => e = .returned (.string (Ln.valT n)) ∧ Below w.heap.size w w' :=
  Tryd.strings_Repeat ⟨#[118, 61]⟩ n w (by omega) (by show 2 * n ≤ _; omega)
end Go.Proofs.YtldfamdjdkaloabDoor
