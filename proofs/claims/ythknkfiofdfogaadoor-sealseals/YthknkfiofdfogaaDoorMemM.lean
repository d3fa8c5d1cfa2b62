/- Bytes of the call's own in a row that may bear the mark of a conversion ([]byte(s): one place behind its last cell): an append onto it. -/
import Derived.Test.YthknkfiofdfogaaDoorMem2
import Derived.Test.YthknkfiofdfogaaDoorConv
import Derived.Deep.AppendLies
namespace Go.Proofs.YthknkfiofdfogaaDoor
open Go.RowKit

/-- The call's own bytes; no cell of their row is shut. -/
def OwnM (w : World) (base : Nat) (v : Value) (bs : List UInt8) : Prop :=
  ∃ g cap cur fz, v = .slice (some ⟨g, 0, none⟩) bs.length cap ∧ base ≤ g ∧ w.heap[g]? = some (.cells cur 5 fz) ∧ bs.length ≤ cap ∧ cap ≤ maxLen ∧ cur.size = cap ∧ cur.toList.take bs.length = bcells bs ∧
    ∀ j, j < cap → (decide (fz.1 ≤ j) && decide (j < fz.2)) = false

theorem run_storeCells_atM (P : Program) (g o : Nat) (t : TypeId) (fz : Nat × Nat) : ∀ (vs : List Value) (i : Nat) (cur : Array Value) (w : World), w.heap[g]? = some (.cells cur t fz) → (∀ j, j < cur.size → (decide (fz.1 ≤ j) && decide (j < fz.2)) = false) → o + i + vs.length ≤ cur.size → (∀ v ∈ vs, v.oneCell' = true) →
    (storeCells ⟨g, o, none⟩ vs i).run P w = .ok () (w.setRow g (cur.toList.take (o + i) ++ vs ++ cur.toList.drop (o + i + vs.length)).toArray)
  | [], i, cur, w, hg, _, _, _ => by
    simp only [storeCells, List.append_nil, List.length_nil, Nat.add_zero, List.take_append_drop, Array.toArray_toList]
    rw [setRow_self w g cur t fz hg]
    rfl
  | v :: rest, i, cur, w, hg, hfz, hl, h1 => by
    have hi : o + i < cur.size := by simp at hl; omega
    have hadd : (⟨g, o, none⟩ : Addr).add i = ⟨g, o + i, none⟩ := by unfold Addr.add; split <;> simp_all
    have hcell : w.cell? ⟨g, o + i, none⟩ = some cur[o + i] := by simp [World.cell?, hg, hi]
    have hfro : w.frozen? ⟨g, o + i, none⟩ = false := by
      obtain ⟨lo, hi'⟩ := fz
      simp only [World.frozen?, hg]
      exact hfz (o + i) hi
    have hst : (store ((⟨g, o, none⟩ : Addr).add i) v).run P w = .ok () (w.setRow g (cur.setIfInBounds (o + i) v)) := by
      rw [hadd, run_store P w _ v _ (h1 v (by simp)), hcell]
      simp [hfro, setCell_eq_setRow w g (o + i) cur t fz v hg]
    have ih := run_storeCells_atM P g o t fz rest (i + 1) (cur.setIfInBounds (o + i) v) (w.setRow g (cur.setIfInBounds (o + i) v)) (setRow_heap w g cur _ t _ hg) (by simpa using hfz) (by simp at hl ⊢; omega) (fun x hx => h1 x (by simp [hx]))
    simp only [storeCells, Sem.run_bind, hst, Result.andThen_ok, ih, setRow_setRow]
    congr 3
    have e := list_seg_step cur.toList (o + i) v rest (by simp at hl ⊢; omega)
    simpa [Array.toList_setIfInBounds, Nat.add_assoc] using e

theorem OwnM.bytes {w : World} {base g n c : Nat} {bs : List UInt8} (h : OwnM w base (.slice (some ⟨g, 0, none⟩) n c) bs) : BytesAt w w.heap.size (some ⟨g, 0, none⟩) n bs := by
  obtain ⟨g', cap, cur, fz, hv, hb, hg, hn, hm, hs, ht, hf⟩ := h
  injection hv with h1 h2 h3
  have h1' : g = g' := by injection h1 with h1; injection h1
  subst h1'; subst h2; subst h3
  refine ⟨rfl, fun _ => ⟨g, 0, rfl, (Array.getElem?_eq_some_iff.1 hg).1, fun i hi => ?_⟩⟩
  rw [Nat.zero_add, cell_of_row w g i cur _ fz hg]
  have := bcells_get bs i hi
  rw [← ht, List.getElem?_take, if_pos hi] at this
  simpa using this
theorem OwnM.form {w : World} {base : Nat} {v : Value} {bs : List UInt8} (h : OwnM w base v bs) : ∃ g c, v = .slice (some ⟨g, 0, none⟩) bs.length c ∧ base ≤ g ∧ g < w.heap.size ∧ bs.length ≤ c := by
  obtain ⟨g', cap, cur, fz, hv, hb, hg, hn, hm, hs, ht, hf⟩ := h
  exact ⟨g', cap, hv, hb, (Array.getElem?_eq_some_iff.1 hg).1, hn⟩
theorem OwnM.kept {w w' : World} {base : Nat} {v : Value} {bs : List UInt8} (h : OwnM w base v bs) (hb : Below w.heap.size w w') : OwnM w' base v bs := by
  obtain ⟨g', cap, cur, fz, hv, hb', hg, r⟩ := h
  exact ⟨g', cap, cur, fz, hv, hb', (hb.block g' (Array.getElem?_eq_some_iff.1 hg).1).trans hg, r⟩
theorem OwnM.alloc {w : World} {base : Nat} {v : Value} {bs : List UInt8} (h : OwnM w base v bs) (o : Obj) : OwnM (w.alloc o) base v bs := h.kept ((Below.refl _ w).alloc (Nat.le_refl _) o)
theorem ownM_conv (s : ByteArray) (w : World) (hs : s.size ≤ maxLen) : ∃ w1 cap, (convert 9 22 (.string s)).run Tryd.prog w = .ok (.slice (some ⟨w.heap.size, 0, none⟩) s.size cap) w1 ∧
    OwnM w1 w.heap.size (.slice (some ⟨w.heap.size, 0, none⟩) s.size cap) s.data.toList ∧ Below w.heap.size w w1 := by
  refine ⟨_, _, Lib.run_convert_string_bytes (P := Tryd.prog) w _ _ 5 s Tryd.underlying9 Tryd.underlying22 Tryd.underlying5, ?_, ⟨rfl, rfl, rfl, by rw [Lib.bytesWorld_size]; omega, fun k hk => Lib.bytesWorld_at_old w _ s k hk⟩⟩
  have hge := grownCap_ge w s.size 0 5
  have hd : s.data.size = s.size := rfl
  have hsz : (Lib.bytesCells w 5 s).size = grownCap w s.size 0 5 := by
    simp only [Lib.bytesCells, Array.size_append, Array.size_map, Array.size_replicate]; omega
  refine ⟨w.heap.size, _, _, _, by simp, Nat.le_refl _, Lib.bytesWorld_at_new w 5 s, by simpa using hge, grownCap_le_maxLen w _ _ _ hs, hsz, ?_, fun j hj => ?_⟩
  · simp only [Lib.bytesCells, Array.toList_append, Array.toList_map]
    rw [List.take_append_of_le_length (by simp), List.take_of_length_le (by simp)]
    rfl
  · rw [hsz]
    simp only [Bool.and_eq_false_iff, decide_eq_false_iff_not]
    left; omega

theorem run_append_M (w : World) (ty : TypeId) (base : Nat) (v : Value) (bs : List UInt8) (hown : OwnM w base v bs) (ad : Addr) (m c : Nat) (ns : List UInt8) (hl : ns.length = m)
    (hnews : ∀ j u, (bcells ns)[j]? = some u → w.cell? (ad.add j) = some u) (h63 : bs.length + m ≤ 140737488355328) (hbase : base ≤ w.heap.size) :
    ∃ v' w', (Builtin.append_ #[22, 22] ty #[v, .slice (some ad) m c]).run Tryd.prog w = .ok v' w' ∧ OwnM w' base v' (bs ++ ns) ∧ Below base w w' := by
  obtain ⟨i, hi, hz0, hz1, hz2⟩ := info_u8
  have ht := Tryd.underlying22
  have hbm := hown
  obtain ⟨g, cap, cur, fz, rfl, hb, hg, hn, hm, hs, htk, hf⟩ := hown
  have hglt := (Array.getElem?_eq_some_iff.1 hg).1
  have hlc : (bcells ns).length = m := by rw [bcells_length, hl]
  have hlb : (bcells bs).length = bs.length := bcells_length bs
  by_cases hroom : bs.length + m ≤ cap
  · have hfc := run_firstCells_some (P := Tryd.prog) w 1 m ad m c (bcells ns) (by omega) hnews
    have hst := run_storeCells_atM Tryd.prog g bs.length 5 fz (bcells ns) 0 cur w hg (by rw [hs]; exact hf) (by omega) (bcells_one _)
    simp only [Nat.add_zero] at hst
    have hr : (Builtin.append_ #[22, 22] ty #[.slice (some ⟨g, 0, none⟩) bs.length cap, .slice (some ad) m c]).run Tryd.prog w =
        .ok (.slice (some ⟨g, 0, none⟩) (bs.length + m) cap) (w.setRow g (cur.toList.take bs.length ++ bcells ns ++ cur.toList.drop (bs.length + (bcells ns).length)).toArray) := by
      simp [Builtin.append_, run_underlying ht, sizeOf, typeInfo, hi, hz1, Builtin.lenOf, hroom, hfc, Addr.add_lit, hst]
    refine ⟨_, _, hr, ⟨g, cap, _, fz, by rw [List.length_append, hl], hb, setRow_heap w g cur _ _ _ hg, by rw [List.length_append, hl]; exact hroom, hm, ?_, ?_, hf⟩, ⟨rfl, rfl, rfl, by simp, fun k hk => setRow_other w g k _ (by omega)⟩⟩
    · simp only [List.size_toArray, List.length_append, List.length_take, List.length_drop, Array.length_toList]
      omega
    · rw [htk, ← bcells_append]
      have hl2 : (bcells (bs ++ ns)).length = (bs ++ ns).length := bcells_length _
      rw [← hl2]
      exact List.take_left
  · have holds : ∀ j u, (bcells bs)[j]? = some u → w.cell? ((⟨g, 0, none⟩ : Addr).add j) = some u := (OwnM.bytes hbm).news _ rfl
    have hr := run_append_grow (P := Tryd.prog) w 22 ty 5 i (.int .u8 0) ht hi hz0 ⟨g, 0, none⟩ bs.length cap (bcells bs) (by rw [hz1, hlb, Nat.mul_one]) holds ad m c (bcells ns) (by rw [hz1, hlc, Nat.mul_one]) hnews (by omega) (by omega) (by rw [hz2]; exact growslice_fits (by omega) (by omega))
    have hge := grownCap_ge w (bs.length + m) cap 5
    refine ⟨_, _, hr, ⟨w.heap.size, _, _, (0, 0), by rw [List.length_append, hl], hbase, heap_alloc_new w.drew _, by rw [List.length_append, hl]; exact hge, grownCap_le_maxLen w _ cap _ (by unfold maxLen; omega), ?_, ?_, fun j _ => by simp⟩, ⟨rfl, rfl, rfl, by simp, fun k hk => heap_alloc_old w.drew _ (Nat.lt_of_lt_of_le hk hbase)⟩⟩
    · have hz1' : (Value.int IntKind.u8 0).cells.size = 1 := rfl
      simp only [Array.size_append, List.size_toArray, size_zeroCells, hz1', hlb, hlc]
      omega
    · simp only [Array.toList_append]
      rw [← bcells_append, ← bcells_length (bs ++ ns)]
      exact List.take_left

theorem wpL_append_M (w : World) {ops : Array Oper} {rest : List Oper} {o : Oper} {a : Act} {Q : Exit → Act → World → Prop} (hgd : o.guard = none) (s x : Operand)
    (ho : o.op = .call { callee := .builtin .append, args := #[s, x], argTypes := #[22, 22] }) (base : Nat)
    (v : Value) (bs : List UInt8) (hs : a.eval s = v) (hown : OwnM w base v bs) (ad : Addr) (m c : Nat) (ns : List UInt8) (hx : a.eval x = .slice (some ad) m c) (hl : ns.length = m)
    (hnews : ∀ j u, (bcells ns)[j]? = some u → w.cell? (ad.add j) = some u) (h63 : bs.length + m ≤ 140737488355328) (hbase : base ≤ w.heap.size)
    (h : ∀ v' w', OwnM w' base v' (bs ++ ns) → Below base w w' → wpList Tryd.prog ops Q rest (a.put o.dst v') w') : wpList Tryd.prog ops Q (o :: rest) a w := by
  obtain ⟨v', w', hr, h2, h3⟩ := run_append_M w o.type base v bs hown ad m c ns hl hnews h63 hbase
  refine wpList_plain hgd fun K hK => ?_
  unfold Oper.wp execOp
  simp only [ho, resolve, invoke, builtin, Sem.run_bind, Sem.run_pure, Result.andThen_ok, List.map_toArray, List.map_cons, List.map_nil, hs, hx, hr]
  exact hK _ _ (h v' w' h2 h3)
end Go.Proofs.YthknkfiofdfogaaDoor
