/- Texts and pairs of texts: the same or not, as the walks ask. -/
import Derived.WideShapes
import Derived.Laws.StructEq
namespace Go.Proofs.YtjdflnnpamjjcaaDoor

theorem text_eq (x y : ByteArray) : x = y ∨ (x.toList == y.toList) = false := by
  by_cases h : x = y
  · exact .inl h
  · refine .inr (beq_eq_false_iff_ne.2 fun e => h ?_)
    rw [ByteArray.toList_eq, ByteArray.toList_eq] at e
    exact WideShapes.bytes_inj e
theorem line_parts (xa ya xb yb : ByteArray) : (xa = ya ∧ xb = yb) ∨ (xa.toList == ya.toList) = false ∨ (xa = ya ∧ (xb.toList == yb.toList) = false) := by
  rcases text_eq xa ya with h | h
  · rcases text_eq xb yb with g | g
    · exact .inl ⟨h, g⟩
    · exact .inr (.inr ⟨h, g⟩)
  · exact .inr (.inl h)
end Go.Proofs.YtjdflnnpamjjcaaDoor
