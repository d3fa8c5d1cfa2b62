/- Chapter 13 in plain words: what is wrong with peers, from the i-th one on. -/
import Derived.Test.YtjdflnnpamjjcaaDoorConfPlain3
namespace Go.Proofs.YtjdflnnpamjjcaaDoor.Cf

def lastOf (ps : List P) (i : Nat) : ByteArray := if i = 0 then ⟨#[]⟩ else ((ps[i - 1]?).map (·.k)).getD ⟨#[]⟩
def metOf (ps : List P) (i : Nat) : List (Nat × Int) := (ps.take i).flatMap (·.ns)
/-- What is wrong with the peers from the i-th one on. -/
def pFrom (key : ByteArray) (ps : List P) (i : Nat) : Nat := peersErr key (lastOf ps i) (metOf ps i) (ps.drop i)
theorem pFrom_all (key : ByteArray) (ps : List P) : pFrom key ps 0 = peersErr key ⟨#[]⟩ [] ps := rfl
theorem pFrom_end (key : ByteArray) (ps : List P) (i : Nat) (h : ps.length ≤ i) : pFrom key ps i = 0 := by
  unfold pFrom
  rw [List.drop_of_length_le h]
  rfl
theorem last_next (ps : List P) (i : Nat) (h : i < ps.length) : lastOf ps (i + 1) = ps[i].k := by
  unfold lastOf
  rw [if_neg (by omega), Nat.add_sub_cancel, List.getElem?_eq_getElem h]
  rfl
theorem met_next (ps : List P) (i : Nat) (h : i < ps.length) : metOf ps (i + 1) = metOf ps i ++ ps[i].ns := by
  unfold metOf
  rw [List.take_succ_eq_append_getElem h, List.flatMap_append]
  simp
theorem pFrom_cons (key : ByteArray) {ps : List P} {i : Nat} (h : i < ps.length) : pFrom key ps i = if right ps[i] ≠ 0 then right ps[i] else if lt (lastOf ps i) ps[i].k = false ∨ ps[i].k = key then 6 else
    if ps[i].ns.any (fun n => decide (n ∈ metOf ps i)) then 6 else pFrom key ps (i + 1) := by
  unfold pFrom
  rw [List.drop_eq_getElem_cons h, last_next ps i h, met_next ps i h]
  rfl
theorem pFrom_right {key : ByteArray} {ps : List P} {i : Nat} (h : i < ps.length) (hr : right ps[i] ≠ 0) : pFrom key ps i = right ps[i] := by rw [pFrom_cons key h, if_pos hr]
theorem pFrom_order {key : ByteArray} {ps : List P} {i : Nat} (h : i < ps.length) (hr : right ps[i] = 0) (ho : lt (lastOf ps i) ps[i].k = false ∨ ps[i].k = key) : pFrom key ps i = 6 := by
  rw [pFrom_cons key h, if_neg (fun hn => hn hr), if_pos ho]
theorem pFrom_met {key : ByteArray} {ps : List P} {i : Nat} (h : i < ps.length) (hr : right ps[i] = 0) (j : Nat) (hj : j < ps[i].ns.length) (hm : ps[i].ns[j] ∈ metOf ps i) : pFrom key ps i = 6 := by
  rw [pFrom_cons key h, if_neg (fun hn => hn hr)]
  split
  · rfl
  · rw [if_pos (by rw [List.any_eq_true]; exact ⟨_, List.getElem_mem hj, decide_eq_true hm⟩)]
theorem pFrom_next {key : ByteArray} {ps : List P} {i : Nat} (h : i < ps.length) (hr : right ps[i] = 0) (ho : ¬ (lt (lastOf ps i) ps[i].k = false ∨ ps[i].k = key)) (hm : ∀ n ∈ ps[i].ns, n ∉ metOf ps i) : pFrom key ps i = pFrom key ps (i + 1) := by
  rw [pFrom_cons key h, if_neg (fun hn => hn hr), if_neg ho, if_neg]
  rw [List.any_eq_true]
  rintro ⟨n, hn, hd⟩
  exact hm n hn (of_decide_eq_true hd)
/-- A network is greater than another one. -/
def gt (x y : Nat × Int) : Prop := y.1 < x.1 ∨ y.1 = x.1 ∧ y.2 < x.2
theorem order_gt (x y : Nat × Int) : Nt.order x.1 x.2 y.1 y.2 = 1 ↔ gt x y := by
  unfold Nt.order gt
  split
  · rename_i h
    constructor
    · intro e; cases e
    · intro g; exfalso; omega
  · split
    · rename_i h1 h2
      constructor
      · intro e; cases e
      · intro g; exfalso; omega
    · rename_i h1 h2
      exact ⟨fun _ => by omega, fun _ => rfl⟩
/-- Networks that are right are each greater than the ones before, and right themselves. -/
theorem nets_ok : ∀ (r : List (Nat × Int)) (m : Option (Nat × Int)), netsErr m r = 0 → (∀ n ∈ r, Nt.err n.1 n.2 = 0) ∧ (∀ q, m = some q → ∀ n ∈ r, gt n q) ∧ r.Pairwise fun x y => gt y x
  | [], _, _ => ⟨by simp, by simp, List.Pairwise.nil⟩
  | n :: r, m, h => by
    unfold netsErr at h
    by_cases he : Nt.err n.1 n.2 = 0
    · rw [if_neg (fun hn => hn he)] at h
      have key : netsErr (some n) r = 0 ∧ ∀ q, m = some q → gt n q := by
        cases m with
        | none => exact ⟨h, fun q hq => by cases hq⟩
        | some q =>
          simp only at h
          by_cases ho : Nt.order n.1 n.2 q.1 q.2 = 1
          · rw [if_pos ho] at h
            exact ⟨h, fun q' hq => by cases hq; exact (order_gt n q).1 ho⟩
          · rw [if_neg ho] at h; cases h
      obtain ⟨i1, i2, i3⟩ := nets_ok r (some n) key.1
      refine ⟨fun x hx => ?_, fun q hq x hx => ?_, List.Pairwise.cons (fun x hx => i2 n rfl x hx) i3⟩
      · rcases List.mem_cons.1 hx with rfl | hx
        · exact he
        · exact i1 x hx
      · have g := key.2 q hq
        rcases List.mem_cons.1 hx with rfl | hx
        · exact g
        · have g2 := i2 n rfl x hx
          unfold gt at *
          omega
    · rw [if_pos he] at h
      exact absurd h he
theorem right_ok {p : P} (h : right p = 0) : p.ns.length ≤ 8 ∧ (∀ n ∈ p.ns, Nt.err n.1 n.2 = 0) ∧ ∀ j (hj : j < p.ns.length), p.ns[j] ∉ p.ns.take j := by
  have hn : p.ns.length ≤ 8 ∧ netsErr none p.ns = 0 := by
    unfold right at h
    split at h
    · rename_i g; exact absurd h g
    · split at h
      · rename_i g; exact absurd h g.2
      · split at h
        · cases h
        · split at h
          · rename_i g; exact absurd h g.2
          · split at h
            · cases h
            · split at h
              · cases h
              · exact ⟨by omega, h⟩
  obtain ⟨i1, -, i3⟩ := nets_ok p.ns none hn.2
  refine ⟨hn.1, i1, fun j hj hm => ?_⟩
  obtain ⟨k, hk, he⟩ := List.mem_take_iff_getElem.1 hm
  have hkj : k < j := by omega
  have := List.pairwise_iff_getElem.1 i3 k j (by omega) hj hkj
  rw [he] at this
  unfold gt at this
  omega
end Go.Proofs.YtjdflnnpamjjcaaDoor.Cf
