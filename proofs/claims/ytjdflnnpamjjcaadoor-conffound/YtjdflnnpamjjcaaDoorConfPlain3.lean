/- Chapter 13 in plain words: what is wrong with a peer, case by case; the place of a key. -/
import Derived.Test.YtjdflnnpamjjcaaDoorConfPlain
namespace Go.Proofs.YtjdflnnpamjjcaaDoor.Cf

/-- The network before the j-th one. -/
def prev (ns : List (Nat × Int)) (j : Nat) : Option (Nat × Int) := if j = 0 then none else ns[j - 1]?
/-- What is wrong with the networks from the j-th one on. -/
def from_ (ns : List (Nat × Int)) (j : Nat) : Nat := netsErr (prev ns j) (ns.drop j)
theorem from_all (ns : List (Nat × Int)) : from_ ns 0 = netsErr none ns := rfl
theorem from_end (ns : List (Nat × Int)) (j : Nat) (h : ns.length ≤ j) : from_ ns j = 0 := by
  unfold from_
  rw [List.drop_of_length_le h]
  cases prev ns j <;> rfl
theorem prev_next (ns : List (Nat × Int)) (j : Nat) (h : j < ns.length) : prev ns (j + 1) = some ns[j] := by
  unfold prev
  rw [if_neg (by omega), Nat.add_sub_cancel, List.getElem?_eq_getElem h]
theorem from_bad {ns : List (Nat × Int)} {j : Nat} (h : j < ns.length) (he : Nt.err ns[j].1 ns[j].2 ≠ 0) : from_ ns j = Nt.err ns[j].1 ns[j].2 := by
  unfold from_
  rw [List.drop_eq_getElem_cons h]
  cases prev ns j <;> (unfold netsErr; rw [if_pos he])
theorem from_first {ns : List (Nat × Int)} (h : 0 < ns.length) (he : Nt.err ns[0].1 ns[0].2 = 0) : from_ ns 0 = from_ ns 1 := by
  unfold from_
  rw [List.drop_eq_getElem_cons h, prev_next ns 0 h]
  show netsErr none _ = _
  conv => lhs; unfold netsErr
  rw [if_neg (fun hn => hn he)]
theorem from_less {ns : List (Nat × Int)} {j : Nat} (h : j < ns.length) (h0 : 0 < j) (he : Nt.err ns[j].1 ns[j].2 = 0) (ho : Nt.order ns[j].1 ns[j].2 (ns[j - 1]'(by omega)).1 (ns[j - 1]'(by omega)).2 = 1) : from_ ns j = from_ ns (j + 1) := by
  unfold from_
  have hp : prev ns j = some (ns[j - 1]'(by omega)) := by
    have := prev_next ns (j - 1) (by omega)
    rwa [Nat.sub_add_cancel h0] at this
  rw [List.drop_eq_getElem_cons h, prev_next ns j h, hp]
  conv => lhs; unfold netsErr
  rw [if_neg (fun hn => hn he)]
  show (if Nt.order _ _ _ _ = 1 then _ else _) = _
  rw [if_pos ho]
theorem from_twice {ns : List (Nat × Int)} {j : Nat} (h : j < ns.length) (h0 : 0 < j) (he : Nt.err ns[j].1 ns[j].2 = 0) (ho : Nt.order ns[j].1 ns[j].2 (ns[j - 1]'(by omega)).1 (ns[j - 1]'(by omega)).2 ≠ 1) : from_ ns j = 6 := by
  unfold from_
  have hp : prev ns j = some (ns[j - 1]'(by omega)) := by
    have := prev_next ns (j - 1) (by omega)
    rwa [Nat.sub_add_cancel h0] at this
  rw [List.drop_eq_getElem_cons h, hp]
  conv => lhs; unfold netsErr
  rw [if_neg (fun hn => hn he)]
  show (if Nt.order _ _ _ _ = 1 then _ else _) = _
  rw [if_neg ho]
theorem right_key {p : P} (h : keyErr p.k ≠ 0) : right p = keyErr p.k := by unfold right; rw [if_pos h]
theorem right_shared {p : P} (h : keyErr p.k = 0) (hs : p.s.size ≠ 0) (he : keyErr p.s ≠ 0) : right p = keyErr p.s := by
  unfold right; rw [if_neg (fun hn => hn h), if_pos ⟨hs, he⟩]
theorem right_zeros {p : P} (h : keyErr p.k = 0) (hs : p.s.size = 0 ∨ keyErr p.s = 0) (hz : p.s = Bt.zeros) : right p = 3 := by
  unfold right; rw [if_neg (fun hn => hn h), if_neg (fun hn => by rcases hs with hs | hs; exact hn.1 hs; exact hn.2 hs), if_pos hz]
/-- The shared key is right. -/
def sOk (p : P) : Prop := keyErr p.k = 0 ∧ (p.s.size = 0 ∨ keyErr p.s = 0) ∧ p.s ≠ Bt.zeros
theorem right_end {p : P} (h : sOk p) (hs : p.e.size ≠ 0) (he : endErr p.e ≠ 0) : right p = endErr p.e := by
  obtain ⟨h1, h2, h3⟩ := h
  unfold right; rw [if_neg (fun hn => hn h1), if_neg (fun hn => by rcases h2 with hs | hs; exact hn.1 hs; exact hn.2 hs), if_neg h3, if_pos ⟨hs, he⟩]
theorem right_alive {p : P} (h : sOk p) (hs : p.e.size = 0 ∨ endErr p.e = 0) (hv : p.v < 0 ∨ 65535 < p.v) : right p = 4 := by
  obtain ⟨h1, h2, h3⟩ := h
  unfold right; rw [if_neg (fun hn => hn h1), if_neg (fun hn => by rcases h2 with hs | hs; exact hn.1 hs; exact hn.2 hs), if_neg h3, if_neg (fun hn => by rcases hs with hs | hs; exact hn.1 hs; exact hn.2 hs), if_pos hv]
theorem right_many {p : P} (h : sOk p) (hs : p.e.size = 0 ∨ endErr p.e = 0) (hv : ¬ (p.v < 0 ∨ 65535 < p.v)) (hn : 8 < p.ns.length) : right p = 1 := by
  obtain ⟨h1, h2, h3⟩ := h
  unfold right; rw [if_neg (fun hn => hn h1), if_neg (fun hn => by rcases h2 with hs | hs; exact hn.1 hs; exact hn.2 hs), if_neg h3, if_neg (fun hn => by rcases hs with hs | hs; exact hn.1 hs; exact hn.2 hs), if_neg hv, if_pos hn]
theorem right_nets {p : P} (h : sOk p) (hs : p.e.size = 0 ∨ endErr p.e = 0) (hv : ¬ (p.v < 0 ∨ 65535 < p.v)) (hn : p.ns.length ≤ 8) : right p = from_ p.ns 0 := by
  obtain ⟨h1, h2, h3⟩ := h
  unfold right; rw [if_neg (fun hn => hn h1), if_neg (fun hn => by rcases h2 with hs | hs; exact hn.1 hs; exact hn.2 hs), if_neg h3, if_neg (fun hn => by rcases hs with hs | hs; exact hn.1 hs; exact hn.2 hs), if_neg hv, if_neg (by omega)]
  rfl
theorem at_here {l : List P} {key : ByteArray} {k : Nat} (h : k < l.length) (hn : ∀ j (hj : j < l.length), j < k → l[j].k ≠ key) (he : l[k].k = key) : at_ l key = k := by
  induction l generalizing k with
  | nil => simp at h
  | cons x r ih =>
    unfold at_
    cases k with
    | zero =>
      rw [List.takeWhile_cons_of_neg (by simpa using he)]
      rfl
    | succ k =>
      have h0 : x.k ≠ key := hn 0 (by simp) (by omega)
      rw [List.takeWhile_cons_of_pos (by simpa using h0), List.length_cons]
      congr 1
      exact ih (k := k) (by simpa using h) (fun j hj hjk => hn (j + 1) (by simpa using hj) (by omega)) he
theorem at_none {l : List P} {key : ByteArray} (hn : ∀ j (hj : j < l.length), l[j].k ≠ key) : at_ l key = l.length := by
  induction l with
  | nil => rfl
  | cons x r ih =>
    have h0 : x.k ≠ key := hn 0 (by simp)
    unfold at_
    rw [List.takeWhile_cons_of_pos (by simpa using h0), List.length_cons, List.length_cons]
    congr 1
    exact ih fun j hj => hn (j + 1) (by simpa using hj)
end Go.Proofs.YtjdflnnpamjjcaaDoor.Cf
