/- Chapter 13 in plain words: a peer's and a configuration's check as the code goes about them. -/
import Derived.Test.YtjdflnnpamjjcaaDoorConfPlain4
import Derived.Test.YtjdflnnpamjjcaaDoorBatchBits
namespace Go.Proofs.YtjdflnnpamjjcaaDoor.Cf

/-- What is wrong with a shared key, an endpoint, a peer's networks. -/
def sErr (s : ByteArray) : Nat := if s.size = 0 then 0 else if keyErr s ≠ 0 then keyErr s else if s = Bt.zeros then 3 else 0
def eErr (e : ByteArray) : Nat := if e.size = 0 then 0 else endErr e
def nErr (ns : List (Nat × Int)) : Nat := if 8 < ns.length then 1 else from_ ns 0
theorem zeros_size : Bt.zeros.size = 64 := by rw [Bt.zeros_lit]; rfl
theorem right_code (p : P) : right p = if keyErr p.k ≠ 0 then keyErr p.k else if sErr p.s ≠ 0 then sErr p.s else if eErr p.e ≠ 0 then eErr p.e else if p.v < 0 ∨ 65535 < p.v then 4 else nErr p.ns := by
  have hz : p.s.size = 0 → p.s ≠ Bt.zeros := fun h e => by rw [e, zeros_size] at h; cases h
  unfold right sErr eErr nErr
  rw [from_all]
  generalize (if p.v < 0 ∨ 65535 < p.v then 4 else if 8 < p.ns.length then 1 else netsErr none p.ns) = X
  by_cases h1 : keyErr p.k = 0 <;> by_cases h2 : p.s.size = 0 <;> by_cases h3 : keyErr p.s = 0 <;> by_cases h4 : p.s = Bt.zeros <;> by_cases h5 : p.e.size = 0 <;> by_cases h6 : endErr p.e = 0 <;> simp_all
/-- A network of one of the peers. -/
def has (ps : List P) (ns : List (Nat × Int)) : Bool := ps.any fun p => ns.any fun n => decide (n ∈ p.ns)
theorem has_iff (ps : List P) (ns : List (Nat × Int)) : has ps ns = true ↔ ∃ p ∈ ps, ∃ n ∈ ns, n ∈ p.ns := by
  unfold has
  simp only [List.any_eq_true, decide_eq_true_eq]
theorem has_here {ps : List P} {ns : List (Nat × Int)} {i j : Nat} (hi : i < ps.length) (hj : j < ns.length) (h : ns[j] ∈ ps[i].ns) : has ps ns = true := (has_iff _ _).2 ⟨_, List.getElem_mem hi, _, List.getElem_mem hj, h⟩
theorem has_not {ps : List P} {ns : List (Nat × Int)} (h : ∀ i (_ : i < ps.length), ∀ n ∈ ns, n ∉ ps[i].ns) : has ps ns = false := by
  rw [Bool.eq_false_iff]
  intro he
  obtain ⟨p, hp, n, hn, hm⟩ := (has_iff _ _).1 he
  obtain ⟨i, hi, rfl⟩ := List.mem_iff_getElem.1 hp
  exact h i hi n hn hm
theorem pFrom_has {key : ByteArray} {ps : List P} {i : Nat} (h : i < ps.length) (hr : right ps[i] = 0) (ho : ¬ (lt (lastOf ps i) ps[i].k = false ∨ ps[i].k = key)) :
    pFrom key ps i = if has (ps.take i) ps[i].ns = true then 6 else pFrom key ps (i + 1) := by
  have hmet : ∀ n, n ∈ metOf ps i ↔ ∃ p ∈ ps.take i, n ∈ p.ns := fun n => by unfold metOf; exact List.mem_flatMap
  by_cases hh : has (ps.take i) ps[i].ns = true
  · rw [if_pos hh]
    obtain ⟨p, hp, n, hn, hm⟩ := (has_iff _ _).1 hh
    obtain ⟨j, hj, rfl⟩ := List.mem_iff_getElem.1 hn
    exact pFrom_met h hr j hj ((hmet _).2 ⟨p, hp, hm⟩)
  · rw [if_neg hh]
    exact pFrom_next h hr ho fun n hn hm => by
      obtain ⟨p, hp, hm⟩ := (hmet n).1 hm
      exact hh ((has_iff _ _).2 ⟨p, hp, n, hn, hm⟩)
/-- A key that is right comes after the empty text. -/
theorem first_less {k : ByteArray} (h : keyErr k = 0) : lt ⟨#[]⟩ k = true := by
  have hk : k.size = 64 := by
    unfold keyErr Hx.checkErr at h
    by_cases hs : k.data.toList.length = 64
    · simpa using hs
    · rw [if_pos hs] at h; cases h
  unfold lt
  rw [ByteArray.toList_eq, ByteArray.toList_eq]
  cases hl : k.data.toList with
  | nil =>
    have : k.data.toList.length = k.size := by simp
    rw [hl, hk] at this
    cases this
  | cons a r => rfl
theorem right_keyErr {p : P} (h : right p = 0) : keyErr p.k = 0 := by
  unfold right at h
  by_cases h1 : keyErr p.k = 0
  · exact h1
  · rw [if_pos h1] at h; exact h
theorem at_lt {l : List P} {key : ByteArray} : at_ l key < l.length ∨ at_ l key = l.length := by
  have : at_ l key ≤ l.length := by
    unfold at_
    exact (List.takeWhile_sublist _).length_le
  omega
end Go.Proofs.YtjdflnnpamjjcaaDoor.Cf
