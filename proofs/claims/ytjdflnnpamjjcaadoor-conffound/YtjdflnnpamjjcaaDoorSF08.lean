/- Every peer of the configuration of raw things is found at its index. -/
import Derived.Test.YtjdflnnpamjjcaaDoorSF07
import Derived.Test.YtjdflnnpamjjcaaDoorSF06
import Derived.Deep.SlicePairs
import Derived.Test.YtjdflnnpamjjcaaDoorConfPlain6
import Derived.Test.YtjdflnnpamjjcaaDoorSF04
import Derived.Test.YtjdflnnpamjjcaaDoorSF05
import Derived.Test.YtjdflnnpamjjcaaDoorConfArgs
import Derived.Test.YtjdflnnpamjjcaaDoorSF03
namespace Go.Proofs.YtjdflnnpamjjcaaDoor
open Go.ChangeShapes Go.WideShapes Go.ChangeAt Go.RowKit Go.Deep

/-- A raw thing: three numbers and a text. -/
structure RawD where
  k : Int
  a : Int
  b : Int
  s : ByteArray
instance : Inhabited RawD := ⟨⟨0, 0, 0, ByteArray.empty⟩⟩
def RawD.ok (r : RawD) : Prop := (-9223372036854775808 ≤ r.k ∧ r.k ≤ 9223372036854775807) ∧ (-9223372036854775808 ≤ r.a ∧ r.a ≤ 9223372036854775807) ∧ (-9223372036854775808 ≤ r.b ∧ r.b ≤ 9223372036854775807)
def RawD.cells (r : RawD) : List Value := [.int .i64 r.k, .int .i64 r.a, .int .i64 r.b, .string r.s]
/-- Raw things lie in memory, behind the slice (a, n). -/
def RawsAt (w : World) (B : Nat) (a : Option Addr) (n : Nat) (l : List RawD) : Prop :=
  l.length = n ∧ (0 < n → ∃ b off, a = some ⟨b, off, none⟩ ∧ b < B ∧ ∀ i (h : i < l.length), w.cell? ⟨b, off + i * 4, none⟩ = some (.int .i64 l[i].k) ∧ w.cell? ⟨b, off + i * 4 + 1, none⟩ = some (.int .i64 l[i].a) ∧ w.cell? ⟨b, off + i * 4 + 2, none⟩ = some (.int .i64 l[i].b) ∧ w.cell? ⟨b, off + i * 4 + 3, none⟩ = some (.string l[i].s))
theorem RawsAt.below {w w' : World} {B n : Nat} {a : Option Addr} {l : List RawD} (h : RawsAt w B a n l) (hb : Below B w w') : RawsAt w' B a n l :=
  ⟨h.1, fun hn => by
    obtain ⟨b, off, e, hlt, hc⟩ := h.2 hn
    exact ⟨b, off, e, hlt, fun i hi => by
      rw [hb.cell (p := ⟨b, off + i * 4, none⟩) hlt, hb.cell (p := ⟨b, off + i * 4 + 1, none⟩) hlt, hb.cell (p := ⟨b, off + i * 4 + 2, none⟩) hlt, hb.cell (p := ⟨b, off + i * 4 + 3, none⟩) hlt]
      exact hc i hi⟩⟩
theorem cells_raw : Tryd.prog.cellsOf 49 = 4 := by kernel_rfl
set_option maxRecDepth 100000 in
theorem open_raw4 {H : Type} {enc : TypeId × Value → H} {W : World} {n : Nat} {cs : List Value} {x : DataW H × List MemPlace} (hl : cs.length = 4)
    (h : DataW.trod enc Tryd.prog W 0 (fun _ => true) true n 49 cs = some x) : ∃ r : RawD, cs = r.cells ∧ r.ok := by
  obtain ⟨xs, m, _, _, _, hxl, hf⟩ := DataW.trod_struct Tryd.underlying49 h
  match xs, hxl, cs, hl with
  | [y0, y1, y2, y3], _, [v0, v1, v2, v3], _ =>
    have g0 := hf 0 _ rfl
    have g1 := hf 1 _ rfl
    have g2 := hf 2 _ rfl
    have g3 := hf 3 _ rfl
    change DataW.trod enc Tryd.prog W 0 (fun _ => true) true m 3 [v0] = some y0 at g0
    change DataW.trod enc Tryd.prog W 0 (fun _ => true) true m 3 [v1] = some y1 at g1
    change DataW.trod enc Tryd.prog W 0 (fun _ => true) true m 3 [v2] = some y2 at g2
    change DataW.trod enc Tryd.prog W 0 (fun _ => true) true m 9 [v3] = some y3 at g3
    obtain ⟨k, e0, _, w0⟩ := DataW.trod_int Tryd.underlying3 g0
    obtain ⟨a, e1, _, w1⟩ := DataW.trod_int Tryd.underlying3 g1
    obtain ⟨b, e2, _, w2⟩ := DataW.trod_int Tryd.underlying3 g2
    obtain ⟨s, e3, _, _⟩ := DataW.trod_string Tryd.underlying9 g3
    injection e0 with e0
    injection e1 with e1
    injection e2 with e2
    injection e3 with e3
    subst e0 e1 e2 e3
    exact ⟨⟨k, a, b, s⟩, rfl, bounds_i64 w0, bounds_i64 w1, bounds_i64 w2⟩
theorem open_raws {H : Type} {enc : TypeId × Value → H} {W : World} {a : Option Addr} {len cap : Nat} {d : DataW H} {p : List MemPlace}
    (h : DataW.Trod enc Tryd.prog W 0 (fun _ => true) true 28 (.slice a len cap) d p) :
    ∃ l : List RawD, RawsAt W W.heap.size a len l ∧ len ≤ cap ∧ cap ≤ maxLen ∧ ∀ r ∈ l, r.ok := by
  obtain ⟨fuel, hf⟩ := h
  rcases open_slice Tryd.underlying28 hf with ⟨hcs, hx⟩ | ⟨x, l, c, m, n, D, Pl, hcs, _, hl, hm, hmm, hx, hall⟩
  · simp [Value.cells] at hcs
    obtain ⟨rfl, rfl, rfl⟩ := hcs
    exact ⟨[], ⟨rfl, fun h => absurd h (by omega)⟩, Nat.le_refl _, Nat.zero_le _, fun _ h => (by cases h)⟩
  · simp [Value.cells] at hcs
    obtain ⟨rfl, rfl, rfl⟩ := hcs
    rw [if_pos rfl] at hmm
    subst hmm
    rw [cells_raw] at hall
    have each : ∀ i, i < m → ∃ r : RawD, (∀ j, j < 4 → W.cell? (x.add (i * 4 + j)) = r.cells[j]?) ∧ r.ok := by
      intro i hi
      obtain ⟨cs', h1, h2⟩ := hall i hi
      obtain ⟨_, hlen, hcell⟩ := World.cells?_some h1
      obtain ⟨r, rfl, hn⟩ := open_raw4 hlen h2
      exact ⟨r, fun j hj => by rw [← add_add]; exact hcell j hj, hn⟩
    obtain ⟨q, hq⟩ := choose_lt each
    refine ⟨(List.range len).map q, ⟨by simp, fun hpos => ?_⟩, hl, hm, ?_⟩
    · obtain ⟨b, off, spot⟩ := x
      have h0 := (hq 0 (by omega)).1 0 (by omega)
      have hspot : spot = none := by simpa [Addr.add] using World.cell?_spot h0
      subst hspot
      have hc : ∀ i (_ : i < len) j (_ : j < 4), W.cell? ⟨b, off + i * 4 + j, none⟩ = (q i).cells[j]? := by
        intro i hi j hj
        rw [← (hq i (by omega)).1 j hj, Addr.add_lit, Nat.add_assoc]
      refine ⟨b, off, rfl, lt_of_cell (a := ⟨b, off + 0 * 4 + 0, none⟩) (hc 0 hpos 0 (by omega)), fun i hi => ?_⟩
      have hi' : i < len := by simpa using hi
      rw [List.getElem_map, List.getElem_range]
      exact ⟨hc i hi' 0 (by omega), hc i hi' 1 (by omega), hc i hi' 2 (by omega), hc i hi' 3 (by omega)⟩
    · intro r hr
      obtain ⟨i, hi, rfl⟩ := List.mem_map.1 hr
      exact (hq i (by have := List.mem_range.1 hi; omega)).2
end Go.Proofs.YtjdflnnpamjjcaaDoor

namespace Go.Proofs.YtjdflnnpamjjcaaDoor

namespace Cf
/-- The endpoints that are used. -/
def ends : List ByteArray := [⟨#[]⟩, ⟨#[49, 46, 50, 46, 51, 46, 52, 58, 53]⟩, ⟨#[49, 48, 46, 48, 46, 48, 46, 49, 58, 49, 48, 48, 48]⟩, ⟨#[49, 48, 46, 48, 46, 48, 46, 50, 58, 50, 48, 48, 48]⟩, ⟨#[50, 53, 53, 46, 48, 46, 48, 46, 49, 58, 54, 53, 53, 51, 53]⟩]
/-- The k-th network of a raw thing. -/
def rawNet (r : RawD) (k : Nat) : Nat × Int := (Nt.rawA r.k (IntKind.i64.wrap (r.a + 5 * (k : Int))) (IntKind.i64.wrap (r.b + (k : Int))), (Nt.rawB r.k (IntKind.i64.wrap (r.a + 5 * (k : Int))) (IntKind.i64.wrap (r.b + (k : Int))) : Int))
/-- Of the first k networks of a raw thing, those that are new. -/
def newNs (met : List (Nat × Int)) (r : RawD) : Nat → List (Nat × Int)
  | 0 => []
  | k + 1 => if rawNet r k ∈ met ++ newNs met r k then newNs met r k else newNs met r k ++ [rawNet r k]
def rawPeer (i : Nat) (r : RawD) (ns : List (Nat × Int)) : P := ⟨keyOf i, if pick r.k 3 = 0 then keyOf 7 else ⟨#[]⟩, ends.getD (pick r.a 5) ⟨#[]⟩, (pick r.b 100 : Int), Nt.sortN ns⟩
/-- The networks met and the peers, after i raw things. -/
def rawSt (l : List RawD) : Nat → List (Nat × Int) × List P
  | 0 => ([], [])
  | i + 1 => if i = 0 then ([], []) else
    if 0 < pick (l.getD i default).k 5 then ((rawSt l i).1 ++ newNs (rawSt l i).1 (l.getD i default) (pick (l.getD i default).k 4), (rawSt l i).2 ++ [rawPeer i (l.getD i default) (newNs (rawSt l i).1 (l.getD i default) (pick (l.getD i default).k 4))])
    else rawSt l i
def rawPort (l : List RawD) : Nat := if l.length = 0 then 0 else pick (l.getD 0 default).a 65536
/-- The configuration of raw things. -/
def rawC (l : List RawD) : C := ⟨keyOf 0, (rawPort l : Int), (rawSt l (min l.length 7)).2⟩

theorem rawNet_good (r : RawD) (k : Nat) : Tr.good (rawNet r k) ∧ NetBounds (rawNet r k) := by
  obtain ⟨h1, h2, h3⟩ := raw_good r.k (IntKind.i64.wrap (r.a + 5 * (k : Int))) (IntKind.i64.wrap (r.b + (k : Int)))
  refine ⟨⟨h1, h3⟩, h1, ?_, ?_⟩
  · show (-9223372036854775808 : Int) ≤ ((Nt.rawB _ _ _ : Nat) : Int); omega
  · show ((Nt.rawB _ _ _ : Nat) : Int) ≤ 9223372036854775807; omega
theorem newNs_ok (met : List (Nat × Int)) (r : RawD) : ∀ k, (newNs met r k).length ≤ k ∧ (newNs met r k).Nodup ∧ (∀ n ∈ newNs met r k, n ∉ met) ∧ (∀ n ∈ newNs met r k, Tr.good n ∧ NetBounds n)
  | 0 => ⟨Nat.le_refl _, List.nodup_nil, (fun n h => by cases h), (fun n h => by cases h)⟩
  | k + 1 => by
    obtain ⟨h1, h2, h3, h4⟩ := newNs_ok met r k
    unfold newNs
    by_cases hm : rawNet r k ∈ met ++ newNs met r k
    · rw [if_pos hm]
      exact ⟨by omega, h2, h3, h4⟩
    · rw [if_neg hm]
      refine ⟨by rw [List.length_append, List.length_singleton]; omega, ?_, ?_, ?_⟩
      · rw [List.nodup_append]
        refine ⟨h2, by simp, fun a ha b hb e => ?_⟩
        obtain rfl : b = rawNet r k := by simpa using hb
        exact hm (List.mem_append_right _ (e ▸ ha))
      · intro n hn
        rcases List.mem_append.1 hn with hn | hn
        · exact h3 n hn
        · obtain rfl : n = rawNet r k := by simpa using hn
          exact fun h => hm (List.mem_append_left _ h)
      · intro n hn
        rcases List.mem_append.1 hn with hn | hn
        · exact h4 n hn
        · obtain rfl : n = rawNet r k := by simpa using hn
          exact rawNet_good r k
theorem ends_ok : ∀ j, j < 5 → ((ends.getD j ⟨#[]⟩).size = 0 ∨ endErr (ends.getD j ⟨#[]⟩) = 0) ∧ (ends.getD j ⟨#[]⟩).size ≤ 16 := by
  intro j hj
  have : j = 0 ∨ j = 1 ∨ j = 2 ∨ j = 3 ∨ j = 4 := by omega
  rcases this with rfl | rfl | rfl | rfl | rfl
  · exact ⟨.inl rfl, by decide⟩
  · exact ⟨.inr (by decide +kernel), by decide⟩
  · exact ⟨.inr (by decide +kernel), by decide⟩
  · exact ⟨.inr (by decide +kernel), by decide⟩
  · exact ⟨.inr (by decide +kernel), by decide⟩
theorem key7 : keyErr (keyOf 7) = 0 ∧ keyOf 7 ≠ Bt.zeros := by
  refine ⟨(keyOf_good 7 (by decide)).2, ?_⟩
  rw [Bt.zeros_lit]
  decide +kernel
theorem keys_lt : ∀ i j, i < 8 → j < 8 → i < j → lt (keyOf i) (keyOf j) = true := by
  intro i j hi hj h
  have h1 : i = 0 ∨ i = 1 ∨ i = 2 ∨ i = 3 ∨ i = 4 ∨ i = 5 ∨ i = 6 := by omega
  have h2 : j = 1 ∨ j = 2 ∨ j = 3 ∨ j = 4 ∨ j = 5 ∨ j = 6 ∨ j = 7 := by omega
  rcases h1 with rfl | rfl | rfl | rfl | rfl | rfl | rfl <;> rcases h2 with rfl | rfl | rfl | rfl | rfl | rfl | rfl <;> first | omega | (unfold lt; rw [ByteArray.toList_eq, ByteArray.toList_eq]; decide +kernel)
theorem keys_ne {i j : Nat} (hi : i < 8) (hj : j < 8) (h : i < j) : keyOf j ≠ keyOf i := fun e => by
  have := keys_lt i j hi hj h
  rw [e] at this
  unfold lt at this
  rw [less_irrefl] at this
  cases this
theorem rawPeer_right (i : Nat) (hi : i < 8) (r : RawD) (ns : List (Nat × Int)) (hl : ns.length ≤ 8) (hd : ns.Nodup) (hg : ∀ n ∈ ns, Tr.good n) : right (rawPeer i r ns) = 0 := by
  have hk : keyErr (keyOf i) = 0 := (keyOf_good i hi).2
  have hns : netsErr none (Nt.sortN ns) = 0 := netsErr_ok _ none (fun n hn => (hg n ((Nt.sort_perm ns).mem_iff.1 hn)).2) (Nt.sort_up ns) ((Nt.sort_perm ns).nodup_iff.2 hd) (fun q hq => by cases hq)
  have hl2 : (Nt.sortN ns).length ≤ 8 := by rw [Nt.sort_length]; exact hl
  have he := (ends_ok (pick r.a 5) (pick_lt _ 5 (by decide))).1
  have hb := pick_lt r.b 100 (by decide)
  have hs : sErr (if pick r.k 3 = 0 then keyOf 7 else (⟨#[]⟩ : ByteArray)) = 0 := by
    by_cases h : pick r.k 3 = 0
    · rw [if_pos h]
      unfold sErr
      rw [if_neg (by rw [(keyOf_good 7 (by decide)).1]; decide), if_neg (fun hn => hn key7.1), if_neg key7.2]
    · rw [if_neg h]; rfl
  have hee : eErr (ends.getD (pick r.a 5) ⟨#[]⟩) = 0 := by
    unfold eErr
    by_cases h : (ends.getD (pick r.a 5) ⟨#[]⟩).size = 0
    · rw [if_pos h]
    · rw [if_neg h]; exact he.resolve_left h
  rw [right_code]
  unfold rawPeer
  simp only
  rw [if_neg (fun hn => hn hk), if_neg (fun hn => hn hs), if_neg (fun hn => hn hee), if_neg (by omega)]
  unfold nErr
  rw [if_neg (by omega), from_all]
  exact hns
/-- What the peers so far are like. -/
structure RawOk (i : Nat) (st : List (Nat × Int) × List P) : Prop where
  many : st.2.length ≤ i
  right : ∀ p ∈ st.2, right p = 0
  keys : ∀ p ∈ st.2, ∃ j, 1 ≤ j ∧ j < i ∧ p.k = keyOf j
  met : ∀ p ∈ st.2, ∀ n ∈ p.ns, n ∈ st.1
  up : st.2.Pairwise fun p q => lt p.k q.k = true ∧ ∀ n ∈ q.ns, n ∉ p.ns
  small : ∀ p ∈ st.2, PeerSmall p ∧ PeerBounds p ∧ p.ns.length ≤ 3
  good : ∀ n ∈ st.1, Tr.good n ∧ NetBounds n
  met3 : st.1.length ≤ 3 * i
theorem rawSt_ok (l : List RawD) : ∀ i, i ≤ 7 → RawOk i (rawSt l i)
  | 0, _ => ⟨Nat.le_refl _, (fun p h => by cases h), (fun p h => by cases h), (fun p h => by cases h), List.Pairwise.nil, (fun p h => by cases h), (fun n h => by cases h), Nat.le_refl _⟩
  | i + 1, hi => by
    have ih := rawSt_ok l i (by omega)
    unfold rawSt
    by_cases h0 : i = 0
    · rw [if_pos h0]
      exact ⟨Nat.zero_le _, (fun p h => by cases h), (fun p h => by cases h), (fun p h => by cases h), List.Pairwise.nil, (fun p h => by cases h), (fun n h => by cases h), Nat.zero_le _⟩
    rw [if_neg h0]
    generalize l.getD i default = r
    generalize rawSt l i = st at ih ⊢
    by_cases h5 : 0 < pick r.k 5
    · rw [if_pos h5]
      obtain ⟨n1, n2, n3, n4⟩ := newNs_ok st.1 r (pick r.k 4)
      have h4 := pick_lt r.k 4 (by decide)
      generalize newNs st.1 r (pick r.k 4) = ns at *
      have hmem : ∀ n ∈ (rawPeer i r ns).ns, n ∈ ns := fun n hn => (Nt.sort_perm ns).mem_iff.1 hn
      have hkey : (rawPeer i r ns).k = keyOf i := rfl
      refine ⟨by rw [List.length_append, List.length_singleton]; have := ih.many; omega, ?_, ?_, ?_, ?_, ?_, ?_, ?_⟩
      · intro p hp
        rcases List.mem_append.1 hp with hp | hp
        · exact ih.right p hp
        · obtain rfl : p = rawPeer i r ns := by simpa using hp
          exact rawPeer_right i (by omega) r ns (by omega) n2 (fun n hn => (n4 n hn).1)
      · intro p hp
        rcases List.mem_append.1 hp with hp | hp
        · obtain ⟨j, h1, h2, h3⟩ := ih.keys p hp
          exact ⟨j, h1, by omega, h3⟩
        · obtain rfl : p = rawPeer i r ns := by simpa using hp
          exact ⟨i, by omega, by omega, rfl⟩
      · intro p hp n hn
        rcases List.mem_append.1 hp with hp | hp
        · exact List.mem_append_left _ (ih.met p hp n hn)
        · obtain rfl : p = rawPeer i r ns := by simpa using hp
          exact List.mem_append_right _ (hmem n hn)
      · refine List.pairwise_append.2 ⟨ih.up, List.pairwise_singleton _ _, fun p hp q hq => ?_⟩
        obtain rfl : q = rawPeer i r ns := by simpa using hq
        obtain ⟨j, h1, h2, h3⟩ := ih.keys p hp
        refine ⟨by rw [h3, hkey]; exact keys_lt j i (by omega) (by omega) h2, fun n hn hp2 => ?_⟩
        exact n3 n (hmem n hn) (ih.met p hp n hp2)
      · intro p hp
        rcases List.mem_append.1 hp with hp | hp
        · exact ih.small p hp
        · obtain rfl : p = rawPeer i r ns := by simpa using hp
          have hs64 := (keyOf_good i (by omega)).1
          have hs7 := (keyOf_good 7 (by decide)).1
          have he := (ends_ok (pick r.a 5) (pick_lt _ 5 (by decide))).2
          have hb := pick_lt r.b 100 (by decide)
          have hlen : (rawPeer i r ns).ns.length = ns.length := Nt.sort_length ns
          refine ⟨⟨by rw [hkey]; omega, ?_, ?_⟩, ⟨fun n hn => (n4 n (hmem n hn)).2, ?_, ?_, by rw [hlen]; unfold maxLen; omega⟩, by rw [hlen]; omega⟩
          · show (if pick r.k 3 = 0 then keyOf 7 else (⟨#[]⟩ : ByteArray)).size ≤ _
            split
            · omega
            · exact Nat.zero_le _
          · show (ends.getD (pick r.a 5) ⟨#[]⟩).size ≤ _
            omega
          · show (-9223372036854775808 : Int) ≤ ((pick r.b 100 : Nat) : Int); omega
          · show ((pick r.b 100 : Nat) : Int) ≤ 9223372036854775807; omega
      · intro n hn
        rcases List.mem_append.1 hn with hn | hn
        · exact ih.good n hn
        · exact n4 n hn
      · rw [List.length_append]; have := ih.met3; omega
    · rw [if_neg h5]
      exact ⟨by have := ih.many; omega, ih.right, (fun p hp => by obtain ⟨j, h1, h2, h3⟩ := ih.keys p hp; exact ⟨j, h1, by omega, h3⟩), ih.met, ih.up, ih.small, ih.good, by have := ih.met3; omega⟩
/-- The configuration of raw things is right. -/
theorem rawC_ok (l : List RawD) : err (rawC l) = 0 := by
  have ho := rawSt_ok l (min l.length 7) (Nat.min_le_right _ _)
  have hk := (keyOf_good 0 (by decide)).2
  have hp : rawPort l < 65536 := by
    unfold rawPort
    split
    · decide
    · exact pick_lt _ 65536 (by decide)
  have h6 : (rawSt l (min l.length 7)).2.length ≤ 6 := by
    have : ∀ i, 1 ≤ i → i ≤ 7 → (rawSt l i).2.length ≤ i - 1 := by
      intro i
      induction i with
      | zero => intro h; omega
      | succ i ih =>
        intro _ hi
        unfold rawSt
        by_cases h0 : i = 0
        · rw [if_pos h0]; exact Nat.zero_le _
        · rw [if_neg h0]
          have := ih (by omega) (by omega)
          split
          · rw [List.length_append, List.length_singleton]; omega
          · omega
    by_cases hl : l.length = 0
    · rw [hl]; exact Nat.zero_le _
    · have := this (min l.length 7) (by omega) (Nat.min_le_right _ _)
      omega
  unfold err rawC
  simp only
  rw [if_neg (fun h => h.2 hk), if_neg (by omega), if_neg (by omega)]
  refine peersErr_ok _ _ _ _ ho.right (fun p hp' => ?_) (fun p hp' => first_less (right_keyErr (ho.right p hp'))) ho.up (fun p _ n _ h => by cases h)
  obtain ⟨j, h1, h2, h3⟩ := ho.keys p hp'
  rw [h3]
  exact keys_ne (by decide) (by omega) (by omega)
end Cf
end Go.Proofs.YtjdflnnpamjjcaaDoor

namespace Go.Proofs.YtjdflnnpamjjcaaDoor

namespace Cf
theorem raw_keys (l : List RawD) {i j : Nat} (hi : i < (rawC l).ps.length) (hj : j < (rawC l).ps.length) (h : j < i) : (rawC l).ps[j].k ≠ (rawC l).ps[i].k := fun e => by
  have ho := (rawSt_ok l (min l.length 7) (Nat.min_le_right _ _)).up
  have := (List.pairwise_iff_getElem.1 ho j i hj hi h).1
  have e' : ((rawSt l (min l.length 7)).2[j]'hj).k = ((rawSt l (min l.length 7)).2[i]'hi).k := e
  rw [e'] at this
  unfold lt at this
  rw [less_irrefl] at this
  cases this
theorem raw_found (l : List RawD) {i : Nat} (hi : i < (rawC l).ps.length) : found (rawC l).ps (rawC l).ps[i].k = i ∧ foundErr (rawC l).ps (rawC l).ps[i].k = 0 := by
  have := at_here (l := (rawC l).ps) (key := (rawC l).ps[i].k) (k := i) hi (fun j hj h => raw_keys l hi hj h) rfl
  unfold found foundErr
  rw [this, if_pos hi, if_pos hi]
  exact ⟨rfl, rfl⟩
theorem raw_none (l : List RawD) (key : ByteArray) (hk : key.size ≠ 64) : foundErr (rawC l).ps key = 5 := by
  have ho := (rawSt_ok l (min l.length 7) (Nat.min_le_right _ _)).keys
  have := at_none (l := (rawC l).ps) (key := key) (fun j hj e => by
    obtain ⟨i, h1, h2, h3⟩ := ho ((rawC l).ps[j]) (List.getElem_mem hj)
    have hs := (keyOf_good i (by omega)).1
    rw [← h3, e] at hs
    exact hk hs)
  unfold foundErr
  rw [this, if_neg (by omega)]
/-- A key of one letter is too short. -/
theorem right_x : right ⟨⟨#[120]⟩, ⟨#[]⟩, ⟨#[]⟩, 0, []⟩ = 1 := by decide +kernel
theorem raw_small (l : List RawD) : (rawC l).k.size ≤ 1048576 ∧ (rawC l).ps.length ≤ 7 ∧ (∀ p ∈ (rawC l).ps, PeerSmall p) ∧ ∀ p ∈ (rawC l).ps, PeerBounds p := by
  have ho := rawSt_ok l (min l.length 7) (Nat.min_le_right _ _)
  have hk := (keyOf_good 0 (by decide)).1
  refine ⟨?_, Nat.le_trans ho.many (Nat.min_le_right _ _), fun p hp => (ho.small p hp).1, fun p hp => (ho.small p hp).2.1⟩
  show (keyOf 0).size ≤ _
  omega
end Cf
end Go.Proofs.YtjdflnnpamjjcaaDoor
