/- The plain words of chapter 11: lines; nothing of the program is named here. -/
import Derived.Test.YtjdflnnpamjjcaaDoorAddrPlain2
namespace Go.Proofs.YtjdflnnpamjjcaaDoor
/-- A line: a key and a value. -/
structure Ln.L where
  k : ByteArray
  v : ByteArray
deriving DecidableEq
namespace Ln
instance : Inhabited L := ⟨⟨ByteArray.empty, ByteArray.empty⟩⟩

def inKey (c : UInt8) : Bool := decide (97 ≤ c.toNat ∧ c.toNat ≤ 122) || decide (c.toNat = 95)
def inVal (c : UInt8) : Bool := decide (33 ≤ c.toNat ∧ c.toNat ≤ 126)
def sized (x : L) : Bool := decide (0 < x.k.size) && decide (x.k.size ≤ 30) && decide (x.v.size ≤ 70)
def formed (x : L) : Bool := x.k.data.toList.all inKey && x.v.data.toList.all inVal
def err (x : L) : Nat := if sized x = false then 1 else if formed x = false then 3 else 0
/-- The pieces of a text between its line feeds. -/
def pieces (s : ByteArray) : List ByteArray := (Ad.parts 10 s.data.toList).map fun p => ⟨p.toArray⟩
/-- The byte at which a piece is parted. -/
def at_ (p : ByteArray) : Int := Lib.indexByte p.data.toList 61
def line (p : ByteArray) : L := ⟨p.extract 0 (at_ p).toNat, p.extract ((at_ p).toNat + 1) p.size⟩
def pErr (p : ByteArray) : Nat := if at_ p < 0 then 3 else err (line p)
/-- The first piece that is wrong: its number, and how. -/
def wrong : Nat → List ByteArray → Nat × Nat
  | _, [] => (0, 0)
  | i, p :: r => if pErr p = 0 then wrong (i + 1) r else (i + 1, pErr p)
def sBad (s : ByteArray) : Nat × Nat := if 3000 < s.size then (0, 1) else if s.size = 0 then (0, 0) else if 60 < (pieces s).length then (0, 1) else wrong 0 (pieces s)
def sOut (s : ByteArray) : List L := if (sBad s).2 = 0 ∧ s.size ≠ 0 then (pieces s).map line else []

theorem parts_length (c : UInt8) : ∀ l : List UInt8, (Ad.parts c l).length = l.count c + 1 := by
  intro l
  induction l with
  | nil => rfl
  | cons x r ih =>
    rw [Ad.parts]
    split
    · rename_i h; subst h; rw [List.length_cons, ih, List.count_cons_self]
    · rename_i h
      rw [List.count_cons_of_ne h, ← ih]
      cases hp : Ad.parts c r with
      | nil => exact absurd hp (Ad.parts_ne c r)
      | cons q ps => simp
theorem pieces_length (s : ByteArray) : (pieces s).length = s.data.toList.count 10 + 1 := by unfold pieces; rw [List.length_map, parts_length]
theorem pieces_of {s : ByteArray} {ps : List ByteArray} (h : ps.map (·.data.toList) = Ad.parts 10 s.data.toList) : ps = pieces s := by
  unfold pieces
  rw [← h, List.map_map]
  symm
  rw [List.map_congr_left (g := id)]
  · simp
  · intro x _
    rfl
theorem pieces_data (s : ByteArray) : (pieces s).map (·.data.toList) = Ad.parts 10 s.data.toList := by
  unfold pieces
  rw [List.map_map, List.map_congr_left (g := id)]
  · simp
  · intro x _
    rfl
theorem wrong_good : ∀ (l : List ByteArray) (i : Nat), (∀ p ∈ l, pErr p = 0) → wrong i l = (0, 0) := by
  intro l
  induction l with
  | nil => intro i _; rfl
  | cons p r ih =>
    intro i h
    rw [wrong, if_pos (h p (by simp))]
    exact ih _ fun q hq => h q (by simp [hq])
theorem wrong_at : ∀ (l : List ByteArray) (i k : Nat) (hk : k < l.length), (∀ p ∈ l.take k, pErr p = 0) → pErr l[k] ≠ 0 → wrong i l = (i + k + 1, pErr l[k]) := by
  intro l
  induction l with
  | nil => intro i k hk; simp at hk
  | cons p r ih =>
    intro i k hk h hn
    cases k with
    | zero => rw [wrong, if_neg (show ¬ pErr p = 0 from hn)]; rfl
    | succ k =>
      rw [wrong, if_pos (h p (by simp)), ih (i + 1) k (by simpa using hk) (fun q hq => h q (by simp [hq])) hn]
      simp only [List.getElem_cons_succ, Prod.mk.injEq, and_true]
      omega
theorem wrong_back : ∀ (l : List ByteArray) (i : Nat), (wrong i l).2 = 0 → (wrong i l).1 = 0 ∧ ∀ p ∈ l, pErr p = 0 := by
  intro l
  induction l with
  | nil => intro i _; exact ⟨rfl, fun p hp => by cases hp⟩
  | cons p r ih =>
    intro i h
    rw [wrong] at h ⊢
    by_cases hp : pErr p = 0
    · rw [if_pos hp] at h ⊢
      obtain ⟨h1, h2⟩ := ih (i + 1) h
      exact ⟨h1, fun q hq => by rcases List.mem_cons.1 hq with rfl | hq; exact hp; exact h2 q hq⟩
    · rw [if_neg hp] at h
      exact absurd h hp
theorem wrong_le : ∀ (l : List ByteArray) (i : Nat), (wrong i l).1 ≤ i + l.length := by
  intro l
  induction l with
  | nil => intro i; exact Nat.zero_le _
  | cons p r ih =>
    intro i
    rw [wrong]
    split
    · have := ih (i + 1); rw [List.length_cons]; omega
    · rw [List.length_cons]; show i + 1 ≤ _; omega

/-- The text of a line. -/
def lineT (x : L) : List UInt8 := x.k.data.toList ++ 61 :: x.v.data.toList
def jText (l : List L) : List UInt8 := Ad.glue 10 (l.map lineT)
/-- The first line that is wrong: how. -/
def fault : List L → Nat
  | [] => 0
  | x :: r => if err x = 0 then fault r else err x
def jErr (l : List L) : Nat := if 60 < l.length then 1 else if fault l ≠ 0 then fault l else if 3000 < (jText l).length then 1 else 0
def jOut (l : List L) : List UInt8 := if jErr l = 0 then jText l else []
theorem fault_good : ∀ l : List L, (∀ x ∈ l, err x = 0) → fault l = 0 := by
  intro l
  induction l with
  | nil => intro _; rfl
  | cons x r ih =>
    intro h
    rw [fault, if_pos (h x (by simp))]
    exact ih fun q hq => h q (by simp [hq])
theorem fault_at : ∀ (l : List L) (k : Nat) (hk : k < l.length), (∀ x ∈ l.take k, err x = 0) → err l[k] ≠ 0 → fault l = err l[k] := by
  intro l
  induction l with
  | nil => intro k hk; simp at hk
  | cons p r ih =>
    intro k hk h hn
    cases k with
    | zero => rw [fault, if_neg (show ¬ err p = 0 from hn)]; rfl
    | succ k =>
      rw [fault, if_pos (h p (by simp)), ih k (by simpa using hk) (fun q hq => h q (by simp [hq])) hn]
      rfl
theorem fault_back : ∀ (l : List L), fault l = 0 → ∀ x ∈ l, err x = 0 := by
  intro l
  induction l with
  | nil => intro _ x hx; cases hx
  | cons p r ih =>
    intro h
    rw [fault] at h
    by_cases hp : err p = 0
    · rw [if_pos hp] at h
      intro x hx
      rcases List.mem_cons.1 hx with rfl | hx
      · exact hp
      · exact ih h x hx
    · rw [if_neg hp] at h; exact absurd h hp
theorem err_zero {x : L} (h : err x = 0) : (0 < x.k.size ∧ x.k.size ≤ 30 ∧ x.v.size ≤ 70) ∧ x.k.data.toList.all inKey = true ∧ x.v.data.toList.all inVal = true := by
  unfold err at h
  split at h
  · cases h
  · rename_i h1
    split at h
    · cases h
    · rename_i h2
      have h1 : sized x = true := by simpa using h1
      have h2 : formed x = true := by simpa using h2
      unfold sized at h1
      unfold formed at h2
      simp only [Bool.and_eq_true, decide_eq_true_eq] at h1 h2
      exact ⟨⟨h1.1.1, h1.1.2, h1.2⟩, h2⟩
theorem err_size {x : L} (h : sized x = false) : err x = 1 := by unfold err; rw [if_pos h]
theorem err_form {x : L} (h : sized x = true) (hf : formed x = false) : err x = 3 := by unfold err; rw [if_neg (by rw [h]; decide), if_pos hf]
theorem err_ok {x : L} (h : sized x = true) (hf : formed x = true) : err x = 0 := by unfold err; rw [if_neg (by rw [h]; decide), if_neg (by rw [hf]; decide)]
theorem lineT_length (x : L) : (lineT x).length = x.k.size + 1 + x.v.size := by unfold lineT; simp; omega
theorem glue_cons (c : UInt8) (p q : List UInt8) (r : List (List UInt8)) : Ad.glue c (p :: q :: r) = p ++ c :: Ad.glue c (q :: r) := rfl
theorem glue_length (c : UInt8) (m : Nat) : ∀ (l : List (List UInt8)), (∀ p ∈ l, p.length ≤ m) → (Ad.glue c l).length ≤ l.length * (m + 1) := by
  intro l
  induction l with
  | nil => intro _; simp [Ad.glue]
  | cons p r ih =>
    intro h
    have h1 := h p (by simp)
    have h2 := ih fun q hq => h q (by simp [hq])
    rw [List.length_cons, Nat.succ_mul]
    cases r with
    | nil => show p.length ≤ _; omega
    | cons q r =>
      rw [glue_cons, List.length_append, List.length_cons]
      omega
theorem parts_glue (c : UInt8) : ∀ (l : List (List UInt8)), l ≠ [] → (∀ p ∈ l, c ∉ p) → Ad.parts c (Ad.glue c l) = l := by
  intro l
  induction l with
  | nil => intro h; exact absurd rfl h
  | cons p r ih =>
    intro _ h
    cases r with
    | nil => exact Ad.parts_plain c p (h p (by simp))
    | cons q r =>
      rw [glue_cons, Ad.parts_front c p _ (h p (by simp)), ih (by simp) fun x hx => h x (by simp [hx])]
end Ln
end Go.Proofs.YtjdflnnpamjjcaaDoor
