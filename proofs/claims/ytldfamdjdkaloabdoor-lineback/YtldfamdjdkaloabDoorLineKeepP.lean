/- The lines that the laws of chapter 11 build out of raw things. -/
import Derived.Test.YtldfamdjdkaloabDoorLinePlain2
import Derived.Test.YtldfamdjdkaloabDoorFrameRaws
import Derived.Test.YtldfamdjdkaloabDoorKeepPick
import Derived.Lib.Repeat
namespace Go.Proofs.YtldfamdjdkaloabDoor
namespace Ln
def keyT (n : Nat) : ByteArray := if n = 0 then ⟨#[97]⟩ else if n = 1 then ⟨#[98, 95, 99]⟩ else if n = 2 then ⟨#[107, 101, 121]⟩ else ⟨#[122, 122]⟩
def valT (n : Nat) : ByteArray := ⟨(Lib.repeatL [118, 61] n).toArray⟩
def rawL (r : RawD) : L := ⟨keyT (pick r.k 4), valT (pick r.a 30)⟩
def rawsL (l : List RawD) : List L := (l.take 20).map rawL
theorem keyT_good (n : Nat) : 0 < (keyT n).size ∧ (keyT n).size ≤ 3 ∧ (keyT n).data.toList.all inKey = true := by
  unfold keyT
  split
  · decide
  split
  · decide
  split
  · decide
  decide
theorem all_rep (n : Nat) : (Lib.repeatL [118, 61] n).all inVal = true := by
  induction n with
  | zero => rfl
  | succ n ih =>
    show ([118, 61] ++ Lib.repeatL [118, 61] n).all inVal = true
    rw [List.all_append, ih]
    decide
theorem valT_size (n : Nat) : (valT n).size = n * 2 := by
  have : (valT n).size = (Lib.repeatL [118, 61] n).length := by simp [valT, ByteArray.size]
  rw [this, Lib.repeatL_length]
  rfl
theorem rawL_good (r : RawD) : err (rawL r) = 0 ∧ (lineT (rawL r)).length ≤ 62 := by
  obtain ⟨h1, h2, h3⟩ := keyT_good (pick r.k 4)
  have h4 := valT_size (pick r.a 30)
  have h5 := pick_lt r.a 30 (by decide)
  have hs : sized (rawL r) = true := by
    unfold sized rawL
    simp only [Bool.and_eq_true, decide_eq_true_eq]
    omega
  have hf : formed (rawL r) = true := by
    unfold formed rawL
    rw [h3]
    exact all_rep _
  refine ⟨err_ok hs hf, ?_⟩
  rw [lineT_length]
  unfold rawL
  show (keyT _).size + 1 + (valT _).size ≤ 62
  omega
theorem rawsL_good (l : List RawD) : jErr (rawsL l) = 0 := by
  have hl : (rawsL l).length ≤ 20 := by unfold rawsL; rw [List.length_map, List.length_take]; omega
  have hf : fault (rawsL l) = 0 := fault_good _ fun x hx => by
    unfold rawsL at hx
    obtain ⟨r, _, rfl⟩ := List.mem_map.1 hx
    exact (rawL_good r).1
  have ht : (jText (rawsL l)).length ≤ 3000 := by
    have h1 := glue_length 10 62 ((rawsL l).map lineT) (by
      intro p hp
      obtain ⟨x, hx, rfl⟩ := List.mem_map.1 hp
      unfold rawsL at hx
      obtain ⟨r, _, rfl⟩ := List.mem_map.1 hx
      exact (rawL_good r).2)
    rw [List.length_map] at h1
    unfold jText
    omega
  unfold jErr
  rw [if_neg (by omega), if_neg (by rw [hf]; decide), if_neg (by omega)]
theorem rawsL_step (l : List RawD) (k : Nat) (hk : k < l.length) (h20 : k < 20) : rawsL (l.take (k + 1)) = rawsL (l.take k) ++ [rawL l[k]] := by
  unfold rawsL
  rw [List.take_take, List.take_take, Nat.min_eq_right (by omega), Nat.min_eq_right (by omega), List.take_succ_eq_append_getElem hk, List.map_append, List.map_singleton]
theorem rawsL_stop (l : List RawD) (k : Nat) (h20 : ¬ k < 20) : rawsL (l.take (k + 1)) = rawsL (l.take k) := by
  unfold rawsL
  rw [List.take_take, List.take_take, Nat.min_eq_left (by omega), Nat.min_eq_left (by omega)]
end Ln
end Go.Proofs.YtldfamdjdkaloabDoor
