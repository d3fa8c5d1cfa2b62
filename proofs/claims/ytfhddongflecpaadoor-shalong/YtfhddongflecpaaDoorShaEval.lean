/- Chapter 2's words over plain numbers, so that the kernel can reckon a digest; and the digests of no bytes and of the letters a, b, c. -/
import Derived.Test.YtfhddongflecpaaDoorShaWords
namespace Go.Proofs.YtfhddongflecpaaDoor.Sh

/-- x is reckoned before f goes on. -/
def force {α : Type} (x : Nat) (f : Nat → α) : α :=
  match x with
  | 0 => f 0
  | m + 1 => f (m + 1)
theorem force_eq {α : Type} (x : Nat) (f : Nat → α) : force x f = f x := by cases x <;> rfl
def nrot (x n : Nat) : Nat := (x <<< (32 - n)) % 4294967296 ||| (x >>> n)
def ns0 (x : Nat) : Nat := nrot x 7 ^^^ nrot x 18 ^^^ (x >>> 3)
def ns1 (x : Nat) : Nat := nrot x 17 ^^^ nrot x 19 ^^^ (x >>> 10)
def ne0 (x : Nat) : Nat := nrot x 2 ^^^ nrot x 13 ^^^ nrot x 22
def ne1 (x : Nat) : Nat := nrot x 6 ^^^ nrot x 11 ^^^ nrot x 25
def nch (e f g : Nat) : Nat := (e &&& f) ^^^ ((4294967295 - e) &&& g)
def nmaj (a b c : Nat) : Nat := (a &&& b) ^^^ (a &&& c) ^^^ (b &&& c)
def nadd (a b : Nat) : Nat := (a + b) % 4294967296
/-- The schedule, last word first. -/
def next (r : List Nat) : Nat → List Nat
  | 0 => r
  | n + 1 => force (nadd (nadd (nadd (r.getD 15 0) (r.getD 6 0)) (ns0 (r.getD 14 0))) (ns1 (r.getD 1 0))) fun x => next (x :: r) n
def nrun : List Nat → List Nat → Nat → Nat → Nat → Nat → Nat → Nat → Nat → Nat → List Nat
  | k :: ks, w :: ws, a, b, c, d, e, f, g, h =>
    force (nadd (nadd (nadd h (ne1 e)) (nch e f g)) (nadd k w)) fun t1 => force (nadd t1 (nadd (ne0 a) (nmaj a b c))) fun x => force (nadd d t1) fun y => nrun ks ws x a b c y e f g
  | _, _, a, b, c, d, e, f, g, h => [a, b, c, d, e, f, g, h]
def N (l : List (BitVec 32)) : List Nat := l.map (·.toNat)

theorem nrot_eq (x : BitVec 32) (n : Nat) : (rotr x n).toNat = nrot x.toNat n := by
  simp only [rotr, nrot, BitVec.toNat_or, BitVec.toNat_shiftLeft, BitVec.toNat_ushiftRight]
theorem ns0_eq (x : BitVec 32) : (s0 x).toNat = ns0 x.toNat := by simp only [s0, ns0, BitVec.toNat_xor, nrot_eq, BitVec.toNat_ushiftRight]
theorem ns1_eq (x : BitVec 32) : (s1 x).toNat = ns1 x.toNat := by simp only [s1, ns1, BitVec.toNat_xor, nrot_eq, BitVec.toNat_ushiftRight]
theorem ne0_eq (x : BitVec 32) : (e0 x).toNat = ne0 x.toNat := by simp only [e0, ne0, BitVec.toNat_xor, nrot_eq]
theorem ne1_eq (x : BitVec 32) : (e1 x).toNat = ne1 x.toNat := by simp only [e1, ne1, BitVec.toNat_xor, nrot_eq]
theorem nch_eq (e f g : BitVec 32) : (ch e f g).toNat = nch e.toNat f.toNat g.toNat := by simp only [ch, nch, BitVec.toNat_xor, BitVec.toNat_and, BitVec.toNat_not]
theorem nmaj_eq (a b c : BitVec 32) : (maj a b c).toNat = nmaj a.toNat b.toNat c.toNat := by simp only [maj, nmaj, BitVec.toNat_xor, BitVec.toNat_and]
theorem nadd_eq (a b : BitVec 32) : (a + b).toNat = nadd a.toNat b.toNat := by simp only [nadd, BitVec.toNat_add]
theorem N_get (l : List (BitVec 32)) (i : Nat) : (N l).getD i 0 = (l.getD i 0).toNat := by
  unfold N
  rw [List.getD_eq_getElem?_getD, List.getD_eq_getElem?_getD, List.getElem?_map]
  cases l[i]? <;> rfl
theorem rev_get (l : List (BitVec 32)) (i : Nat) (h : i < l.length) : l.reverse.getD i 0 = l.getD (l.length - 1 - i) 0 := by
  rw [List.getD_eq_getElem?_getD, List.getD_eq_getElem?_getD, List.getElem?_reverse h]
theorem next_one (w : List (BitVec 32)) (h : 16 ≤ w.length) : (nextW w).toNat = nadd (nadd (nadd ((N w.reverse).getD 15 0) ((N w.reverse).getD 6 0)) (ns0 ((N w.reverse).getD 14 0))) (ns1 ((N w.reverse).getD 1 0)) := by
  simp only [N_get, rev_get _ _ (show 15 < w.length by omega), rev_get _ _ (show 6 < w.length by omega), rev_get _ _ (show 14 < w.length by omega), rev_get _ _ (show 1 < w.length by omega)]
  unfold nextW
  rw [nadd_eq, nadd_eq, nadd_eq, ns0_eq, ns1_eq, show w.length - 1 - 15 = w.length - 16 by omega, show w.length - 1 - 6 = w.length - 7 by omega, show w.length - 1 - 14 = w.length - 15 by omega, show w.length - 1 - 1 = w.length - 2 by omega]
theorem ext_front (w : List (BitVec 32)) : ∀ n, ext w (n + 1) = ext (w ++ [nextW w]) n
  | 0 => rfl
  | n + 1 => by
    have ih := ext_front w n
    show ext w (n + 1) ++ [nextW (ext w (n + 1))] = ext (w ++ [nextW w]) n ++ [nextW (ext (w ++ [nextW w]) n)]
    rw [ih]
theorem next_succ (r : List Nat) (n : Nat) : next r (n + 1) = next (nadd (nadd (nadd (r.getD 15 0) (r.getD 6 0)) (ns0 (r.getD 14 0))) (ns1 (r.getD 1 0)) :: r) n := by
  show force _ _ = _
  rw [force_eq]
theorem next_eq : ∀ (n : Nat) (w : List (BitVec 32)), 16 ≤ w.length → next (N w.reverse) n = N (ext w n).reverse
  | 0, w, _ => rfl
  | n + 1, w, h => by
    rw [ext_front, ← next_eq n (w ++ [nextW w]) (by simp; omega)]
    rw [next_succ, ← next_one w h]
    simp [N]
theorem runTo_front (k w : BitVec 32) (ks ws : List (BitVec 32)) : ∀ (t : Nat) (s : List (BitVec 32)), runTo s (k :: ks) (w :: ws) (t + 1) = runTo (rnd s (k + w)) ks ws t
  | 0, s => rfl
  | t + 1, s => by
    have ih := runTo_front k w ks ws t s
    show rnd (runTo s (k :: ks) (w :: ws) (t + 1)) ((k :: ks).getD (t + 1) 0 + (w :: ws).getD (t + 1) 0) = rnd (runTo (rnd s (k + w)) ks ws t) (ks.getD t 0 + ws.getD t 0)
    rw [ih]
    rfl
theorem nrun_eq : ∀ (ks ws : List (BitVec 32)) (a b c d e f g h : BitVec 32), ks.length = ws.length →
    nrun (N ks) (N ws) a.toNat b.toNat c.toNat d.toNat e.toNat f.toNat g.toNat h.toNat = N (runTo [a, b, c, d, e, f, g, h] ks ws ks.length)
  | [], [], a, b, c, d, e, f, g, h, _ => rfl
  | k :: ks, w :: ws, a, b, c, d, e, f, g, h, hl => by
    have ih := nrun_eq ks ws ((h + e1 e + ch e f g + (k + w)) + (e0 a + maj a b c)) a b c (d + (h + e1 e + ch e f g + (k + w))) e f g (by simpa using hl)
    rw [List.length_cons, runTo_front]
    show nrun (k.toNat :: N ks) (w.toNat :: N ws) _ _ _ _ _ _ _ _ = N (runTo [_, a, b, c, _, e, f, g] ks ws ks.length)
    rw [← ih]
    simp only [nrun, force_eq, nadd_eq, ne1_eq, nch_eq, ne0_eq, nmaj_eq]
/-- A block, over numbers. -/
def ncompress (a b c d e f g h : Nat) (blk : List Nat) : List Nat :=
  List.zipWith nadd (nrun (N K0) (next blk.reverse 48).reverse a b c d e f g h) [a, b, c, d, e, f, g, h]
theorem zip_add : ∀ (x y : List (BitVec 32)), N (List.zipWith (· + ·) x y) = List.zipWith nadd (N x) (N y)
  | [], _ => by simp [N]
  | _ :: _, [] => by simp [N]
  | a :: x, b :: y => by
    have := zip_add x y
    simp only [N, List.zipWith_cons_cons, List.map_cons, nadd_eq] at this ⊢
    rw [this]
theorem ncompress_eq (a b c d e f g h : BitVec 32) (blk : List (BitVec 32)) (hb : blk.length = 16) :
    N (compress [a, b, c, d, e, f, g, h] blk) = ncompress a.toNat b.toNat c.toNat d.toNat e.toNat f.toNat g.toNat h.toNat (N blk) := by
  unfold compress ncompress
  rw [zip_add, show (N blk).reverse = N blk.reverse by simp [N], next_eq 48 blk (by omega), show (N (ext blk 48).reverse).reverse = N (ext blk 48) by simp [N], nrun_eq K0 (ext blk 48) a b c d e f g h (by rw [ext_length, hb]; rfl)]
  rfl
theorem N_inj : ∀ {x y : List (BitVec 32)}, N x = N y → x = y
  | [], [], _ => rfl
  | [], _ :: _, h => by simp [N] at h
  | _ :: _, [], h => by simp [N] at h
  | a :: x, b :: y, h => by
    simp only [N, List.map_cons, List.cons.injEq] at h
    rw [BitVec.eq_of_toNat_eq h.1, N_inj h.2]
theorem sum_nil : sum [] = [227, 176, 196, 66, 152, 252, 28, 20, 154, 251, 244, 200, 153, 111, 185, 36, 39, 174, 65, 228, 100, 155, 147, 76, 164, 149, 153, 27, 120, 82, 184, 85] := by
  have e : absorb H0 (pad []) 1 = [3820012610, 2566659092, 2600203464, 2574235940, 665731556, 1687917388, 2761267483, 2018687061] := by
    show compress H0 (wordsOf (((pad []).drop (64 * 0)).take 64)) = _
    apply N_inj
    rw [show wordsOf (((pad []).drop (64 * 0)).take 64) = [2147483648, 0, 0, 0, 0, 0, 0, 0, 0, 0, 0, 0, 0, 0, 0, 0] by decide +kernel]
    rw [show H0 = [1779033703, 3144134277, 1013904242, 2773480762, 1359893119, 2600822924, 528734635, 1541459225] from rfl, ncompress_eq _ _ _ _ _ _ _ _ _ rfl]
    decide +kernel
  unfold sum
  rw [show (pad []).length / 64 = 1 by decide +kernel, e]
  decide +kernel
theorem sum_abc : sum [97, 98, 99] = [186, 120, 22, 191, 143, 1, 207, 234, 65, 65, 64, 222, 93, 174, 34, 35, 176, 3, 97, 163, 150, 23, 122, 156, 180, 16, 255, 97, 242, 0, 21, 173] := by
  have e : absorb H0 (pad [97, 98, 99]) 1 = [3128432319, 2399260650, 1094795486, 1571693091, 2953011619, 2518121116, 3021012833, 4060091821] := by
    show compress H0 (wordsOf (((pad [97, 98, 99]).drop (64 * 0)).take 64)) = _
    apply N_inj
    rw [show wordsOf (((pad [97, 98, 99]).drop (64 * 0)).take 64) = [1633837952, 0, 0, 0, 0, 0, 0, 0, 0, 0, 0, 0, 0, 0, 0, 24] by decide +kernel]
    rw [show H0 = [1779033703, 3144134277, 1013904242, 2773480762, 1359893119, 2600822924, 528734635, 1541459225] from rfl, ncompress_eq _ _ _ _ _ _ _ _ _ rfl]
    decide +kernel
  unfold sum
  rw [show (pad [97, 98, 99]).length / 64 = 1 by decide +kernel, e]
  decide +kernel
end Go.Proofs.YtfhddongflecpaaDoor.Sh
