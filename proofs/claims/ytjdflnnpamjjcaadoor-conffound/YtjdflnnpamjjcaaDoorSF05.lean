/- Plain facts on bits of addresses; nothing of the program is named here. -/
import Derived.Test.YtjdflnnpamjjcaaDoorConfPlain6
import Derived.Test.YtjdflnnpamjjcaaDoorSF04
import Derived.Test.YtjdflnnpamjjcaaDoorNetMem
import Derived.Test.YtjdflnnpamjjcaaDoorNetPlain
namespace Go.Proofs.YtjdflnnpamjjcaaDoor

namespace Cf
theorem netsErr_ok : ∀ (l : List (Nat × Int)) (m : Option (Nat × Int)), (∀ n ∈ l, Nt.err n.1 n.2 = 0) → Nt.upN l → l.Nodup → (∀ q, m = some q → ∀ n ∈ l, gt n q) → netsErr m l = 0
  | [], m, _, _, _, _ => by cases m <;> rfl
  | n :: r, m, h1, h2, h3, h4 => by
    have hr : netsErr (some n) r = 0 := by
      refine netsErr_ok r (some n) (fun x hx => h1 x (by simp [hx])) (List.pairwise_cons.1 h2).2 (List.nodup_cons.1 h3).2 (fun q hq x hx => ?_)
      cases hq
      have hle := (List.pairwise_cons.1 h2).1 x hx
      have hne : x ≠ n := fun e => (List.nodup_cons.1 h3).1 (e ▸ hx)
      unfold Nt.lessN at hle
      simp only [decide_eq_false_iff_not] at hle
      have : ¬ (x.1 = n.1 ∧ x.2 = n.2) := fun hh => hne (Prod.ext hh.1 hh.2)
      unfold gt
      omega
    unfold netsErr
    rw [if_neg (fun hn => hn (h1 n (by simp)))]
    cases m with
    | none => exact hr
    | some q =>
      show (if Nt.order _ _ _ _ = 1 then _ else _) = _
      rw [if_pos ((order_gt n q).2 (h4 q rfl n (by simp)))]
      exact hr
theorem peersErr_ok (key : ByteArray) : ∀ (l : List P) (last : ByteArray) (met : List (Nat × Int)), (∀ p ∈ l, right p = 0) → (∀ p ∈ l, p.k ≠ key) → (∀ p ∈ l, lt last p.k = true) → l.Pairwise (fun p q => lt p.k q.k = true ∧ ∀ n ∈ q.ns, n ∉ p.ns) → (∀ p ∈ l, ∀ n ∈ p.ns, n ∉ met) → peersErr key last met l = 0
  | [], _, _, _, _, _, _, _ => rfl
  | p :: r, last, met, h1, h2, h3, h4, h5 => by
    unfold peersErr
    rw [if_neg (fun hn => hn (h1 p (by simp))), if_neg, if_neg]
    · refine peersErr_ok key r p.k (met ++ p.ns) (fun q hq => h1 q (by simp [hq])) (fun q hq => h2 q (by simp [hq])) (fun q hq => ((List.pairwise_cons.1 h4).1 q hq).1) (List.pairwise_cons.1 h4).2 (fun q hq n hn hm => ?_)
      rcases List.mem_append.1 hm with hm | hm
      · exact h5 q (by simp [hq]) n hn hm
      · exact ((List.pairwise_cons.1 h4).1 q hq).2 n hn hm
    · rw [List.any_eq_true]
      rintro ⟨n, hn, hd⟩
      exact h5 p (by simp) n hn (of_decide_eq_true hd)
    · rintro (h | h)
      · rw [h3 p (by simp)] at h; cases h
      · exact h2 p (by simp) h
/-- A peer that is right. -/
structure RightP (p : P) : Prop where
  key : keyErr p.k = 0
  shared : p.s.size = 0 ∨ keyErr p.s = 0
  zeros : p.s ≠ Bt.zeros
  end_ : p.e.size = 0 ∨ endErr p.e = 0
  alive : 0 ≤ p.v ∧ p.v ≤ 65535
  many : p.ns.length ≤ 8
  nets : ∀ n ∈ p.ns, Nt.err n.1 n.2 = 0
  up : p.ns.Pairwise fun x y => gt y x
theorem up_facts {l : List (Nat × Int)} (h : l.Pairwise fun x y => gt y x) : Nt.upN l ∧ l.Nodup := by
  refine ⟨h.imp fun {x y} hg => ?_, h.imp fun {x y} hg e => ?_⟩
  · unfold gt at hg
    unfold Nt.lessN
    simp only [decide_eq_false_iff_not]
    omega
  · subst e
    unfold gt at hg
    omega
theorem up_back {l : List (Nat × Int)} (h : Nt.upN l) (hd : l.Nodup) : l.Pairwise fun x y => gt y x := by
  refine (List.Pairwise.and h hd).imp fun {x y} ⟨hg, hne⟩ => ?_
  unfold Nt.lessN at hg
  simp only [decide_eq_false_iff_not] at hg
  have : ¬ (x.1 = y.1 ∧ x.2 = y.2) := fun hh => hne (Prod.ext hh.1 hh.2)
  unfold gt
  omega
theorem right_iff (p : P) : right p = 0 ↔ RightP p := by
  unfold right
  constructor
  · intro h
    by_cases h1 : keyErr p.k ≠ 0
    · rw [if_pos h1] at h; exact absurd h h1
    rw [if_neg h1] at h
    by_cases h2 : p.s.size ≠ 0 ∧ keyErr p.s ≠ 0
    · rw [if_pos h2] at h; exact absurd h h2.2
    rw [if_neg h2] at h
    by_cases h3 : p.s = Bt.zeros
    · rw [if_pos h3] at h; cases h
    rw [if_neg h3] at h
    by_cases h4 : p.e.size ≠ 0 ∧ endErr p.e ≠ 0
    · rw [if_pos h4] at h; exact absurd h h4.2
    rw [if_neg h4] at h
    by_cases h5 : p.v < 0 ∨ 65535 < p.v
    · rw [if_pos h5] at h; cases h
    rw [if_neg h5] at h
    by_cases h6 : 8 < p.ns.length
    · rw [if_pos h6] at h; cases h
    rw [if_neg h6] at h
    obtain ⟨i1, -, i3⟩ := nets_ok p.ns none h
    exact ⟨Classical.not_not.1 h1, by by_cases hs : p.s.size = 0; exact .inl hs; exact .inr (Classical.not_not.1 fun hk => h2 ⟨hs, hk⟩), h3, by by_cases hs : p.e.size = 0; exact .inl hs; exact .inr (Classical.not_not.1 fun hk => h4 ⟨hs, hk⟩), by omega, by omega, i1, i3⟩
  · intro ⟨h1, h2, h3, h4, h5, h6, h7, h8⟩
    rw [if_neg (fun hn => hn h1), if_neg (fun hn => by rcases h2 with h | h; exact hn.1 h; exact hn.2 h), if_neg h3, if_neg (fun hn => by rcases h4 with h | h; exact hn.1 h; exact hn.2 h), if_neg (by omega), if_neg (by omega)]
    exact netsErr_ok p.ns none h7 (up_facts h8).1 (up_facts h8).2 (fun q hq => by cases hq)
theorem lt_tr {x y z : ByteArray} (h1 : lt x y = true) (h2 : lt y z = true) : lt x z = true := less_trans _ _ _ h1 h2
/-- A configuration that is right. -/
structure Valid (x : C) : Prop where
  key : x.k.size = 0 ∨ keyErr x.k = 0
  port : 0 ≤ x.p ∧ x.p ≤ 65535
  many : x.ps.length ≤ 6
  peers : ∀ p ∈ x.ps, RightP p
  own : ∀ p ∈ x.ps, p.k ≠ x.k
  up : x.ps.Pairwise fun p q => lt p.k q.k = true
  apart : x.ps.Pairwise fun p q => ∀ n ∈ q.ns, n ∉ p.ns
theorem peersErr_back (key : ByteArray) : ∀ (l : List P) (last : ByteArray) (met : List (Nat × Int)), peersErr key last met l = 0 → (∀ p ∈ l, RightP p) ∧ (∀ p ∈ l, p.k ≠ key) ∧ (∀ p ∈ l, lt last p.k = true) ∧ l.Pairwise (fun p q => lt p.k q.k = true ∧ ∀ n ∈ q.ns, n ∉ p.ns) ∧ (∀ p ∈ l, ∀ n ∈ p.ns, n ∉ met)
  | [], _, _, _ => ⟨(fun p h => by cases h), (fun p h => by cases h), (fun p h => by cases h), List.Pairwise.nil, (fun p h => by cases h)⟩
  | p :: r, last, met, h => by
    unfold peersErr at h
    by_cases h1 : right p ≠ 0
    · rw [if_pos h1] at h; exact absurd h h1
    rw [if_neg h1] at h
    by_cases h2 : lt last p.k = false ∨ p.k = key
    · rw [if_pos h2] at h; cases h
    rw [if_neg h2] at h
    by_cases h3 : p.ns.any (fun n => decide (n ∈ met)) = true
    · rw [if_pos h3] at h; cases h
    rw [if_neg h3] at h
    have hl : lt last p.k = true := by
      cases hh : lt last p.k with
      | true => rfl
      | false => exact absurd (.inl hh) h2
    have hm : ∀ n ∈ p.ns, n ∉ met := fun n hn hm => h3 (List.any_eq_true.2 ⟨n, hn, decide_eq_true hm⟩)
    obtain ⟨i1, i2, i3, i4, i5⟩ := peersErr_back key r p.k (met ++ p.ns) h
    refine ⟨fun q hq => ?_, fun q hq => ?_, fun q hq => ?_, List.Pairwise.cons (fun q hq => ⟨i3 q hq, fun n hn hp => i5 q hq n hn (List.mem_append_right _ hp)⟩) i4, fun q hq n hn => ?_⟩
    · rcases List.mem_cons.1 hq with rfl | hq
      · exact (right_iff _).1 (Classical.not_not.1 h1)
      · exact i1 q hq
    · rcases List.mem_cons.1 hq with rfl | hq
      · exact fun e => h2 (.inr e)
      · exact i2 q hq
    · rcases List.mem_cons.1 hq with rfl | hq
      · exact hl
      · exact lt_tr hl (i3 q hq)
    · rcases List.mem_cons.1 hq with rfl | hq
      · exact hm n hn
      · exact fun hh => i5 q hq n hn (List.mem_append_left _ hh)
theorem valid_iff (x : C) : err x = 0 ↔ Valid x := by
  unfold err
  constructor
  · intro h
    by_cases h1 : x.k.size ≠ 0 ∧ keyErr x.k ≠ 0
    · rw [if_pos h1] at h; exact absurd h h1.2
    rw [if_neg h1] at h
    by_cases h2 : x.p < 0 ∨ 65535 < x.p
    · rw [if_pos h2] at h; cases h
    rw [if_neg h2] at h
    by_cases h3 : 6 < x.ps.length
    · rw [if_pos h3] at h; cases h
    rw [if_neg h3] at h
    obtain ⟨i1, i2, -, i4, -⟩ := peersErr_back x.k x.ps ⟨#[]⟩ [] h
    exact ⟨by by_cases hs : x.k.size = 0; exact .inl hs; exact .inr (Classical.not_not.1 fun hk => h1 ⟨hs, hk⟩), by omega, by omega, i1, i2, i4.imp fun {p q} hh => hh.1, i4.imp fun {p q} hh => hh.2⟩
  · intro ⟨h1, h2, h3, h4, h5, h6, h7⟩
    rw [if_neg (fun hn => by rcases h1 with h | h; exact hn.1 h; exact hn.2 h), if_neg (by omega), if_neg (by omega)]
    exact peersErr_ok x.k x.ps ⟨#[]⟩ [] (fun p hp => (right_iff p).2 (h4 p hp)) h5 (fun p hp => first_less (h4 p hp).key) (h6.and h7) (fun p hp n hn h => by cases h)
end Cf
end Go.Proofs.YtjdflnnpamjjcaaDoor

namespace Go.Proofs.YtjdflnnpamjjcaaDoor
open Go.RowKit

/-- The networks that are used. -/
def Nt.used : List (Nat × Nat) := [(0, 0), (167772160, 8), (167837696, 16), (167838208, 24), (167838211, 32), (167903232, 16), (167772160, 9), (3232235520, 16), (3232235776, 24), (2147483648, 1), (167838336, 25)]
def usedCells : Array Value := (Nt.used.flatMap fun x => [Value.int .u32 (x.1 : Int), Value.int .i64 (x.2 : Int)]).toArray
theorem usedCells_eq : usedCells = #[.int .u32 0, .int .i64 0, .int .u32 167772160, .int .i64 8, .int .u32 167837696, .int .i64 16, .int .u32 167838208, .int .i64 24, .int .u32 167838211, .int .i64 32, .int .u32 167903232, .int .i64 16, .int .u32 167772160, .int .i64 9, .int .u32 3232235520, .int .i64 16, .int .u32 3232235776, .int .i64 24, .int .u32 2147483648, .int .i64 1, .int .u32 167838336, .int .i64 25] := rfl
theorem ip_bits (a b c d : Nat) (ha : a < 256) (hb : b < 256) (hc : c < 256) (hd : d < 256) :
    bits .or .u32 (bits .or .u32 (bits .or .u32 ((a : Int) * 16777216) ((b : Int) * 65536)) ((c : Int) * 256)) (d : Int) = ((a * 16777216 + b * 65536 + c * 256 + d : Nat) : Int) := by
  have key : ∀ (x y : Nat) (j : Nat), j ≤ 24 → x * 2 ^ j < 4294967296 → y < 2 ^ j → bits .or .u32 ((x * 2 ^ j : Nat) : Int) (y : Int) = ((x * 2 ^ j + y : Nat) : Int) := by
    intro x y j hj hx hy
    show IntKind.u32.wrap ((BitVec.ofInt 32 ((x * 2 ^ j : Nat) : Int) ||| BitVec.ofInt 32 (y : Int)).toNat : Int) = _
    have hp : 2 ^ j ≤ 2 ^ 24 := Nat.pow_le_pow_right (by decide) hj
    have ho : x * 2 ^ j ||| y = x * 2 ^ j + y := by
      have := Nat.two_pow_add_eq_or_of_lt (i := j) (b := y) hy x
      rw [Nat.mul_comm] at this
      exact this.symm
    have hl : x * 2 ^ j ||| y < 2 ^ 32 := Nat.or_lt_two_pow hx (by omega)
    rw [BitVec.toNat_or, ofInt_w32 _ hx, ofInt_w32 _ (by omega), IntKind.wrap_u32]
    rw [ho] at hl ⊢
    generalize x * 2 ^ j + y = z at *
    omega
  have k1 := key a (b * 65536) 24 (by omega) (by omega) (by omega)
  have k2 := key (a * 256 + b) (c * 256) 16 (by omega) (by omega) (by omega)
  have k3 := key (a * 65536 + b * 256 + c) d 8 (by omega) (by omega) (by omega)
  rw [show (a : Int) * 16777216 = ((a * 2 ^ 24 : Nat) : Int) by omega, show (b : Int) * 65536 = ((b * 65536 : Nat) : Int) by omega, k1]
  rw [show a * 2 ^ 24 + b * 65536 = (a * 256 + b) * 2 ^ 16 by omega, show (c : Int) * 256 = ((c * 256 : Nat) : Int) by omega, k2]
  rw [show (a * 256 + b) * 2 ^ 16 + c * 256 = (a * 65536 + b * 256 + c) * 2 ^ 8 by omega, k3]
set_option maxHeartbeats 400000 in
theorem keep_ip (a b c d : Nat) (w : World) (ha : a < 256) (hb : b < 256) (hc : c < 256) (hd : d < 256) :
    Calls Tryd.prog 64 #[.int .u32 (a : Int), .int .u32 (b : Int), .int .u32 (c : Int), .int .u32 (d : Int)] w fun e w' => e = .returned (.int .u32 ((a * 16777216 + b * 65536 + c * 256 + d : Nat) : Int)) ∧ w' = w := by
  have Hk := Lib.hid (ip_bits a b c d ha hb hc hd)
  go_enter Tryd.func64, Tryd.ntmps64
  go_wp2
  go_ret
  rw [← Hk.out]
  exact ⟨rfl, rfl⟩

set_option maxRecDepth 20000 in
set_option maxHeartbeats 1600000 in
theorem keep_Nets (w : World) :
    Calls Tryd.prog 39 #[] w fun e w' => e = .returned (.slice (some ⟨w.heap.size, 0, none⟩) 11 11) ∧ w' = w.alloc (.cells usedCells 44) := by
  rw [usedCells_eq]
  have H0 : Hid (∀ W, Calls Tryd.prog 64 #[.int .u32 10, .int .u32 0, .int .u32 0, .int .u32 0] W fun e w' => e = .returned (.int .u32 167772160) ∧ w' = W) := Lib.hid (fun W => keep_ip 10 0 0 0 W (by decide) (by decide) (by decide) (by decide))
  have H1 : Hid (∀ W, Calls Tryd.prog 64 #[.int .u32 10, .int .u32 1, .int .u32 0, .int .u32 0] W fun e w' => e = .returned (.int .u32 167837696) ∧ w' = W) := Lib.hid (fun W => keep_ip 10 1 0 0 W (by decide) (by decide) (by decide) (by decide))
  have H2 : Hid (∀ W, Calls Tryd.prog 64 #[.int .u32 10, .int .u32 1, .int .u32 2, .int .u32 0] W fun e w' => e = .returned (.int .u32 167838208) ∧ w' = W) := Lib.hid (fun W => keep_ip 10 1 2 0 W (by decide) (by decide) (by decide) (by decide))
  have H3 : Hid (∀ W, Calls Tryd.prog 64 #[.int .u32 10, .int .u32 1, .int .u32 2, .int .u32 3] W fun e w' => e = .returned (.int .u32 167838211) ∧ w' = W) := Lib.hid (fun W => keep_ip 10 1 2 3 W (by decide) (by decide) (by decide) (by decide))
  have H4 : Hid (∀ W, Calls Tryd.prog 64 #[.int .u32 10, .int .u32 2, .int .u32 0, .int .u32 0] W fun e w' => e = .returned (.int .u32 167903232) ∧ w' = W) := Lib.hid (fun W => keep_ip 10 2 0 0 W (by decide) (by decide) (by decide) (by decide))
  have H5 : Hid (∀ W, Calls Tryd.prog 64 #[.int .u32 10, .int .u32 0, .int .u32 0, .int .u32 0] W fun e w' => e = .returned (.int .u32 167772160) ∧ w' = W) := Lib.hid (fun W => keep_ip 10 0 0 0 W (by decide) (by decide) (by decide) (by decide))
  have H6 : Hid (∀ W, Calls Tryd.prog 64 #[.int .u32 192, .int .u32 168, .int .u32 0, .int .u32 0] W fun e w' => e = .returned (.int .u32 3232235520) ∧ w' = W) := Lib.hid (fun W => keep_ip 192 168 0 0 W (by decide) (by decide) (by decide) (by decide))
  have H7 : Hid (∀ W, Calls Tryd.prog 64 #[.int .u32 192, .int .u32 168, .int .u32 1, .int .u32 0] W fun e w' => e = .returned (.int .u32 3232235776) ∧ w' = W) := Lib.hid (fun W => keep_ip 192 168 1 0 W (by decide) (by decide) (by decide) (by decide))
  have H8 : Hid (∀ W, Calls Tryd.prog 64 #[.int .u32 128, .int .u32 0, .int .u32 0, .int .u32 0] W fun e w' => e = .returned (.int .u32 2147483648) ∧ w' = W) := Lib.hid (fun W => keep_ip 128 0 0 0 W (by decide) (by decide) (by decide) (by decide))
  have H9 : Hid (∀ W, Calls Tryd.prog 64 #[.int .u32 10, .int .u32 1, .int .u32 2, .int .u32 128] W fun e w' => e = .returned (.int .u32 167838336) ∧ w' = W) := Lib.hid (fun W => keep_ip 10 1 2 128 W (by decide) (by decide) (by decide) (by decide))
  go_enter Tryd.func39, Tryd.ntmps39
  go_wp2_with fail
  refine (H0.out _).mono ?_
  rintro e w0 ⟨rfl, hw⟩
  subst hw
  go_wp2_with fail
  refine (H1.out _).mono ?_
  rintro e w1 ⟨rfl, hw⟩
  subst hw
  go_wp2_with fail
  refine (H2.out _).mono ?_
  rintro e w2 ⟨rfl, hw⟩
  subst hw
  go_wp2_with fail
  refine (H3.out _).mono ?_
  rintro e w3 ⟨rfl, hw⟩
  subst hw
  go_wp2_with fail
  refine (H4.out _).mono ?_
  rintro e w4 ⟨rfl, hw⟩
  subst hw
  go_wp2_with fail
  refine (H5.out _).mono ?_
  rintro e w5 ⟨rfl, hw⟩
  subst hw
  go_wp2_with fail
  refine (H6.out _).mono ?_
  rintro e w6 ⟨rfl, hw⟩
  subst hw
  go_wp2_with fail
  refine (H7.out _).mono ?_
  rintro e w7 ⟨rfl, hw⟩
  subst hw
  go_wp2_with fail
  refine (H8.out _).mono ?_
  rintro e w8 ⟨rfl, hw⟩
  subst hw
  go_wp2_with fail
  refine (H9.out _).mono ?_
  rintro e w9 ⟨rfl, hw⟩
  subst hw
  go_wp2
  go_ret
  exact ⟨rfl, rfl⟩
end Go.Proofs.YtjdflnnpamjjcaaDoor

namespace Go.Proofs.YtjdflnnpamjjcaaDoor.Nt

/-- One bit taken away. -/
theorem clear_bit (h r j : Nat) (hr : r < 2 ^ (j + 1)) (hx : 2 ^ (j + 1) * h + r < 4294967296) (hj : j < 32) : (2 ^ (j + 1) * h + r) &&& (4294967295 - 2 ^ j) = 2 ^ (j + 1) * h + r % 2 ^ j := by
  have hp : 2 ^ j < 2 ^ 32 := Nat.pow_lt_pow_right (by decide) hj
  have hl : r % 2 ^ j < 2 ^ j := Nat.mod_lt _ (Nat.two_pow_pos j)
  have hl1 : r % 2 ^ j < 2 ^ (j + 1) := by rw [Nat.pow_succ]; omega
  apply Nat.eq_of_testBit_eq
  intro t
  rw [show (4294967295 : Nat) - 2 ^ j = 2 ^ 32 - (2 ^ j + 1) by omega, Nat.testBit_and, Nat.testBit_two_pow_sub_succ hp, Nat.testBit_two_pow, Nat.testBit_two_pow_mul_add _ hr, Nat.testBit_two_pow_mul_add _ hl1]
  by_cases h1 : t < j + 1
  · rw [if_pos h1, if_pos h1, Nat.testBit_mod_two_pow]
    by_cases h2 : t = j
    · subst h2; simp
    · rw [decide_eq_true (show t < 32 by omega), decide_eq_false (show ¬ j = t by omega), decide_eq_true (show t < j by omega)]
      simp
  · rw [if_neg h1, if_neg h1]
    by_cases h3 : t < 32
    · rw [decide_eq_true h3, decide_eq_false (show ¬ j = t by omega)]
      simp
    · have hz : h.testBit (t - (j + 1)) = false := by
        apply Nat.testBit_lt_two_pow
        have hh : h < 2 ^ (32 - (j + 1)) := by
          apply Nat.lt_of_mul_lt_mul_left (a := 2 ^ (j + 1))
          rw [← Nat.pow_add, show j + 1 + (32 - (j + 1)) = 32 by omega]
          omega
        exact Nat.lt_of_lt_of_le hh (Nat.pow_le_pow_right (by decide) (by omega))
      rw [hz]
      simp
/-- The bits behind the first n taken away, one after the other. -/
theorem clear_step (a n k : Nat) (ha : a < 4294967296) (hn : n ≤ k) (hk : k < 32) : (cut a n + a % 2 ^ (32 - k)) &&& (4294967295 - 2 ^ (31 - k)) = cut a n + a % 2 ^ (32 - (k + 1)) := by
  have e1 : 32 - k = (31 - k) + 1 := by omega
  have e2 : 32 - (k + 1) = 31 - k := by omega
  have e3 : 2 ^ (32 - n) = 2 ^ (31 - k + 1) * 2 ^ (k - n) := by rw [← Nat.pow_add]; congr 1; omega
  have hc : cut a n = 2 ^ (31 - k + 1) * (a / 2 ^ (32 - n) * 2 ^ (k - n)) := by
    unfold cut
    conv => lhs; rw [e3]
    rw [e3, Nat.mul_comm (2 ^ (31 - k + 1)) (a / _ * _), Nat.mul_assoc, Nat.mul_comm (2 ^ (k - n)) (2 ^ (31 - k + 1))]
  have hle : cut a n + a % 2 ^ (32 - k) ≤ a := by
    have h1 : a % 2 ^ (32 - k) ≤ a % 2 ^ (32 - n) := by
      have : a % 2 ^ (32 - k) = a % 2 ^ (32 - n) % 2 ^ (32 - k) := (Nat.mod_mod_of_dvd a (Nat.pow_dvd_pow 2 (by omega))).symm
      rw [this]
      exact Nat.mod_le _ _
    have h2 : cut a n + a % 2 ^ (32 - n) = a := by unfold cut; rw [Nat.mul_comm]; exact Nat.div_add_mod a _
    omega
  rw [e1] at hle ⊢
  rw [e2]
  have hm : a % 2 ^ (31 - k + 1) % 2 ^ (31 - k) = a % 2 ^ (31 - k) := Nat.mod_mod_of_dvd a (Nat.pow_dvd_pow 2 (by omega))
  rw [hc] at hle ⊢
  rw [clear_bit _ _ _ (Nat.mod_lt _ (Nat.two_pow_pos _)) (by omega) (by omega), hm]
theorem cut_whole (a n : Nat) : cut a n + a % 2 ^ (32 - n) = a := by unfold cut; rw [Nat.mul_comm]; exact Nat.div_add_mod a _
end Go.Proofs.YtjdflnnpamjjcaaDoor.Nt
