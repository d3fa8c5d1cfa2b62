/- The contract of the reference's WireBytes. -/
import Derived.Test.YtfgkodgdoplpbabWireRef1
import Derived.Test.YtfgkodgdoplpbabWireRef2
import Derived.Test.YtfgkodgdoplpbabWireCode3
namespace Go.Proofs.Ytfgkodgdoplpbab
open Go.RowKit

set_option maxRecDepth 10000 in
set_option maxHeartbeats 4000000 in
theorem ref_WireBytes_1 (s r c : Nat) (a : Option Addr) (n cap : Nat) (bs : List UInt8) (w : World) (h : BytesAt w w.heap.size a n bs) (he : Wr.err (1 : Nat) s r c n = 0) :
    Calls Try.prog 11 #[messV (1 : Nat) s r c a n cap] w (ReadPost 0 (Wr.enc 1 s r c bs) w) := by
  obtain ⟨_, _, hoff, _, hmost⟩ := Wr.err_zero.1 he
  have hn : n ≤ 236 := by
    have : Wr.most ((1 : Nat) : Int).toNat ≤ 236 := by decide
    omega
  have hsx : s ≤ 4294967295 ∧ r ≤ 4294967295 ∧ c ≤ 1099511627776 := by unfold Wr.Off at hoff; omega
  obtain ⟨hsx, hrx, hcx⟩ := hsx
  have HC : Hid (∀ W, Calls Try.prog 10 #[.agg #[.int .i64 1, .int .i64 s, .int .i64 r, .int .i64 c, .slice a n cap]] W fun e w' => e = .returned (.int .i64 0) ∧ Below W.heap.size W w') := Lib.hid (fun W => by
    have := ref_WireFault (1 : Nat) s r c a n cap W
    rw [he] at this
    exact this)
  have hg := Blk.new w 24 [.int .i64 1, .int .i64 s, .int .i64 r, .int .i64 c, .slice a n cap]
  have hA : Below w.heap.size w (w.alloc (.cells #[.int .i64 1, .int .i64 s, .int .i64 r, .int .i64 c, .slice a n cap] 24)) := (Below.refl _ _).alloc (Nat.le_refl _) _
  obtain ⟨m0, m1, m2, m3, m4⟩ := hg.facts5.1
  have HG := Lib.hid hg
  have HA := Lib.hid hA
  have Hb := Lib.hid h
  have Hl := Lib.hid h.1
  clear hg hA h hoff hmost he
  unfold messV
  go_enter Try.func11, Try.ntmps11
  go_wp2_with fail
  refine (HC.out _).mono ?_
  rintro e w1 ⟨rfl, hb1⟩
  have hg0 := HG.out.kept hb1
  have HB0 := Lib.hid (HA.out.trans (hb1.mono HA.out.size))
  clear m0 m1 m2 m3 m4 hb1
  obtain ⟨m0, m1, m2, m3, m4⟩ := hg0.facts5.1
  have HG0 := Lib.hid hg0
  clear hg0
  go_wp2_with fail
  refine (ref_little 1 4 _ (by omega) (by decide) (by decide)).mono ?_
  rintro e w' ⟨rfl, hw'⟩
  have hg1 := HG0.out.kept (show Below _ _ w' by rw [hw']; exact (Below.refl _ _).alloc (Nat.le_refl _) _)
  have HB1 := Lib.hid (HB0.out.trans (show Below w.heap.size _ w' by rw [hw']; exact ((Below.refl _ _).alloc (Nat.le_refl _) _).mono HB0.out.size))
  clear hw' m0 m1 m2 m3 m4
  obtain ⟨m0, m1, m2, m3, m4⟩ := hg1.facts5.1
  have HG1 := Lib.hid hg1
  clear hg1
  have u1 : (strOf (Wr.leL 1 4)).size = 4 := by rw [strOf_size, Wr.leL_length]
  obtain ⟨S0, hS0⟩ : ∃ T, T = strOf (Wr.leL 1 4) := ⟨_, rfl⟩
  rw [← hS0] at u1 ⊢
  have HS0 := Lib.hid hS0
  clear hS0
  go_wp2_with fail
  refine (ref_little s 4 _ (by omega) (by decide) (by decide)).mono ?_
  rintro e w' ⟨rfl, hw'⟩
  have hg2 := HG1.out.kept (show Below _ _ w' by rw [hw']; exact (Below.refl _ _).alloc (Nat.le_refl _) _)
  have HB2 := Lib.hid (HB1.out.trans (show Below w.heap.size _ w' by rw [hw']; exact ((Below.refl _ _).alloc (Nat.le_refl _) _).mono HB1.out.size))
  clear hw' m0 m1 m2 m3 m4
  obtain ⟨m0, m1, m2, m3, m4⟩ := hg2.facts5.1
  have HG2 := Lib.hid hg2
  clear hg2
  have t2 : (strOf (Wr.leL s 4)).size = 4 := by rw [strOf_size, Wr.leL_length]
  obtain ⟨T2, hT2⟩ : ∃ T, T = strOf (Wr.leL s 4) := ⟨_, rfl⟩
  rw [← hT2] at t2 ⊢
  have HT2 := Lib.hid hT2
  clear hT2
  have u2 : (S0 ++ T2).size = 8 := by rw [ByteArray.size_append, u1, t2]
  have hby := Hb.out.below HB2.out
  have hcv := conv_bytes (P := Try.prog) hby 22 5 9 cap Try.underlying22 Try.underlying5 Try.underlying9
  have td : (strOf bs).size = n := by rw [strOf_size, Hl.out]
  obtain ⟨D, hD⟩ : ∃ D, D = strOf bs := ⟨_, rfl⟩
  rw [← hD] at td hcv
  have ud : (S0 ++ T2 ++ D).size = 8 + n := by rw [ByteArray.size_append, u2, td]
  obtain ⟨w9, cap9, hrun9, hsz9, hbel9, hcs9⟩ := conv_string (S0 ++ T2 ++ D) w'
  have hb9 := conv_bytesAt hsz9 hcs9
  have hlist : (S0 ++ T2 ++ D).data.toList = Wr.enc 1 s r c bs := by
    rw [hD, HS0.out, HT2.out]
    simp only [ByteArray.data_append, Array.toList_append, strOf_list]
    unfold Wr.enc Wr.szS Wr.szR Wr.szC
    rw [show Wr.leL 1 4 = [UInt8.ofNat 1, 0, 0, 0] by decide]
    simp [Wr.leL]
  rw [ud, hlist] at hb9
  rw [ud] at hrun9
  have Hb9 := Lib.hid hb9
  have HB9 := Lib.hid (HB2.out.trans (hbel9.mono HB2.out.size))
  clear hb9 hbel9 hsz9 hcs9 hlist hby hD
  go_wp2
  go_ret2
  exact ⟨_, _, _, rfl, Hb9.out, (fun h => by cases h), HB9.out⟩

set_option maxRecDepth 10000 in
set_option maxHeartbeats 4000000 in
theorem ref_WireBytes_2 (s r c : Nat) (a : Option Addr) (n cap : Nat) (bs : List UInt8) (w : World) (h : BytesAt w w.heap.size a n bs) (he : Wr.err (2 : Nat) s r c n = 0) :
    Calls Try.prog 11 #[messV (2 : Nat) s r c a n cap] w (ReadPost 0 (Wr.enc 2 s r c bs) w) := by
  obtain ⟨_, _, hoff, _, hmost⟩ := Wr.err_zero.1 he
  have hn : n ≤ 236 := by
    have : Wr.most ((2 : Nat) : Int).toNat ≤ 236 := by decide
    omega
  have hsx : s ≤ 4294967295 ∧ r ≤ 4294967295 ∧ c ≤ 1099511627776 := by unfold Wr.Off at hoff; omega
  obtain ⟨hsx, hrx, hcx⟩ := hsx
  have HC : Hid (∀ W, Calls Try.prog 10 #[.agg #[.int .i64 2, .int .i64 s, .int .i64 r, .int .i64 c, .slice a n cap]] W fun e w' => e = .returned (.int .i64 0) ∧ Below W.heap.size W w') := Lib.hid (fun W => by
    have := ref_WireFault (2 : Nat) s r c a n cap W
    rw [he] at this
    exact this)
  have hg := Blk.new w 24 [.int .i64 2, .int .i64 s, .int .i64 r, .int .i64 c, .slice a n cap]
  have hA : Below w.heap.size w (w.alloc (.cells #[.int .i64 2, .int .i64 s, .int .i64 r, .int .i64 c, .slice a n cap] 24)) := (Below.refl _ _).alloc (Nat.le_refl _) _
  obtain ⟨m0, m1, m2, m3, m4⟩ := hg.facts5.1
  have HG := Lib.hid hg
  have HA := Lib.hid hA
  have Hb := Lib.hid h
  have Hl := Lib.hid h.1
  clear hg hA h hoff hmost he
  unfold messV
  go_enter Try.func11, Try.ntmps11
  go_wp2_with fail
  refine (HC.out _).mono ?_
  rintro e w1 ⟨rfl, hb1⟩
  have hg0 := HG.out.kept hb1
  have HB0 := Lib.hid (HA.out.trans (hb1.mono HA.out.size))
  clear m0 m1 m2 m3 m4 hb1
  obtain ⟨m0, m1, m2, m3, m4⟩ := hg0.facts5.1
  have HG0 := Lib.hid hg0
  clear hg0
  go_wp2_with fail
  refine (ref_little 2 4 _ (by omega) (by decide) (by decide)).mono ?_
  rintro e w' ⟨rfl, hw'⟩
  have hg1 := HG0.out.kept (show Below _ _ w' by rw [hw']; exact (Below.refl _ _).alloc (Nat.le_refl _) _)
  have HB1 := Lib.hid (HB0.out.trans (show Below w.heap.size _ w' by rw [hw']; exact ((Below.refl _ _).alloc (Nat.le_refl _) _).mono HB0.out.size))
  clear hw' m0 m1 m2 m3 m4
  obtain ⟨m0, m1, m2, m3, m4⟩ := hg1.facts5.1
  have HG1 := Lib.hid hg1
  clear hg1
  have u1 : (strOf (Wr.leL 2 4)).size = 4 := by rw [strOf_size, Wr.leL_length]
  obtain ⟨S0, hS0⟩ : ∃ T, T = strOf (Wr.leL 2 4) := ⟨_, rfl⟩
  rw [← hS0] at u1 ⊢
  have HS0 := Lib.hid hS0
  clear hS0
  go_wp2_with fail
  refine (ref_little s 4 _ (by omega) (by decide) (by decide)).mono ?_
  rintro e w' ⟨rfl, hw'⟩
  have hg2 := HG1.out.kept (show Below _ _ w' by rw [hw']; exact (Below.refl _ _).alloc (Nat.le_refl _) _)
  have HB2 := Lib.hid (HB1.out.trans (show Below w.heap.size _ w' by rw [hw']; exact ((Below.refl _ _).alloc (Nat.le_refl _) _).mono HB1.out.size))
  clear hw' m0 m1 m2 m3 m4
  obtain ⟨m0, m1, m2, m3, m4⟩ := hg2.facts5.1
  have HG2 := Lib.hid hg2
  clear hg2
  have t2 : (strOf (Wr.leL s 4)).size = 4 := by rw [strOf_size, Wr.leL_length]
  obtain ⟨T2, hT2⟩ : ∃ T, T = strOf (Wr.leL s 4) := ⟨_, rfl⟩
  rw [← hT2] at t2 ⊢
  have HT2 := Lib.hid hT2
  clear hT2
  have u2 : (S0 ++ T2).size = 8 := by rw [ByteArray.size_append, u1, t2]
  go_wp2_with fail
  refine (ref_little r 4 _ (by omega) (by decide) (by decide)).mono ?_
  rintro e w' ⟨rfl, hw'⟩
  have hg3 := HG2.out.kept (show Below _ _ w' by rw [hw']; exact (Below.refl _ _).alloc (Nat.le_refl _) _)
  have HB3 := Lib.hid (HB2.out.trans (show Below w.heap.size _ w' by rw [hw']; exact ((Below.refl _ _).alloc (Nat.le_refl _) _).mono HB2.out.size))
  clear hw' m0 m1 m2 m3 m4
  obtain ⟨m0, m1, m2, m3, m4⟩ := hg3.facts5.1
  have HG3 := Lib.hid hg3
  clear hg3
  have t3 : (strOf (Wr.leL r 4)).size = 4 := by rw [strOf_size, Wr.leL_length]
  obtain ⟨T3, hT3⟩ : ∃ T, T = strOf (Wr.leL r 4) := ⟨_, rfl⟩
  rw [← hT3] at t3 ⊢
  have HT3 := Lib.hid hT3
  clear hT3
  have u3 : (S0 ++ T2 ++ T3).size = 12 := by rw [ByteArray.size_append, u2, t3]
  have hby := Hb.out.below HB3.out
  have hcv := conv_bytes (P := Try.prog) hby 22 5 9 cap Try.underlying22 Try.underlying5 Try.underlying9
  have td : (strOf bs).size = n := by rw [strOf_size, Hl.out]
  obtain ⟨D, hD⟩ : ∃ D, D = strOf bs := ⟨_, rfl⟩
  rw [← hD] at td hcv
  have ud : (S0 ++ T2 ++ T3 ++ D).size = 12 + n := by rw [ByteArray.size_append, u3, td]
  obtain ⟨w9, cap9, hrun9, hsz9, hbel9, hcs9⟩ := conv_string (S0 ++ T2 ++ T3 ++ D) w'
  have hb9 := conv_bytesAt hsz9 hcs9
  have hlist : (S0 ++ T2 ++ T3 ++ D).data.toList = Wr.enc 2 s r c bs := by
    rw [hD, HS0.out, HT2.out, HT3.out]
    simp only [ByteArray.data_append, Array.toList_append, strOf_list]
    unfold Wr.enc Wr.szS Wr.szR Wr.szC
    rw [show Wr.leL 2 4 = [UInt8.ofNat 2, 0, 0, 0] by decide]
    simp [Wr.leL]
  rw [ud, hlist] at hb9
  rw [ud] at hrun9
  have Hb9 := Lib.hid hb9
  have HB9 := Lib.hid (HB3.out.trans (hbel9.mono HB3.out.size))
  clear hb9 hbel9 hsz9 hcs9 hlist hby hD
  go_wp2
  go_ret2
  exact ⟨_, _, _, rfl, Hb9.out, (fun h => by cases h), HB9.out⟩

set_option maxRecDepth 10000 in
set_option maxHeartbeats 4000000 in
theorem ref_WireBytes_4 (s r c : Nat) (a : Option Addr) (n cap : Nat) (bs : List UInt8) (w : World) (h : BytesAt w w.heap.size a n bs) (he : Wr.err (4 : Nat) s r c n = 0) :
    Calls Try.prog 11 #[messV (4 : Nat) s r c a n cap] w (ReadPost 0 (Wr.enc 4 s r c bs) w) := by
  obtain ⟨_, _, hoff, _, hmost⟩ := Wr.err_zero.1 he
  have hn : n ≤ 236 := by
    have : Wr.most ((4 : Nat) : Int).toNat ≤ 236 := by decide
    omega
  have hsx : s ≤ 4294967295 ∧ r ≤ 4294967295 ∧ c ≤ 1099511627776 := by unfold Wr.Off at hoff; omega
  obtain ⟨hsx, hrx, hcx⟩ := hsx
  have HC : Hid (∀ W, Calls Try.prog 10 #[.agg #[.int .i64 4, .int .i64 s, .int .i64 r, .int .i64 c, .slice a n cap]] W fun e w' => e = .returned (.int .i64 0) ∧ Below W.heap.size W w') := Lib.hid (fun W => by
    have := ref_WireFault (4 : Nat) s r c a n cap W
    rw [he] at this
    exact this)
  have hg := Blk.new w 24 [.int .i64 4, .int .i64 s, .int .i64 r, .int .i64 c, .slice a n cap]
  have hA : Below w.heap.size w (w.alloc (.cells #[.int .i64 4, .int .i64 s, .int .i64 r, .int .i64 c, .slice a n cap] 24)) := (Below.refl _ _).alloc (Nat.le_refl _) _
  obtain ⟨m0, m1, m2, m3, m4⟩ := hg.facts5.1
  have HG := Lib.hid hg
  have HA := Lib.hid hA
  have Hb := Lib.hid h
  have Hl := Lib.hid h.1
  clear hg hA h hoff hmost he
  unfold messV
  go_enter Try.func11, Try.ntmps11
  go_wp2_with fail
  refine (HC.out _).mono ?_
  rintro e w1 ⟨rfl, hb1⟩
  have hg0 := HG.out.kept hb1
  have HB0 := Lib.hid (HA.out.trans (hb1.mono HA.out.size))
  clear m0 m1 m2 m3 m4 hb1
  obtain ⟨m0, m1, m2, m3, m4⟩ := hg0.facts5.1
  have HG0 := Lib.hid hg0
  clear hg0
  go_wp2_with fail
  refine (ref_little 4 4 _ (by omega) (by decide) (by decide)).mono ?_
  rintro e w' ⟨rfl, hw'⟩
  have hg1 := HG0.out.kept (show Below _ _ w' by rw [hw']; exact (Below.refl _ _).alloc (Nat.le_refl _) _)
  have HB1 := Lib.hid (HB0.out.trans (show Below w.heap.size _ w' by rw [hw']; exact ((Below.refl _ _).alloc (Nat.le_refl _) _).mono HB0.out.size))
  clear hw' m0 m1 m2 m3 m4
  obtain ⟨m0, m1, m2, m3, m4⟩ := hg1.facts5.1
  have HG1 := Lib.hid hg1
  clear hg1
  have u1 : (strOf (Wr.leL 4 4)).size = 4 := by rw [strOf_size, Wr.leL_length]
  obtain ⟨S0, hS0⟩ : ∃ T, T = strOf (Wr.leL 4 4) := ⟨_, rfl⟩
  rw [← hS0] at u1 ⊢
  have HS0 := Lib.hid hS0
  clear hS0
  go_wp2_with fail
  refine (ref_little r 4 _ (by omega) (by decide) (by decide)).mono ?_
  rintro e w' ⟨rfl, hw'⟩
  have hg2 := HG1.out.kept (show Below _ _ w' by rw [hw']; exact (Below.refl _ _).alloc (Nat.le_refl _) _)
  have HB2 := Lib.hid (HB1.out.trans (show Below w.heap.size _ w' by rw [hw']; exact ((Below.refl _ _).alloc (Nat.le_refl _) _).mono HB1.out.size))
  clear hw' m0 m1 m2 m3 m4
  obtain ⟨m0, m1, m2, m3, m4⟩ := hg2.facts5.1
  have HG2 := Lib.hid hg2
  clear hg2
  have t2 : (strOf (Wr.leL r 4)).size = 4 := by rw [strOf_size, Wr.leL_length]
  obtain ⟨T2, hT2⟩ : ∃ T, T = strOf (Wr.leL r 4) := ⟨_, rfl⟩
  rw [← hT2] at t2 ⊢
  have HT2 := Lib.hid hT2
  clear hT2
  have u2 : (S0 ++ T2).size = 8 := by rw [ByteArray.size_append, u1, t2]
  go_wp2_with fail
  refine (ref_little c 8 _ (by omega) (by decide) (by decide)).mono ?_
  rintro e w' ⟨rfl, hw'⟩
  have hg3 := HG2.out.kept (show Below _ _ w' by rw [hw']; exact (Below.refl _ _).alloc (Nat.le_refl _) _)
  have HB3 := Lib.hid (HB2.out.trans (show Below w.heap.size _ w' by rw [hw']; exact ((Below.refl _ _).alloc (Nat.le_refl _) _).mono HB2.out.size))
  clear hw' m0 m1 m2 m3 m4
  obtain ⟨m0, m1, m2, m3, m4⟩ := hg3.facts5.1
  have HG3 := Lib.hid hg3
  clear hg3
  have t3 : (strOf (Wr.leL c 8)).size = 8 := by rw [strOf_size, Wr.leL_length]
  obtain ⟨T3, hT3⟩ : ∃ T, T = strOf (Wr.leL c 8) := ⟨_, rfl⟩
  rw [← hT3] at t3 ⊢
  have HT3 := Lib.hid hT3
  clear hT3
  have u3 : (S0 ++ T2 ++ T3).size = 16 := by rw [ByteArray.size_append, u2, t3]
  have hby := Hb.out.below HB3.out
  have hcv := conv_bytes (P := Try.prog) hby 22 5 9 cap Try.underlying22 Try.underlying5 Try.underlying9
  have td : (strOf bs).size = n := by rw [strOf_size, Hl.out]
  obtain ⟨D, hD⟩ : ∃ D, D = strOf bs := ⟨_, rfl⟩
  rw [← hD] at td hcv
  have ud : (S0 ++ T2 ++ T3 ++ D).size = 16 + n := by rw [ByteArray.size_append, u3, td]
  obtain ⟨w9, cap9, hrun9, hsz9, hbel9, hcs9⟩ := conv_string (S0 ++ T2 ++ T3 ++ D) w'
  have hb9 := conv_bytesAt hsz9 hcs9
  have hlist : (S0 ++ T2 ++ T3 ++ D).data.toList = Wr.enc 4 s r c bs := by
    rw [hD, HS0.out, HT2.out, HT3.out]
    simp only [ByteArray.data_append, Array.toList_append, strOf_list]
    unfold Wr.enc Wr.szS Wr.szR Wr.szC
    rw [show Wr.leL 4 4 = [UInt8.ofNat 4, 0, 0, 0] by decide]
    simp [Wr.leL]
  rw [ud, hlist] at hb9
  rw [ud] at hrun9
  have Hb9 := Lib.hid hb9
  have HB9 := Lib.hid (HB3.out.trans (hbel9.mono HB3.out.size))
  clear hb9 hbel9 hsz9 hcs9 hlist hby hD
  go_wp2
  go_ret2
  exact ⟨_, _, _, rfl, Hb9.out, (fun h => by cases h), HB9.out⟩


set_option maxHeartbeats 800000 in
theorem ref_WireBytes (k s r c : Int) (a : Option Addr) (n cap : Nat) (bs : List UInt8) (w : World) (h : BytesAt w w.heap.size a n bs) :
    Calls Try.prog 11 #[messV k s r c a n cap] w (ReadPost (Wr.err k s r c n) (Wr.encOut k s r c bs) w) := by
  have hl := h.1
  by_cases he : Wr.err k s r c n = 0
  · obtain ⟨hk, hla, hoff, _, _⟩ := Wr.err_zero.1 he
    have ho : 0 ≤ s ∧ 0 ≤ r ∧ 0 ≤ c := by unfold Wr.Off at hoff; omega
    obtain ⟨sn, rfl⟩ := Int.eq_ofNat_of_zero_le ho.1
    obtain ⟨rn, rfl⟩ := Int.eq_ofNat_of_zero_le ho.2.1
    obtain ⟨cn, rfl⟩ := Int.eq_ofNat_of_zero_le ho.2.2
    rcases hk with rfl | rfl | rfl
    · have := ref_WireBytes_1 sn rn cn a n cap bs w h he
      rw [show Wr.encOut 1 (sn : Int) rn cn bs = Wr.enc 1 sn rn cn bs from Wr.encOut_zero (k := 1) (by rw [hl]; exact he), he]
      exact this
    · have := ref_WireBytes_2 sn rn cn a n cap bs w h he
      rw [show Wr.encOut 2 (sn : Int) rn cn bs = Wr.enc 2 sn rn cn bs from Wr.encOut_zero (k := 2) (by rw [hl]; exact he), he]
      exact this
    · have := ref_WireBytes_4 sn rn cn a n cap bs w h he
      rw [show Wr.encOut 4 (sn : Int) rn cn bs = Wr.enc 4 sn rn cn bs from Wr.encOut_zero (k := 4) (by rw [hl]; exact he), he]
      exact this
  · have HE := Lib.hid (show Wr.encOut k s r c bs = [] by unfold Wr.encOut; rw [hl, if_neg he])
    have hA : Below w.heap.size w (w.alloc (.cells #[.int .i64 k, .int .i64 s, .int .i64 r, .int .i64 c, .slice a n cap] 24)) := (Below.refl _ _).alloc (Nat.le_refl _) _
    obtain ⟨m0, m1, m2, m3, m4⟩ := (Blk.new w 24 [.int .i64 k, .int .i64 s, .int .i64 r, .int .i64 c, .slice a n cap]).facts5.1
    have HC := Lib.hid (fun W => ref_WireFault k s r c a n cap W)
    have HA := Lib.hid hA
    have hne : ¬ (Wr.err k s r c n : Int) = 0 := by omega
    clear h hl hA
    unfold messV at HC ⊢
    generalize Wr.err k s r c n = E at *
    go_enter Try.func11, Try.ntmps11
    go_wp2_with fail
    refine (HC.out _).mono ?_
    rintro e w1 ⟨rfl, hb1⟩
    have HB1 := Lib.hid (HA.out.trans (hb1.mono HA.out.size))
    clear m0 m1 m2 m3 m4 hb1
    go_wp2
    go_ret2
    rw [HE.out]
    exact ⟨none, 0, 0, rfl, ⟨rfl, fun h => absurd h (by omega)⟩, fun _ => ⟨rfl, rfl⟩, HB1.out⟩
end Go.Proofs.Ytfgkodgdoplpbab
