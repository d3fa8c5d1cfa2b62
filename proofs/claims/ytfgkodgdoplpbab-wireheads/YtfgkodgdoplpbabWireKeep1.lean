/- The contract of the laws' helper message: a message of a raw thing. -/
import Derived.Test.YtfgkodgdoplpbabStructStore
import Derived.Test.YtfgkodgdoplpbabCopyText
import Derived.Test.YtfgkodgdoplpbabWireCode3
import Derived.Test.YtfgkodgdoplpbabKeepPick
import Derived.Test.YtfgkodgdoplpbabRawVal
import Derived.Lib.MinMax
import Derived.Deep.CutBlock
namespace Go.Proofs.Ytfgkodgdoplpbab
open Go.RowKit

def Wr.gk (k : Int) : Nat := if pick k 3 = 0 then 1 else if pick k 3 = 1 then 2 else 4
def Wr.gs (k a : Int) : Nat := if pick k 3 = 0 then pick a 4294967296 else if pick k 3 = 1 then pick a 4294967296 else 0
def Wr.gr (k a b : Int) : Nat := if pick k 3 = 0 then 0 else if pick k 3 = 1 then pick b 4294967296 else pick a 4294967296
def Wr.gc (k b : Int) : Nat := if pick k 3 = 0 then 0 else if pick k 3 = 1 then 0 else pick b 1099511627777
def Wr.gn (k : Int) (s : ByteArray) : Nat := if pick k 3 = 0 then 32 else if pick k 3 = 1 then 24 else 16 + min s.size 200
def Wr.gb (k : Int) (s : ByteArray) : List UInt8 := s.data.toList.take (Wr.gn k s) ++ (List.replicate (Wr.gn k s) 0).drop s.size
theorem Wr.gb_length (k : Int) (s : ByteArray) : (Wr.gb k s).length = Wr.gn k s := by
  unfold Wr.gb
  rw [List.length_append, List.length_take, List.length_drop, List.length_replicate]
  have : s.data.toList.length = s.size := by simp
  omega
theorem Wr.gn_le (k : Int) (s : ByteArray) : 16 ≤ Wr.gn k s ∧ Wr.gn k s ≤ 236 := by
  unfold Wr.gn
  split
  · omega
  · split <;> omega
theorem Wr.g_good (k a b : Int) (s : ByteArray) : Wr.err (Wr.gk k) (Wr.gs k a) (Wr.gr k a b) (Wr.gc k b) (Wr.gn k s) = 0 := by
  have h1 := pick_lt a 4294967296 (by decide)
  have h2 := pick_lt b 4294967296 (by decide)
  have h3 := pick_lt b 1099511627777 (by decide)
  have h4 := pick_lt k 3 (by decide)
  refine Wr.err_zero.2 ?_
  have h5 : pick k 3 = 0 ∨ pick k 3 = 1 ∨ pick k 3 = 2 := by omega
  unfold Wr.gk Wr.gs Wr.gr Wr.gc Wr.gn
  rcases h5 with h | h | h
  · rw [h]
    exact ⟨.inl rfl, by unfold Wr.Lacks; simp, by unfold Wr.Off; simp; omega, by simp [Wr.least], by simp [Wr.most]⟩
  · rw [h]
    exact ⟨.inr (.inl rfl), by unfold Wr.Lacks; simp, by unfold Wr.Off; simp; omega, by simp [Wr.least], by simp [Wr.most]⟩
  · rw [h]
    refine ⟨.inr (.inr rfl), by unfold Wr.Lacks; simp, by unfold Wr.Off; simp; omega, ?_, ?_⟩
    · show (if ((4 : Nat) : Int).toNat = 1 then 32 else _) ≤ _
      simp
    · show _ ≤ (if ((4 : Nat) : Int).toNat = 1 then 32 else _)
      simp
      omega
theorem make8_full (M : Nat) (hM : M ≤ 1000000) : ∀ W, (Instr.makeSlice 22 (.int .i64 (M : Int)) (.int .i64 (M : Int))).run Try.prog W = .ok (.slice (some ⟨W.heap.size, 0, none⟩) M M) (W.alloc (.cells (bcells (List.replicate M 0)).toArray 5)) := fun W => by
  obtain ⟨i, hi, hz0, hz1, hz2⟩ := info_u8
  have hr := run_make (P := Try.prog) W 22 5 i (.int .u8 0) Try.underlying22 hi hz0 .i64 .i64 M M (by omega) (by omega) (by rw [hz2]; omega) (by omega)
  simp only [Int.toNat_natCast, hz1, Nat.mul_one] at hr
  have e : (madeCells (Value.int .u8 0).cells M) = (bcells (List.replicate M 0)).toArray := by
    rw [bcells_zero, ← toList_madeCells_one]; rfl
  rw [e] at hr
  exact hr
theorem step_alloc (W : World) (o : Obj) : Below W.heap.size W (W.alloc o) := (Below.refl _ _).alloc (Nat.le_refl _) _
theorem below_alloc {g : Nat} {w W : World} (h : Below g w W) (hg : g ≤ w.heap.size) (o : Obj) : Below g w (W.alloc o) := h.alloc (Nat.le_trans hg h.size) o
theorem blk_at {W : World} {g : Nat} {t : TypeId} {xs : List Value} {o : Obj} (ho : o = .cells xs.toArray t) (hg : g = W.heap.size) : Blk (W.alloc o) g t xs := by
  subst ho hg
  exact Blk.new W t xs
theorem bytes_blk {w : World} {g B : Nat} {t : TypeId} {bs : List UInt8} (h : w.heap[g]? = some (.cells (bcells bs).toArray t (0, 0))) (hg : g < B) : BytesAt w B (some ⟨g, 0, none⟩) bs.length bs :=
  ⟨rfl, fun _ => ⟨g, 0, rfl, hg, fun i hi => by rw [Nat.zero_add, cell_of_row _ _ i _ _ _ h, List.getElem?_toArray, bcells_get bs i hi]⟩⟩

set_option maxRecDepth 10000 in
set_option maxHeartbeats 8000000 in
theorem keep_message_0 (k a b : Int) (s : ByteArray) (w : World) (k0 : -9223372036854775808 ≤ k) (k1 : k ≤ 9223372036854775807) (a0 : -9223372036854775808 ≤ a) (a1 : a ≤ 9223372036854775807) (_b0 : -9223372036854775808 ≤ b) (_b1 : b ≤ 9223372036854775807) (hp : pick k 3 = 0) :
    Calls Try.prog 16 #[rawV k a b s] w fun e w' => ∃ gb, e = .returned (messV (Wr.gk k) (Wr.gs k a) (Wr.gr k a b) (Wr.gc k b) (some ⟨gb, 0, none⟩) (Wr.gn k s) (Wr.gn k s)) ∧ BytesAt w' w'.heap.size (some ⟨gb, 0, none⟩) (Wr.gn k s) (Wr.gb k s) ∧ Below w.heap.size w w' := by
  have HK : Hid (∀ W, Calls Try.prog 18 #[.int .i64 k, .int .i64 3] W fun e w' => e = .returned (.int .i64 0) ∧ W = w') := Lib.hid (fun W => by
    have := keep_picked k 3 W k0 k1 (by decide) (by decide)
    rw [hp] at this
    exact this)
  have EK : Hid (Wr.gk k = 1 ∧ Wr.gs k a = pick a 4294967296 ∧ Wr.gr k a b = 0 ∧ Wr.gc k b = 0 ∧ Wr.gn k s = 32) := Lib.hid (by unfold Wr.gk Wr.gs Wr.gr Wr.gc Wr.gn; rw [hp]; exact ⟨rfl, rfl, rfl, rfl, rfl⟩)
  have EB := Lib.hid (show Wr.gb k s = s.data.toList.take (Wr.gn k s) ++ (List.replicate (Wr.gn k s) 0).drop s.size from rfl)
  have HS := Lib.hid (fun W => keep_picked a 4294967296 W a0 a1 (by decide) (by decide))
  have lS := pick_lt a 4294967296 (by decide)
  have hmk : ∀ W, (Instr.makeSlice 22 (.int .i64 32) (.int .i64 32)).run Try.prog W = .ok (.slice (some ⟨W.heap.size, 0, none⟩) 32 32) (W.alloc (.cells (bcells (List.replicate 32 0)).toArray 5)) := make8_full 32 (by decide)
  obtain ⟨Z, hZ⟩ : ∃ Z : Obj, Z = .cells (bcells (List.replicate 32 0)).toArray 5 := ⟨_, rfl⟩
  simp only [← hZ] at hmk
  have HZe := Lib.hid hZ
  clear hZ
  obtain ⟨g, hg⟩ : ∃ g, g = w.heap.size := ⟨_, rfl⟩
  obtain ⟨w4, hw4⟩ : ∃ w4, w4 = (((w.alloc (.cells #[.int .i64 k, .int .i64 a, .int .i64 b, .string s] 36)).alloc (.cells #[.int .i64 0, .int .i64 0, .int .i64 0, .int .i64 0, .slice none 0 0] 24)).alloc (.cells #[.int .i64 1, .int .i64 2, .int .i64 4] 3)).alloc (.cells #[.int .i64 1, .int .i64 0, .int .i64 0, .int .i64 0, .slice none 0 0] 24) := ⟨_, rfl⟩
  have z1 : (w.alloc (.cells #[.int .i64 k, .int .i64 a, .int .i64 b, .string s] 36)).heap.size = g + 1 := by rw [hg]; simp
  have z2 : ((w.alloc (.cells #[.int .i64 k, .int .i64 a, .int .i64 b, .string s] 36)).alloc (.cells #[.int .i64 0, .int .i64 0, .int .i64 0, .int .i64 0, .slice none 0 0] 24)).heap.size = g + 1 + 1 := by rw [hg]; simp
  have z3 : (((w.alloc (.cells #[.int .i64 k, .int .i64 a, .int .i64 b, .string s] 36)).alloc (.cells #[.int .i64 0, .int .i64 0, .int .i64 0, .int .i64 0, .slice none 0 0] 24)).alloc (.cells #[.int .i64 1, .int .i64 2, .int .i64 4] 3)).heap.size = g + 1 + 1 + 1 := by rw [hg]; simp
  have z4 : w4.heap.size = g + 1 + 1 + 1 + 1 := by rw [hw4, hg]; simp
  have hA : Below g w w4 := by rw [hw4, hg]; exact ((((Below.refl _ _).alloc (Nat.le_refl _) _).alloc (by simp) _).alloc (by simp; omega) _).alloc (by simp; omega) _
  have hR4 : Blk w4 g 36 [.int .i64 k, .int .i64 a, .int .i64 b, .string s] := by
    rw [hw4, hg]; exact (((Blk.new w 36 [.int .i64 k, .int .i64 a, .int .i64 b, .string s]).kept ((Below.refl _ _).alloc (Nat.le_refl _) _)).kept ((Below.refl _ _).alloc (Nat.le_refl _) _)).kept ((Below.refl _ _).alloc (Nat.le_refl _) _)
  have hP4 : Blk w4 (g + 1) 24 [.int .i64 0, .int .i64 0, .int .i64 0, .int .i64 0, .slice none 0 0] := by
    have := ((Blk.new (w.alloc (.cells #[.int .i64 k, .int .i64 a, .int .i64 b, .string s] 36)) 24 [.int .i64 0, .int .i64 0, .int .i64 0, .int .i64 0, .slice none 0 0]).kept ((Below.refl _ _).alloc (Nat.le_refl _) (.cells #[.int .i64 1, .int .i64 2, .int .i64 4] 3))).kept ((Below.refl _ _).alloc (Nat.le_refl _) (.cells #[.int .i64 1, .int .i64 0, .int .i64 0, .int .i64 0, .slice none 0 0] 24))
    rw [z1] at this
    rw [hw4]; exact this
  have hM4 : Blk w4 (g + 1 + 1 + 1) 24 [.int .i64 1, .int .i64 0, .int .i64 0, .int .i64 0, .slice none 0 0] := by
    have := Blk.new (((w.alloc (.cells #[.int .i64 k, .int .i64 a, .int .i64 b, .string s] 36)).alloc (.cells #[.int .i64 0, .int .i64 0, .int .i64 0, .int .i64 0, .slice none 0 0] 24)).alloc (.cells #[.int .i64 1, .int .i64 2, .int .i64 4] 3)) 24 [.int .i64 1, .int .i64 0, .int .i64 0, .int .i64 0, .slice none 0 0]
    rw [z3] at this
    rw [hw4]; exact this
  have HR4 := Lib.hid hR4
  have HP4 := Lib.hid hP4
  have HM4 := Lib.hid hM4
  have HA := Lib.hid hA
  have HW := Lib.hid hw4
  have HG := Lib.hid hg
  have Z4 := Lib.hid z4
  have h5 : 5 ≤ maxLen := by decide
  have H5 := Lib.hid h5
  clear hR4 hP4 hM4 hA hw4 hg z1 z2 z3 z4 h5 hp
  unfold rawV
  go_enter Try.func16, Try.ntmps16
  go_upto_region 1 with fail
  go_upto_region 2 with (go_at_call 18; refine (HK.out _).mono ?_; rintro e w' ⟨rfl, rfl⟩)
  rw [← HW.out, ← HG.out]
  obtain ⟨G, hG⟩ : ∃ G, G = g + 1 + 1 + 1 := ⟨_, rfl⟩
  rw [← hG] at HM4 Z4 ⊢
  have HGG := Lib.hid hG
  have m0 := HM4.out.cell 0 rfl
  have r1 := HR4.out.cell 1 rfl
  have r2 := HR4.out.cell 2 rfl
  have r3 := HR4.out.cell 3 rfl
  have hMd := HM4.out.kept (Below.refl w4.heap.size w4).drew
  have f1 := HM4.out.frozen H5.out 1
  have f2 := HM4.out.frozen H5.out 2
  have f3 := HM4.out.frozen H5.out 3
  have f4 := HM4.out.frozen H5.out 4
  have m1 := HM4.out.cell 1 rfl
  have m2 := HM4.out.cell 2 rfl
  have m3 := HM4.out.cell 3 rfl
  have m4 := HM4.out.cell 4 rfl
  have gG : g < G := by omega
  have gz : G < w4.heap.size := by have := Z4.out; omega
  have gz2 : g < w4.heap.size := by omega
  have gne : ¬ g = G := by omega
  have gne2 : ¬ G = g := by omega
  clear hG hMd
  obtain ⟨S, hS⟩ : ∃ S, S = pick a 4294967296 := ⟨_, rfl⟩
  rw [← hS] at HS lS EK
  have ES := Lib.hid hS
  clear hS
  go_upto_block 0 with fail
  go_cut [] (fun wx => ∃ gb, gb = w4.heap.size ∧ Hid (Blk wx gb 5 (bcells (List.replicate 32 0)) ∧ Blk wx G 24 [.int .i64 1, .int .i64 (S : Int), .int .i64 0, .int .i64 0, .slice (some ⟨gb, 0, none⟩) 32 32] ∧ Blk wx g 36 [.int .i64 k, .int .i64 a, .int .i64 b, .string s] ∧ Blk wx (g + 1) 24 [.int .i64 0, .int .i64 0, .int .i64 0, .int .i64 0, .slice none 0 0] ∧ Below g w wx ∧ G < wx.heap.size))
  case first =>
    go_upto_region 5 with fail
    go_region_with (first
      | (go_at_call_of 18 (Value.int IntKind.i64 a); refine (HS.out _).mono ?_; rintro e w' ⟨rfl, rfl⟩))
    all_goals
      go_wp2_with fail
      go_meet
      case rel =>
        have h5 := H5.out
        have hb0 := (Below.refl w4.heap.size w4).drew
        have hgw : g ≤ w.heap.size := by rw [HG.out]; exact Nat.le_refl _
        have hbA := HA.out.trans (hb0.mono (by omega))
        have nR : g ≠ G := by omega
        have nP : g + 1 ≠ G := by have := HGG.out; omega
        have nZ : w4.heap.size ≠ G := by omega
        have hGw : g ≤ G := by omega
        exact ⟨_, rfl, Lib.hid ⟨((blk_at HZe.out (by simp)).kept (Below.refl _ _).drew), ((((HM4.out.set h5 1 (.int .i64 (S : Int))).set h5 4 (.slice (some ⟨w4.heap.size, 0, none⟩) 32 32)).kept (step_alloc _ Z)).kept (Below.refl _ _).drew), ((((HR4.out.other (i := 1) nR (.int .i64 (S : Int))).other (i := 4) nR (.slice (some ⟨w4.heap.size, 0, none⟩) 32 32)).kept (step_alloc _ Z)).kept (Below.refl _ _).drew), ((((HP4.out.other (i := 1) nP (.int .i64 (S : Int))).other (i := 4) nP (.slice (some ⟨w4.heap.size, 0, none⟩) 32 32)).kept (step_alloc _ Z)).kept (Below.refl _ _).drew), ((below_alloc ((HA.out.setCell (p := ⟨G, 1, none⟩) hGw (.int .i64 (S : Int))).setCell (p := ⟨G, 4, none⟩) hGw (.slice (some ⟨w4.heap.size, 0, none⟩) 32 32)) hgw Z).drew), ((((HM4.out.set h5 1 (.int .i64 (S : Int))).set h5 4 (.slice (some ⟨w4.heap.size, 0, none⟩) 32 32)).kept (step_alloc _ Z)).kept (Below.refl _ _).drew).lt⟩⟩
  case rest =>
    obtain ⟨gb, hgb, HR⟩ := hcut
    obtain ⟨hZ, hM, hR, hP, hB, hGw⟩ := HR.out
    have hne1 : G ≠ gb := by omega
    have hne2 : g ≠ gb := by omega
    have hne3 : g + 1 ≠ gb := by have := HGG.out; omega
    have hgb2 : g ≤ gb := by omega
    have HgL := Lib.hid hgb2
    clear hgb
    have hcp := fun ty => copy_text wc gb 32 32 s (List.replicate 32 0) 5 ty hZ (List.length_replicate)
    have hgr := grown_set_row wc gb (bcells (s.data.toList.take 32 ++ (List.replicate 32 0).drop s.size)).toArray
    have hnew : (wc.setRow gb (bcells (s.data.toList.take 32 ++ (List.replicate 32 0).drop s.size)).toArray).heap[gb]? = some (.cells (bcells (s.data.toList.take 32 ++ (List.replicate 32 0).drop s.size)).toArray 5 (0, 0)) := setRow_heap wc gb _ _ 5 _ hZ
    obtain ⟨V, hV⟩ : ∃ V, V = wc.setRow gb (bcells (s.data.toList.take 32 ++ (List.replicate 32 0).drop s.size)).toArray := ⟨_, rfl⟩
    simp only [← hV] at hcp
    rw [← hV] at hgr hnew
    have hEB : s.data.toList.take 32 ++ (List.replicate 32 0).drop s.size = Wr.gb k s := by rw [EB.out, EK.out.2.2.2.2]
    rw [hEB] at hnew
    have hgw : g ≤ w.heap.size := by rw [HG.out]; exact Nat.le_refl _
    have HnewV := Lib.hid hnew
    have hMV := hM.beside hgr hne1
    have HPV := Lib.hid (hP.beside hgr hne3)
    have HBV := Lib.hid (below_row hB hgr (Nat.le_trans hgw hB.size) hgb2)
    have m4 := hM.cell 4 rfl
    have r3' := hR.cell 3 rfl
    have n0 := hMV.cell 0 rfl
    have n1 := hMV.cell 1 rfl
    have n2 := hMV.cell 2 rfl
    have n3 := hMV.cell 3 rfl
    have n4 := hMV.cell 4 rfl
    have HEB := Lib.hid hEB
    clear hV hgr hnew hMV hZ hM hR hP hB HR hEB r1 r2 r3 m0 m1 m2 m3 f1 f2 f3 f4
    go_wp2_with (refine wpL_storeBlk (o := ⟨none, _, _, _, _, _⟩) rfl 24 (.tmp 2) (.tmp 53) rfl (g + 1) _ [.int .i64 1, .int .i64 (S : Int), .int .i64 0, .int .i64 0, .slice (some ⟨gb, 0, none⟩) 32 32] rfl rfl HPV.out size_mess rfl rfl ?_)
    intro w11 hk11 hg11 hz11
    have HK11 := Lib.hid hk11
    have HB11 := Lib.hid (below_row HBV.out hg11 (Nat.le_trans hgw HBV.out.size) (by omega))
    have hb11 := (Blk.beside (show Blk V gb 5 (bcells (Wr.gb k s)) from HnewV.out) hg11 (by omega))
    have HY := Lib.hid (bytes_blk hb11 hb11.lt)
    clear hk11 hg11 hz11 hb11
    go_wp2
    refine bodyPost_ret (ret_cell1 (load_mess HK11.out rfl) Try.results16 rfl) rfl ⟨gb, ?_, ?_, ?_⟩
    · rw [EK.out.1, EK.out.2.1, EK.out.2.2.1, EK.out.2.2.2.1, EK.out.2.2.2.2]
      rfl
    · have := HY.out
      rw [Wr.gb_length] at this
      exact this
    · rw [← HG.out]
      exact HB11.out
end Go.Proofs.Ytfgkodgdoplpbab
