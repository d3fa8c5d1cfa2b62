/- What the listed variables give: Go's library's, and the landed code's table of kinds; a world for the witness. -/
import Derived.Shelf.Strings.OnBuilder
import Derived.Test.YthlagpmacnijfaaGreatDoorProg
import Derived.Test.YthlagpmacnijfaaGreatDoorSt01
import Derived.Test.YthlagpmacnijfaaGreatDoorLineMem
import Derived.Test.YthlagpmacnijfaaGreatDoorStructMem
import Derived.Laws.MakeOwn
import Derived.Laws.OwnMore
import Derived.Test.YthlagpmacnijfaaGreatDoorSt03
import Derived.Test.YthlagpmacnijfaaGreatDoorRows
import Derived.Test.YthlagpmacnijfaaGreatDoorMem
import Derived.ProofKit
import Derived.OpenShut
import Derived.ShutString
import Derived.ChangeOld
import Derived.Below
import Derived.SizedLaws
import Derived.Test.YthlagpmacnijfaaGreatDoorBatchMem
import Derived.Deep.SlicePairs
import Derived.Lib.SmallJoins
import Derived.Test.YthlagpmacnijfaaGreatDoorCards
import Derived.Test.YthlagpmacnijfaaGreatDoorTie
import Derived.Test.YthlagpmacnijfaaGreatDoorSt02
import Derived.Deep.DeepHandedRow
import Derived.Deep.DeepLaidRun
import Derived.Lib.LaidTab
import Derived.MakeChecks
import Derived.Stop.LaidErr
namespace Go.Proofs
open Go.Shelf
def Tryz.lays156_ren : Go.Shelf.Ren := ⟨fun | 156 => 42 | 165 => 67 | 166 => 68 | 169 => 69 | 240 => 91 | 241 => 92 | 276 => 109 | 277 => 110 | n => n, fun | 31 => 46 | 9 => 9 | 3 => 3 | 4 => 4 | 0 => 0 | 20 => 20 | 72 => 95 | 76 => 63 | 70 => 93 | 37 => 90 | 75 => 62 | 127 => 116 | 164 => 139 | 5 => 5 | 80 => 71 | n => n, fun | n => n⟩
theorem Tryz.lays156 : Go.Proofs.Lays.n156 Tryz.prog Tryz.lays156_ren := {
  mixed := by kernel_rfl
  f156 := Tryz.func42.trans (congrArg some (by kernel_rfl))
  f165 := Tryz.func67.trans (congrArg some (by kernel_rfl))
  f166 := Tryz.func68.trans (congrArg some (by kernel_rfl))
  f169 := Tryz.func69.trans (congrArg some (by kernel_rfl))
  f240 := Tryz.func91.trans (congrArg some (by kernel_rfl))
  f241 := Tryz.func92.trans (congrArg some (by kernel_rfl))
  f276 := Tryz.func109.trans (congrArg some (by kernel_rfl))
  f277 := Tryz.func110.trans (congrArg some (by kernel_rfl))
  t0 := Tryz.underlying0
  a0 := Tryz.isAgg0
  z0 := Tryz.sizeOf0
  v0 := Tryz.zeroValue0
  t3 := Tryz.underlying3
  a3 := Tryz.isAgg3
  z3 := Tryz.sizeOf3
  v3 := Tryz.zeroValue3
  t4 := Tryz.underlying4
  a4 := Tryz.isAgg4
  z4 := Tryz.sizeOf4
  v4 := Tryz.zeroValue4
  t9 := Tryz.underlying9
  a9 := Tryz.isAgg9
  z9 := Tryz.sizeOf9
  v9 := Tryz.zeroValue9
  t20 := Tryz.underlying20
  a20 := Tryz.isAgg20
  z20 := Tryz.sizeOf20
  v20 := Tryz.zeroValue20
  t31 := Tryz.underlying46
  a31 := Tryz.isAgg46
  z31 := Tryz.sizeOf46
  v31 := Tryz.zeroValue46
  t37 := Tryz.underlying90
  a37 := Tryz.isAgg90
  z37 := Tryz.sizeOf90
  v37 := Tryz.zeroValue90
  t70 := Tryz.underlying93
  a70 := Tryz.isAgg93
  z70 := Tryz.sizeOf93
  v70 := Tryz.zeroValue93
  t72 := Tryz.underlying95
  a72 := Tryz.isAgg95
  z72 := Tryz.sizeOf95
  v72 := Tryz.zeroValue95
  t75 := Tryz.underlying62
  a75 := Tryz.isAgg62
  z75 := Tryz.sizeOf62
  v75 := Tryz.zeroValue62
  t76 := Tryz.underlying63
  a76 := Tryz.isAgg63
  z76 := Tryz.sizeOf63
  v76 := Tryz.zeroValue63
  t127 := Tryz.underlying116
  a127 := Tryz.isAgg116
  z127 := Tryz.sizeOf116
  v127 := Tryz.zeroValue116
  t164 := Tryz.underlying139
  a164 := Tryz.isAgg139
  z164 := Tryz.sizeOf139
  v164 := Tryz.zeroValue139 }
theorem Tryz.Builder_Extra_156 : Builder.Extra Tryz.prog Tryz.lays156_ren := {
  sizeBuilder := by kernel_rfl
  liesBuilder := by kernel_rfl
  t5 := Tryz.underlying5
  a5 := Tryz.isAgg5
  z5 := Tryz.sizeOf5
  v5 := Tryz.zeroValue5
  infoByte := by kernel_rfl
  cellsByte := by kernel_rfl
  sizeByte := by kernel_rfl
  neB5 := by decide }
open Go.RowKit in
theorem Tryz.strings_Join (bk o c : Nat) (xs : List ByteArray) (sep : ByteArray) (w : World) (hcells : ∀ (j : Nat) x, xs[j]? = some x → w.cell? ⟨bk, o + j, none⟩ = some (.string x)) (hbk : bk < w.heap.size) (hN : xs.length ≤ 140737488355328) (hcap : xs.length ≤ c) (hlen : (Lib.join (xs.map (·.data.toList)) sep.data.toList).length ≤ 140737488355328) :
    Calls Tryz.prog 42 #[.slice (some ⟨bk, o, none⟩) xs.length c, .string sep] w fun e w' => e = .returned (.string ⟨(Lib.join (xs.map (·.data.toList)) sep.data.toList).toArray⟩) ∧ Below w.heap.size w w' := Any.strings_Join Tryz.lays156 Tryz.Builder_Extra_156 bk o c xs sep w hcells hbk hN hcap hlen
end Go.Proofs

namespace Go.Proofs.YthlagpmacnijfaaGreatDoor
open Go.RowKit

theorem step_alloc_line (W : World) (xk xv : ByteArray) : Below W.heap.size W (W.alloc (.cells #[.string xk, .string xv] 23)) := (Below.refl _ _).alloc (Nat.le_refl _) _
theorem line_text (x : Ln.L) : x.k ++ (⟨#[61]⟩ : ByteArray) ++ x.v = Ln.ofT (Ln.lineT x) := by
  apply WideShapes.bytes_inj
  simp only [ByteArray.data_append, Array.toList_append, Ln.ofT_data]
  unfold Ln.lineT
  simp
theorem lib_JoinLines (l : List Ln.L) (w : World) (g : Nat) (hg : Blk w g 9 ((l.map fun x => Ln.ofT (Ln.lineT x)).map Value.string)) (hl : ∀ x ∈ l, Ln.err x = 0) (h60 : l.length ≤ 60) :
    Calls Tryz.prog 42 #[.slice (some ⟨g, 0, none⟩) l.length l.length, .string ⟨#[10]⟩] w fun e w' => e = .returned (.string (Ln.ofT (Ln.jText l))) ∧ Below w.heap.size w w' := by
  have hm : (l.map fun x => Ln.ofT (Ln.lineT x)).map (·.data.toList) = l.map Ln.lineT := by rw [List.map_map]; rfl
  have hjl : Lib.join ((l.map fun x => Ln.ofT (Ln.lineT x)).map (·.data.toList)) (⟨#[10]⟩ : ByteArray).data.toList = Ln.jText l := by
    rw [hm]; exact join_glue 10 _
  have hlen : (Ln.jText l).length ≤ 60 * 102 := by
    have h1 := Ln.glue_length 10 101 (l.map Ln.lineT) (by
      intro p hp
      obtain ⟨x, hx, rfl⟩ := List.mem_map.1 hp
      have := (Ln.err_zero (hl x hx)).1
      rw [Ln.lineT_length]; omega)
    rw [List.length_map] at h1
    have h2 : l.length * (101 + 1) ≤ 60 * 102 := by omega
    exact Nat.le_trans h1 h2
  have h := Tryz.strings_Join g 0 l.length (l.map fun x => Ln.ofT (Ln.lineT x)) ⟨#[10]⟩ w (by
    intro j x hx
    rw [Nat.zero_add]
    refine hg.cell j ?_
    rw [List.getElem?_map, hx]; rfl) hg.lt (by rw [List.length_map]; omega) (by rw [List.length_map]; exact Nat.le_refl _) (by rw [hjl]; omega)
  rw [hjl, List.length_map] at h
  exact h

set_option maxRecDepth 20000 in
set_option maxHeartbeats 1600000 in
theorem line_Join (a : Option Addr) (n c : Nat) (l : List Ln.L) (w : World) (h : LinesAt w w.heap.size a n l) :
    Calls Tryz.prog 23 #[.slice a n c] w fun e w' => e = .returned (.tuple #[.string (Ln.ofT (Ln.jOut l)), .int .i64 (Ln.jErr l : Int)]) ∧ Below w.heap.size w w' := by
  have hl := h.1
  have H := Lib.hid h
  clear h
  by_cases h60 : 60 < n
  · have Hr : Hid (Ln.jErr l = 1 ∧ Ln.jOut l = []) := Lib.hid (by
      have e : Ln.jErr l = 1 := by unfold Ln.jErr; rw [if_pos (by omega)]
      exact ⟨e, by unfold Ln.jOut; rw [if_neg (by rw [e]; decide)]⟩)
    go_enter Tryz.func23, Tryz.ntmps23
    go_wp2
    go_ret2
    rw [Hr.out.1, Hr.out.2]
    exact ⟨rfl, Below.refl _ _⟩
  · have hmk := make_texts n (by omega)
    obtain ⟨w1, hw1⟩ : ∃ w1, w1 = w.alloc (.cells (tcells [] n).toArray 9) := ⟨_, rfl⟩
    have HB := Lib.hid (show Below w.heap.size w w1 by rw [hw1]; exact (Below.refl _ _).alloc (Nat.le_refl _) _)
    have HT := Lib.hid (show Blk w1 w.heap.size 9 (tcells [] n) by rw [hw1]; exact Blk.new _ _ _)
    have Hl := Lib.hid hl
    have hfit : (n : Int) ≤ 60 := by omega
    go_enter Tryz.func23, Tryz.ntmps23
    go_wp2
    rw [← hw1]
    clear hmk hw1
    go_loopw [17] (fun i wr => ∃ k : Nat, k ≤ n ∧ i = .int .i64 k ∧ Hid (∀ x ∈ l.take k, Ln.err x = 0) ∧ Hid (Blk wr w.heap.size 9 (tcells ((l.take k).map fun x => Ln.ofT (Ln.lineT x)) n)) ∧ Hid (Below w.heap.size w wr)) (fun i _ => n - (intOf i).toNat)
    case atStart => exact ⟨0, Nat.zero_le _, rfl, Lib.hid (fun x hx => by simp at hx), Lib.hid (by simpa using HT.out), HB⟩
    case round =>
      obtain ⟨k, hk, rfl, Ha, Hb, HBr⟩ := hrel
      obtain ⟨wo, hwo⟩ : ∃ wo, wo = wr := ⟨_, rfl⟩
      subst hwo
      by_cases hlt : k < n
      · obtain ⟨b, off, rfl, hbl, hc⟩ := (H.out.below HBr.out).2 (by omega)
        have hkl : k < l.length := by omega
        obtain ⟨c0, c1⟩ := hc k hkl
        have Ht : Hid (l.take (k + 1) = l.take k ++ [l[k]]) := Lib.hid (List.take_succ_eq_append_getElem hkl)
        have Hf := Lib.hid (fun he => Ln.fault_at l k hkl Ha.out he)
        have Htl : Hid (((l.take k).map fun x => Ln.ofT (Ln.lineT x)).length = k) := Lib.hid (by rw [List.length_map, List.length_take]; omega)
        have hsz := HBr.out.size
        clear hc
        generalize l[k] = x at *
        have HC := Lib.hid (fun W => line_Check x W)
        obtain ⟨xk, xv⟩ := x
        unfold lineV at HC
        by_cases he : Ln.err ⟨xk, xv⟩ = 0
        · have Hz := Lib.hid (Ln.err_zero he)
          rw [he] at HC
          have Hx := Lib.hid he
          have HL := Lib.hid (line_text ⟨xk, xv⟩)
          have s1 : xk.size ≤ 30 := Hz.out.1.2.1
          have s2 : xv.size ≤ 70 := Hz.out.1.2.2
          clear he Hf
          go_wp2_with fail
          refine (HC.out _).mono ?_
          rintro e w2 ⟨rfl, hb2⟩
          have hA := step_alloc_line wo xk xv
          have hnew := (Blk.new wo 23 [.string xk, .string xv]).kept hb2
          have n0 := hnew.cell 0 rfl
          have n1 := hnew.cell 1 rfl
          have hgl := Hb.out.lt
          have hbk := ((Hb.out.kept hA).kept hb2)
          have ht0 := hbk.cell k (by have := tcells_old ((l.take k).map fun x => Ln.ofT (Ln.lineT x)) n (by rw [Htl.out]; exact hlt); rwa [Htl.out] at this)
          have ht1 := hbk.frozen (by rw [tcells_length _ _ (by rw [Htl.out]; exact hk)]; unfold maxLen; omega) k
          have Hset := Lib.hid (fun u => hbk.set (by rw [tcells_length _ _ (by rw [Htl.out]; exact hk)]; unfold maxLen; omega) k u)
          have HB2 := Lib.hid ((HBr.out.trans (hA.mono hsz)).trans (hb2.mono (Nat.le_trans hsz hA.size)))
          clear hnew hbk hA hb2 HC c0 c1
          have Hn := Lib.hid (show ∀ y ∈ l.take (k + 1), Ln.err y = 0 by
            intro y hy
            rw [Ht.out] at hy
            rcases List.mem_append.1 hy with hy | hy
            · exact Ha.out y hy
            · rw [List.mem_singleton.1 hy]; exact Hx.out)
          have Hs := Lib.hid (show (tcells ((l.take k).map fun x => Ln.ofT (Ln.lineT x)) n).set k (.string (xk ++ (⟨#[61]⟩ : ByteArray) ++ xv)) = tcells ((l.take (k + 1)).map fun x => Ln.ofT (Ln.lineT x)) n by
            have e := tcells_set ((l.take k).map fun x => Ln.ofT (Ln.lineT x)) n (by rw [Htl.out]; exact hlt) (xk ++ (⟨#[61]⟩ : ByteArray) ++ xv)
            rw [Htl.out] at e
            rw [e, Ht.out, List.map_append, List.map_singleton, ← HL.out])
          clear Ha Hx Htl Ht
          go_wp2
          go_roundw
          case rel => exact ⟨k + 1, by omega, by go_num, Hn, Lib.hid (by rw [← Hs.out]; exact Hset.out _), Lib.hid (HB2.out.setCell (Nat.le_refl _) _)⟩
          case measure => simp [intOf]; omega
        · have Hr : Hid (Ln.jErr l = Ln.err ⟨xk, xv⟩ ∧ Ln.jOut l = []) := Lib.hid (by
            have e : Ln.jErr l = Ln.err ⟨xk, xv⟩ := by
              unfold Ln.jErr
              rw [if_neg (by omega), if_pos (by rw [Hf.out he]; exact he), Hf.out he]
            exact ⟨e, by unfold Ln.jOut; rw [if_neg (by rw [e]; exact he)]⟩)
          have hn : ((Ln.err ⟨xk, xv⟩ : Int) != 0) = true := by simpa using he
          clear he Hf
          generalize Ln.err ⟨xk, xv⟩ = r at *
          go_wp2_with fail
          refine (HC.out _).mono ?_
          rintro e w2 ⟨rfl, hb2⟩
          have HB2 := Lib.hid ((HBr.out.trans ((step_alloc_line wo xk xv).mono hsz)).trans (hb2.mono (Nat.le_trans hsz (step_alloc_line wo xk xv).size)))
          clear hb2 HC c0 c1
          go_wp2
          go_ret2
          rw [Hr.out.1, Hr.out.2]
          exact ⟨rfl, HB2.out⟩
      · obtain rfl : k = n := by omega
        have htk : l.take k = l := List.take_of_length_le (by omega)
        rw [htk] at Ha Hb
        rw [tcells_full _ k (by rw [List.length_map]; exact Hl.out)] at Hb
        have HJ := Lib.hid (lib_JoinLines l wo w.heap.size Hb.out Ha.out (by omega))
        rw [Hl.out] at HJ
        have Hf := Lib.hid (Ln.fault_good l Ha.out)
        have hz : (Ln.ofT (Ln.jText l)).size = (Ln.jText l).length := by simp [Ln.ofT, ByteArray.size]
        by_cases h3 : 3000 < (Ln.jText l).length
        · have Hr : Hid (Ln.jErr l = 1 ∧ Ln.jOut l = []) := Lib.hid (by
            have e : Ln.jErr l = 1 := by unfold Ln.jErr; rw [if_neg (by omega), if_neg (by rw [Hf.out]; decide), if_pos h3]
            exact ⟨e, by unfold Ln.jOut; rw [if_neg (by rw [e]; decide)]⟩)
          rw [← hz] at h3
          have d3 : decide ((3000 : Int) < ((Ln.ofT (Ln.jText l)).size : Int)) = true := decide_eq_true (by omega)
          clear hz h3
          generalize Ln.ofT (Ln.jText l) = T at *
          go_wp2_with fail
          refine HJ.out.mono ?_
          rintro e w2 ⟨rfl, hb2⟩
          have HB2 := Lib.hid (HBr.out.trans (hb2.mono HBr.out.size))
          clear hb2 HJ
          go_wp2
          go_ret2
          rw [Hr.out.1, Hr.out.2]
          exact ⟨rfl, HB2.out⟩
        · have Hr : Hid (Ln.jErr l = 0 ∧ Ln.jOut l = Ln.jText l) := Lib.hid (by
            have e : Ln.jErr l = 0 := by unfold Ln.jErr; rw [if_neg (by omega), if_neg (by rw [Hf.out]; decide), if_neg h3]
            exact ⟨e, by unfold Ln.jOut; rw [if_pos e]⟩)
          rw [← hz] at h3
          have d3 : decide ((3000 : Int) < ((Ln.ofT (Ln.jText l)).size : Int)) = false := decide_eq_false (by omega)
          clear hz h3
          generalize hT : Ln.ofT (Ln.jText l) = T at *
          have HT := Lib.hid hT
          clear hT
          go_wp2_with fail
          refine HJ.out.mono ?_
          rintro e w2 ⟨rfl, hb2⟩
          have HB2 := Lib.hid (HBr.out.trans (hb2.mono HBr.out.size))
          clear hb2 HJ
          go_wp2
          go_ret2
          rw [Hr.out.1, Hr.out.2, HT.out]
          exact ⟨rfl, HB2.out⟩
end Go.Proofs.YthlagpmacnijfaaGreatDoor

namespace Go.Proofs.YthlagpmacnijfaaGreatDoor
open Go.RowKit

/-- The cells of n lines, the first ones written. -/
def lcells (done : List Ln.L) (n : Nat) : List Value := Ln.linesC done ++ List.replicate ((n - done.length) * 2) (.string ⟨#[]⟩)
theorem lcells_length (done : List Ln.L) (n : Nat) (h : done.length ≤ n) : (lcells done n).length = n * 2 := by unfold lcells; rw [List.length_append, Ln.linesC_length, List.length_replicate]; omega
theorem lcells_old (done : List Ln.L) (n : Nat) (h : done.length < n) : (lcells done n)[done.length * 2]? = some (.string ⟨#[]⟩) ∧ (lcells done n)[done.length * 2 + 1]? = some (.string ⟨#[]⟩) := by
  unfold lcells
  rw [List.getElem?_append_right (by rw [Ln.linesC_length]; exact Nat.le_refl _), List.getElem?_append_right (by rw [Ln.linesC_length]; omega), Ln.linesC_length, List.getElem?_replicate, List.getElem?_replicate, if_pos (by omega), if_pos (by omega)]
  exact ⟨rfl, rfl⟩
theorem lcells_set (done : List Ln.L) (n : Nat) (h : done.length < n) (x : Ln.L) : ((lcells done n).set (done.length * 2) (.string x.k)).set (done.length * 2 + 1) (.string x.v) = lcells (done ++ [x]) n := by
  unfold lcells
  rw [List.set_append_right (h := by rw [Ln.linesC_length]; exact Nat.le_refl _), List.set_append_right (h := by rw [Ln.linesC_length]; omega), Ln.linesC_length, Nat.sub_self, show done.length * 2 + 1 - done.length * 2 = 1 by omega, Ln.linesC_append, List.append_assoc]
  congr 1
  obtain ⟨m, hm⟩ : ∃ m, n - done.length = m + 1 := ⟨n - done.length - 1, by omega⟩
  rw [hm, show (m + 1) * 2 = m * 2 + 1 + 1 by omega, List.replicate_succ, List.replicate_succ, List.set_cons_zero, List.set_cons_succ, List.set_cons_zero, List.length_append, List.length_singleton]
  rw [show n - (done.length + 1) = m by omega]
  rfl
theorem lcells_full (done : List Ln.L) (n : Nat) (h : done.length = n) : lcells done n = Ln.linesC done := by
  unfold lcells
  rw [show n - done.length = 0 by omega]
  simp
theorem made_two (a : Value) (n : Nat) : madeCells #[a, a] n = (List.replicate n a).toArray := by
  apply Array.toList_inj.1
  apply List.ext_getElem?
  intro j
  unfold madeCells
  by_cases hj : j < n
  · have hm : j % 2 = 0 ∨ j % 2 = 1 := by omega
    simp only [Array.toList_map, List.getElem?_map, Array.toList_range, List.getElem?_range hj, Option.map_some, List.getElem?_replicate, hj, if_true]
    have h2 : (#[a, a] : Array Value).size = 2 := rfl
    rw [h2]
    rcases hm with h | h <;> rw [h] <;> rfl
  · simp [hj]
theorem make_lines (n : Nat) (hn : n ≤ 2000000) : ∀ W, (Instr.makeSlice 52 (.int .i64 (n : Int)) (.int .i64 (n : Int))).run Tryz.prog W = .ok (.slice (some ⟨W.heap.size, 0, none⟩) n n) (W.alloc (.cells (lcells [] n).toArray 23)) := fun W => by
  obtain ⟨i, hi, hz0, hz1, hz2⟩ := info_line
  have hr := run_make (P := Tryz.prog) W 52 23 i _ Tryz.underlying52 hi hz0 .i64 .i64 n n (by omega) (by omega) (by rw [hz2]; omega) (by omega)
  simp only [Int.toNat_natCast, hz1] at hr
  have e : madeCells (Value.agg #[Value.string ByteArray.empty, Value.string ByteArray.empty]).cells (n * 2) = (lcells [] n).toArray := by
    show madeCells #[Value.string ByteArray.empty, Value.string ByteArray.empty] (n * 2) = _
    rw [made_two]
    rfl
  rw [e] at hr
  exact hr
theorem Blk.set_at {w : World} {g : Nat} {t : TypeId} {done : List Ln.L} {n k : Nat} (h : Blk w g t (lcells done n)) (hn : n ≤ 2000000) (hk : done.length = k) (hlt : k < n) (x : Ln.L) :
    Blk ((w.setCell ⟨g, k * 2, none⟩ (.string x.k)).setCell ⟨g, k * 2 + 1, none⟩ (.string x.v)) g t (lcells (done ++ [x]) n) ∧ w.cell? ⟨g, k * 2, none⟩ = some (.string ⟨#[]⟩) ∧ w.cell? ⟨g, k * 2 + 1, none⟩ = some (.string ⟨#[]⟩) ∧ w.frozen? ⟨g, k * 2, none⟩ = false ∧ w.frozen? ⟨g, k * 2 + 1, none⟩ = false := by
  subst hk
  have hm : (lcells done n).length ≤ maxLen := by rw [lcells_length _ _ (by omega)]; unfold maxLen; omega
  have h1 := h.set hm (done.length * 2) (.string x.k)
  have h2 := h1.set (by rw [List.length_set]; exact hm) (done.length * 2 + 1) (.string x.v)
  rw [lcells_set done n hlt x] at h2
  exact ⟨h2, h.cell _ (lcells_old done n hlt).1, h.cell _ (lcells_old done n hlt).2, h.frozen hm _, h.frozen hm _⟩
theorem lines_blk {w : World} {g : Nat} {l : List Ln.L} {t : TypeId} {n : Nat} (h : Blk w g t (lcells l n)) (hl : l.length = n) : LinesAt w w.heap.size (some ⟨g, 0, none⟩) n l := by
  rw [lcells_full l n hl] at h
  have := lines_of_row h
  rwa [hl] at this
end Go.Proofs.YthlagpmacnijfaaGreatDoor

namespace Go.Proofs.YthlagpmacnijfaaGreatDoor
open Go.RowKit

set_option maxRecDepth 20000 in
set_option maxHeartbeats 8000000 in
theorem batch_Print (a : Option Addr) (n c : Nat) (l : List Bt.S) (w : World) (h : SetsAt w w.heap.size a n l) (hn : n ≤ 2000000) (hok : SetsOk l) (hT : BTabs w) :
    Calls Tryz.prog 11 #[.slice a n c] w fun e w' => e = .returned (.tuple #[.string (Ln.ofT (Bt.tOut l)), .int .i64 (Bt.tErr l : Int)]) ∧ Below w.heap.size w w' := by
  have Hn : Hid (l.length = n) := Lib.hid h.1
  have H := Lib.hid h
  have Hok := Lib.hid hok
  have HT := Lib.hid hT
  have hmk := make_lines n hn
  have HE := Lib.hid (fun k hk ha hne => Bt.fault_at l k hk ha hne)
  have HG := Lib.hid (fun hall => Bt.fault_good l hall)
  have HTe : Hid (Bt.fault l ≠ 0 → Bt.tErr l = Bt.fault l ∧ Bt.tOut l = []) := Lib.hid (fun hf => by
    have : Bt.tErr l = Bt.fault l := by unfold Bt.tErr; rw [if_pos hf]
    exact ⟨this, by unfold Bt.tOut; rw [this, if_neg hf]⟩)
  have HTo : Hid (Bt.fault l = 0 → Bt.tErr l = Ln.jErr (l.map Bt.line) ∧ Bt.tOut l = Ln.jOut (l.map Bt.line)) := Lib.hid (fun hf => by
    have : Bt.tErr l = Ln.jErr (l.map Bt.line) := by unfold Bt.tErr; rw [if_neg (by omega)]
    exact ⟨this, by unfold Bt.tOut Ln.jOut; rw [this]⟩)
  obtain ⟨TO, hTO⟩ : ∃ TO, TO = Bt.tOut l := ⟨_, rfl⟩
  obtain ⟨TE, hTE⟩ : ∃ TE, TE = Bt.tErr l := ⟨_, rfl⟩
  rw [← hTO, ← hTE]
  rw [← hTO, ← hTE] at HTe HTo
  clear h hok hT hTO hTE
  obtain ⟨w2, hw2⟩ : ∃ w2, w2 = w.alloc (.cells (lcells [] n).toArray 23) := ⟨_, rfl⟩
  have HB2 := Lib.hid (show Below w.heap.size w w2 by rw [hw2]; exact (Below.refl _ _).alloc (Nat.le_refl _) _)
  have HG2 := Lib.hid (show Blk w2 w.heap.size 23 (lcells [] n) by rw [hw2]; exact Blk.new _ _ _)
  go_enter Tryz.func11, Tryz.ntmps11
  go_wp2
  rw [← hw2]
  clear hmk hw2
  go_loopw [14] (fun i wr => ∃ k : Nat, k ≤ n ∧ i = .int .i64 (k : Int) ∧ Hid (∀ x ∈ l.take k, Bt.err x = 0) ∧ Hid (Blk wr w.heap.size 23 (lcells ((l.take k).map Bt.line) n)) ∧ Hid (Below w.heap.size w wr)) (fun i _ => n - (intOf i).toNat)
  case atStart => exact ⟨0, Nat.zero_le _, rfl, Lib.hid (fun x hx => by simp at hx), Lib.hid (by simpa using HG2.out), HB2⟩
  case round =>
    obtain ⟨k, hk, rfl, Ha, Hbk, HBr⟩ := hrel
    obtain ⟨wo, hwo⟩ : ∃ wo, wo = wr := ⟨_, rfl⟩
    subst hwo
    have hsz := HBr.out.size
    by_cases hlt : k < n
    · have hll : k < l.length := by have := Hn.out; omega
      obtain ⟨b, off, rfl, hbl, hc⟩ := (H.out.below HBr.out).2 (by omega)
      obtain ⟨c0, c1, c2, c3, c4⟩ := hc k hll
      have Ht : Hid (l.take (k + 1) = l.take k ++ [l[k]]) := Lib.hid (List.take_succ_eq_append_getElem hll)
      have Htl : Hid (((l.take k).map Bt.line).length = k) := Lib.hid (by rw [List.length_map, List.length_take]; omega)
      have Hf := Lib.hid (HE.out k hll Ha.out)
      obtain ⟨k1, k2, k3, k4⟩ := Hok.out _ (List.getElem_mem hll)
      clear hc
      generalize l[k] = x at *
      have HLn := Lib.hid (fun W hW => batch_Line x W k1 k2 k3 k4 (HT.out.below hW))
      have Hm : Hid ((l.take (k + 1)).map Bt.line = (l.take k).map Bt.line ++ [Bt.line x]) := Lib.hid (by rw [Ht.out, List.map_append, List.map_singleton])
      have Hn1 := Lib.hid (fun (he : Bt.err x = 0) => show ∀ y ∈ l.take (k + 1), Bt.err y = 0 by
        intro y hy
        rw [Ht.out] at hy
        rcases List.mem_append.1 hy with hy | hy
        · exact Ha.out y hy
        · rw [List.mem_singleton.1 hy]; exact he)
      clear k1 k2 k3 k4
      generalize (l.take k).map Bt.line = D at *
      generalize Bt.line x = L at *
      obtain ⟨X, Y⟩ := L
      by_cases he : Bt.err x = 0
      · have Hall := Lib.hid (Hn1.out he)
        rw [he] at HLn
        clear he Hf Hn1 Ha
        obtain ⟨sk, st, sn, sa, sb⟩ := x
        unfold lineV setV at HLn
        obtain ⟨w3, hw3⟩ : ∃ w3, w3 = wo.alloc (.cells #[.int .i64 sk, .string st, .int .i64 sn, .int .u32 (sa : Int), .int .i64 sb] 28) := ⟨_, rfl⟩
        have hA3 : Below wo.heap.size wo w3 := by rw [hw3]; exact (Below.refl _ _).alloc (Nat.le_refl _) _
        have hM3 := show Blk w3 wo.heap.size 28 [.int .i64 sk, .string st, .int .i64 sn, .int .u32 (sa : Int), .int .i64 sb] by rw [hw3]; exact Blk.new _ _ _
        have HB3 := Lib.hid (HBr.out.trans (hA3.mono hsz))
        have HG3 := Lib.hid (Hbk.out.kept hA3)
        obtain ⟨⟨s0, s1, s2, s3, s4⟩, -⟩ := hM3.facts5
        simp only at c0 c1 c2 c3 c4
        clear hA3 hM3
        go_upto_region 5 with fail
        rw [← hw3]
        clear hw3 c0 c1 c2 c3 c4
        go_wp2_with fail
        refine (HLn.out w3 HB3.out).mono ?_
        rintro e w4 ⟨rfl, hb4⟩
        have hg4 := HG3.out.kept hb4
        obtain ⟨hset, q0, q1, f0, f1⟩ := hg4.set_at hn Htl.out hlt ⟨X, Y⟩
        rw [← Hm.out] at hset
        have hgl4 := hg4.lt
        have HB4 := Lib.hid (HB3.out.trans (hb4.mono HB3.out.size))
        have Hset := Lib.hid hset
        clear hset hg4 hb4 s0 s1 s2 s3 s4
        go_wp2
        go_roundw
        case rel =>
          have hB5 := (HB4.out.setCell (p := ⟨w.heap.size, k * 2, none⟩) (Nat.le_refl _) (.string X)).setCell (p := ⟨w.heap.size, k * 2 + 1, none⟩) (Nat.le_refl _) (.string Y)
          exact ⟨k + 1, by omega, by go_num, Hall, Lib.hid (Hset.out.kept ((Below.refl _ _).alloc (Nat.le_refl _) _)), Lib.hid (hB5.alloc hB5.size _)⟩
        case measure => simp [intOf]; omega
      · have hfl : Bt.fault l = Bt.err x := Hf.out he
        obtain ⟨r1, r2⟩ := HTe.out (by rw [hfl]; exact he)
        rw [hfl] at r1
        have R1 := Lib.hid r1
        have R2 := Lib.hid r2
        have hne : ((Bt.err x : Int) != 0) = true := by simpa using he
        clear he Hf Hn1 Ha hfl r1 r2
        generalize Bt.err x = r at *
        obtain ⟨sk, st, sn, sa, sb⟩ := x
        unfold lineV setV at HLn
        obtain ⟨w3, hw3⟩ : ∃ w3, w3 = wo.alloc (.cells #[.int .i64 sk, .string st, .int .i64 sn, .int .u32 (sa : Int), .int .i64 sb] 28) := ⟨_, rfl⟩
        have hA3 : Below wo.heap.size wo w3 := by rw [hw3]; exact (Below.refl _ _).alloc (Nat.le_refl _) _
        have hM3 := show Blk w3 wo.heap.size 28 [.int .i64 sk, .string st, .int .i64 sn, .int .u32 (sa : Int), .int .i64 sb] by rw [hw3]; exact Blk.new _ _ _
        have HB3 := Lib.hid (HBr.out.trans (hA3.mono hsz))
        obtain ⟨⟨s0, s1, s2, s3, s4⟩, -⟩ := hM3.facts5
        simp only at c0 c1 c2 c3 c4
        clear hA3 hM3
        go_upto_region 5 with fail
        rw [← hw3]
        clear hw3 c0 c1 c2 c3 c4
        go_wp2_with fail
        refine (HLn.out w3 HB3.out).mono ?_
        rintro e w4 ⟨rfl, hb4⟩
        have HB4 := Lib.hid (HB3.out.trans (hb4.mono HB3.out.size))
        have HB5 := Lib.hid (HB4.out.alloc HB4.out.size (.cells #[.string X, .string Y] 23))
        clear hb4 s0 s1 s2 s3 s4
        go_wp2
        go_ret2
        exact ⟨by rw [R1.out, R2.out]; rfl, HB5.out⟩
    · obtain rfl : k = n := by omega
      have htk : l.take k = l := List.take_of_length_le (by have := Hn.out; omega)
      rw [htk] at Ha Hbk
      obtain ⟨r1, r2⟩ := HTo.out (HG.out Ha.out)
      have HL := lines_blk Hbk.out (by rw [List.length_map]; exact Hn.out)
      have HJ := Lib.hid (line_Join _ k k _ wo HL)
      rw [← r1, ← r2] at HJ
      clear htk r1 r2 HL Hbk
      go_wp2_with fail
      refine HJ.out.mono ?_
      rintro e w3 ⟨rfl, hb3⟩
      have HBf := Lib.hid (HBr.out.trans (hb3.mono hsz))
      clear hb3
      go_wp2
      go_ret2
      exact ⟨rfl, HBf.out⟩
end Go.Proofs.YthlagpmacnijfaaGreatDoor

namespace Go.Proofs.YthlagpmacnijfaaGreatDoor
open Go.ChangeShapes Go.WideShapes Go.ChangeAt Go.RowKit

theorem own_knob : ownKnob Tryz.prog.godebug = none := by kernel_rfl
theorem laid_out : laidOutB Tryz.prog = true := by kernel_rfl

theorem lt_of_cell {w : World} {a : Addr} {v : Value} (h : w.cell? a = some v) : a.block < w.heap.size := by
  rcases Nat.lt_or_ge a.block w.heap.size with hlt | hge
  · exact hlt
  · simp [World.cell?, Array.getElem?_eq_none hge] at h

theorem byte_wf {n : Int} (h : (Lit.int .u8 n).wf = true) : ((UInt8.ofNat n.toNat).toNat : Int) = n := by
  have hb := bounds_u8 h
  rw [UInt8.toNat_ofNat', Nat.mod_eq_of_lt (by omega)]
  omega
end Go.Proofs.YthlagpmacnijfaaGreatDoor

namespace Go.Proofs.YthlagpmacnijfaaGreatDoor
open Go.ChangeShapes Go.WideShapes Go.ChangeAt Go.RowKit Go.Deep

/-- A setting as a datum. -/
def setD {H : Type} (s : Bt.S) : DataW H := .agg [.lit (.int .i64 s.k), .lit (.string s.t.data.toList), .lit (.int .i64 s.n), .agg [.lit (.int .u32 (s.a : Int)), .lit (.int .i64 s.b)]]
def SetBounds (s : Bt.S) : Prop := s.a < 4294967296 ∧ -9223372036854775808 ≤ s.n ∧ s.n ≤ 9223372036854775807
theorem cells_set : Tryz.prog.cellsOf 28 = 5 := by kernel_rfl
set_option maxRecDepth 100000 in
theorem open_set5 {H : Type} {enc : TypeId × Value → H} {W : World} {n : Nat} {cs : List Value} {x : DataW H × List MemPlace} (hl : cs.length = 5)
    (h : DataW.trod enc Tryz.prog W 0 (fun _ => true) true n 28 cs = some x) : ∃ s : Bt.S, cs = Bt.setC s ∧ SetBounds s ∧ x.1 = setD s := by
  obtain ⟨xs, m, _, rfl, _, hxl, hf⟩ := DataW.trod_struct Tryz.underlying28 h
  match xs, hxl, cs, hl with
  | [y0, y1, y2, y3], _, [v0, v1, v2, v3, v4], _ =>
    have g0 := hf 0 _ rfl
    have g1 := hf 1 _ rfl
    have g2 := hf 2 _ rfl
    have g3 := hf 3 _ rfl
    change DataW.trod enc Tryz.prog W 0 (fun _ => true) true m 3 [v0] = some y0 at g0
    change DataW.trod enc Tryz.prog W 0 (fun _ => true) true m 9 [v1] = some y1 at g1
    change DataW.trod enc Tryz.prog W 0 (fun _ => true) true m 3 [v2] = some y2 at g2
    change DataW.trod enc Tryz.prog W 0 (fun _ => true) true m 26 [v3, v4] = some y3 at g3
    obtain ⟨zs, k, _, rfl, _, hzl, hz⟩ := DataW.trod_struct Tryz.underlying26 g3
    match zs, hzl with
    | [z0, z1], _ =>
      have q0 := hz 0 _ rfl
      have q1 := hz 1 _ rfl
      change DataW.trod enc Tryz.prog W 0 (fun _ => true) true k 24 [v3] = some z0 at q0
      change DataW.trod enc Tryz.prog W 0 (fun _ => true) true k 3 [v4] = some z1 at q1
      obtain ⟨kk, e0, rfl, _⟩ := DataW.trod_int Tryz.underlying3 g0
      obtain ⟨t, e1, rfl, _⟩ := DataW.trod_string Tryz.underlying9 g1
      obtain ⟨nn, e2, rfl, w2⟩ := DataW.trod_int Tryz.underlying3 g2
      obtain ⟨a, e3, rfl, w3⟩ := DataW.trod_int Tryz.underlying24 q0
      obtain ⟨b, e4, rfl, _⟩ := DataW.trod_int Tryz.underlying3 q1
      injection e0 with e0
      injection e1 with e1
      injection e2 with e2
      injection e3 with e3
      injection e4 with e4
      subst e0 e1 e2 e3 e4
      have ha := bounds_u32 w3
      obtain ⟨a', rfl⟩ : ∃ a' : Nat, a = (a' : Int) := ⟨a.toNat, by omega⟩
      exact ⟨⟨kk, t, nn, a', b⟩, rfl, ⟨by show a' < _; omega, (bounds_i64 w2).1, (bounds_i64 w2).2⟩, rfl⟩
set_option maxRecDepth 100000 in
theorem open_set {H : Type} {enc : TypeId × Value → H} {W : World} {base : Nat} {v : Value} {d : DataW H} {p : List MemPlace} (hv : Value.okWide Tryz.prog W .any base 28 v)
    (h : DataW.Trod enc Tryz.prog W 0 (fun _ => true) true 28 v d p) : ∃ s : Bt.S, v = setV s ∧ SetBounds s ∧ d = setD s := by
  obtain ⟨cs, rfl, hsz⟩ := okWide_struct Tryz.underlying28 hv
  obtain ⟨fuel, hf⟩ := h
  have hl : cs.toList.length = 5 := by rw [Array.length_toList, hsz, cells_set]
  obtain ⟨s, e, hb, hd⟩ := open_set5 hl (by simpa [Value.cells] using hf)
  refine ⟨s, ?_, hb, hd⟩
  have : cs = (Bt.setC s).toArray := by rw [← e]
  rw [this]
  rfl
set_option maxRecDepth 100000 in
theorem open_sets {H : Type} {enc : TypeId × Value → H} {W : World} {a : Option Addr} {len cap : Nat} {d : DataW H} {p : List MemPlace}
    (h : DataW.Trod enc Tryz.prog W 0 (fun _ => true) true 33 (.slice a len cap) d p) :
    ∃ l : List Bt.S, SetsAt W W.heap.size a len l ∧ len ≤ cap ∧ (∀ s ∈ l, SetBounds s) ∧ ((d = .nil ∧ l = []) ∨ ∃ sp, d = .slice (l.map setD) sp) := by
  obtain ⟨fuel, hf⟩ := h
  rcases open_slice Tryz.underlying33 hf with ⟨hcs, hx⟩ | ⟨x, l, c, m, n, D, Pl, hcs, _, hl, hm, hmm, hx, hall⟩
  · simp [Value.cells] at hcs
    obtain ⟨rfl, rfl, rfl⟩ := hcs
    simp only [Prod.mk.injEq] at hx
    exact ⟨[], ⟨rfl, fun h => absurd h (by omega)⟩, Nat.le_refl _, fun _ h => (by cases h), .inl ⟨hx.1, rfl⟩⟩
  · simp [Value.cells] at hcs
    obtain ⟨rfl, rfl, rfl⟩ := hcs
    simp only [Prod.mk.injEq] at hx
    rw [if_pos rfl] at hmm
    subst hmm
    rw [cells_set] at hall
    have each : ∀ i, i < m → ∃ s : Bt.S, (∀ j, j < 5 → W.cell? (x.add (i * 5 + j)) = (Bt.setC s)[j]?) ∧ SetBounds s ∧ D i = setD s := by
      intro i hi
      obtain ⟨cs', h1, h2⟩ := hall i hi
      obtain ⟨_, hlen, hcell⟩ := World.cells?_some h1
      obtain ⟨s, rfl, hb, hd⟩ := open_set5 hlen h2
      exact ⟨s, fun j hj => by rw [← add_add]; exact hcell j hj, hb, hd⟩
    obtain ⟨q, hq⟩ := choose_lt each
    refine ⟨(List.range len).map q, ⟨by simp, fun hpos => ?_⟩, hl, ?_, .inr ⟨(List.range (m - len)).map fun j => D (len + j), ?_⟩⟩
    · obtain ⟨b, off, spot⟩ := x
      have h0 := (hq 0 (by omega)).1 0 (by omega)
      have hspot : spot = none := by simpa [Addr.add] using World.cell?_spot h0
      subst hspot
      have hc : ∀ i (_ : i < len) j (_ : j < 5), W.cell? ⟨b, off + i * 5 + j, none⟩ = (Bt.setC (q i))[j]? := by
        intro i hi j hj
        rw [← (hq i (by omega)).1 j hj, Addr.add_lit, Nat.add_assoc]
      refine ⟨b, off, rfl, lt_of_cell (a := ⟨b, off + 0 * 5 + 0, none⟩) (hc 0 hpos 0 (by omega)), fun i hi => ?_⟩
      have hi' : i < len := by simpa using hi
      rw [List.getElem_map, List.getElem_range]
      exact ⟨hc i hi' 0 (by omega), hc i hi' 1 (by omega), hc i hi' 2 (by omega), hc i hi' 3 (by omega), hc i hi' 4 (by omega)⟩
    · intro s hs
      obtain ⟨i, hi, rfl⟩ := List.mem_map.1 hs
      exact (hq i (by have := List.mem_range.1 hi; omega)).2.1
    · rw [hx.1, List.map_map]
      congr 1
      apply List.map_congr_left
      intro i hi
      exact (hq i (by have := List.mem_range.1 hi; omega)).2.2
theorem bulk_mem {H : Type} {d : DataW H} : ∀ {l : List (DataW H)}, d ∈ l → Rows.uptoBulk d ≤ Rows.uptoBulkAll l
  | x :: r, h => by
    rw [Rows.uptoBulkAll]
    rcases List.mem_cons.1 h with rfl | h
    · omega
    · have := bulk_mem h; omega
theorem bulk_set {H : Type} (s : Bt.S) : s.t.size + 1 ≤ Rows.uptoBulk (setD (H := H) s) := by
  unfold setD
  simp only [Rows.uptoBulk, Rows.uptoBulkAll]
  have : s.t.data.toList.length = s.t.size := by simp
  omega
theorem bulk_len {H : Type} : ∀ (l : List Bt.S), l.length ≤ Rows.uptoBulkAll (l.map (setD (H := H)))
  | [] => Nat.zero_le _
  | s :: r => by
    rw [List.map_cons, Rows.uptoBulkAll, List.length_cons]
    have h1 := bulk_set (H := H) s
    have h2 := bulk_len (H := H) r
    omega
/-- What the narrowed rows say of a list of settings. -/
theorem sets_small {H : Type} {d : DataW H} {l : List Bt.S} (hd : (d = .nil ∧ l = []) ∨ ∃ sp, d = .slice (l.map setD) sp) (h : Rows.uptoBulk d ≤ 1048576) : (∀ s ∈ l, s.t.size ≤ 1048576) ∧ l.length ≤ 1048576 := by
  rcases hd with ⟨_, rfl⟩ | ⟨sp, rfl⟩
  · exact ⟨fun _ h => (by cases h), Nat.zero_le _⟩
  · rw [Rows.uptoBulk] at h
    refine ⟨fun s hs => ?_, ?_⟩
    · have h1 := bulk_mem (List.mem_map_of_mem (f := setD (H := H)) hs)
      have h2 := bulk_set (H := H) s
      omega
    · have := bulk_len (H := H) l
      omega
theorem set_small {H : Type} {d : DataW H} {s : Bt.S} (hd : d = setD s) (h : Rows.uptoBulk d ≤ 1048576) : s.t.size ≤ 1048576 := by
  have := bulk_set (H := H) s
  rw [hd] at h
  omega
end Go.Proofs.YthlagpmacnijfaaGreatDoor

namespace Go.Proofs.YthlagpmacnijfaaGreatDoor
open Go.RowKit

set_option maxRecDepth 20000 in
set_option maxHeartbeats 1600000 in
theorem law_BatchPrints (a : Option Addr) (n c : Nat) (l : List Bt.S) (w : World) (h : SetsAt w w.heap.size a n l) (_ : n ≤ c) (bd : ∀ s ∈ l, SetBounds s) (u : (∀ s ∈ l, s.t.size ≤ 1048576) ∧ l.length ≤ 1048576) (hT : ATabs w) :
    Calls Tryz.prog 5 #[.slice a n c] w fun e w' => e = .returned (.bool true) ∧ Below w.heap.size w w' := by
  have hok : SetsOk l := fun s hs => ⟨u.1 s hs, (bd s hs).1, (bd s hs).2.1, (bd s hs).2.2⟩
  have hn : n ≤ 1048576 := by have := h.1; omega
  have H1 := Lib.hid (batch_Print a n c l w h (by omega) hok hT.code)
  have H2 := Lib.hid (fun W (hW : Below w.heap.size w W) => ref_BatchText a n c l W ((h.below hW).more hW.size) (by omega) hok (hT.1.below hW))
  clear hT hok hn h bd u
  generalize Ln.ofT (Bt.tOut l) = T at *
  generalize Bt.tErr l = r at *
  go_enter Tryz.func5, Tryz.ntmps5
  go_wp2_with fail
  refine H1.out.mono ?_
  rintro e w1 ⟨rfl, hb1⟩
  have HB1 := Lib.hid hb1
  clear hb1 H1
  go_wp2_with fail
  refine (H2.out w1 HB1.out).mono ?_
  rintro e w2 ⟨rfl, hb2⟩
  have HB2 := Lib.hid (HB1.out.trans (hb2.mono HB1.out.size))
  clear hb2 H2
  go_wp2
  go_ret
  exact ⟨rfl, HB2.out⟩
end Go.Proofs.YthlagpmacnijfaaGreatDoor

namespace Go.Proofs.YthlagpmacnijfaaGreatDoor
open Go.ChangeShapes Go.WideShapes Go.ChangeAt Go.RowKit

theorem gPow : Tryz.prog.globalNamed "internal/strconv.uint64pow10" = some 4 := by kernel_rfl
theorem gPowType : (Tryz.prog.globals[4]?).map (·.type) = some 147 := by kernel_rfl
theorem cellsPow : Tryz.prog.cellsOf 147 = 20 := by kernel_rfl
theorem cellsU64 : Tryz.prog.cellsOf 120 = 1 := by kernel_rfl
theorem gRange : Tryz.prog.globalNamed "strconv.ErrRange" = some 3 := by kernel_rfl
theorem gRangeType : (Tryz.prog.globals[3]?).map (·.type) = some 62 := by kernel_rfl
theorem gSyntax : Tryz.prog.globalNamed "strconv.ErrSyntax" = some 2 := by kernel_rfl
theorem gSyntaxType : (Tryz.prog.globals[2]?).map (·.type) = some 62 := by kernel_rfl
theorem cellsErr : Tryz.prog.cellsOf 145 = 1 := by kernel_rfl
theorem cellsStr : Tryz.prog.cellsOf 9 = 1 := by kernel_rfl
theorem star_err : "*" ++ "errors.errorString" = "*errors.errorString" := by decide
theorem row_err (u : TypeId) (h : Tryz.prog.typeName? 3 u = some "*errors.errorString") : u = 143 :=
  typeName_ptr_named (nm := "errors.errorString") (by rw [star_err]; kernel_rfl) (by kernel_rfl) (by decide) u (by rw [star_err]; exact h)
theorem pow_of_head {W : World} {r : List (String × DataW Unit)} (h : laidMet Tryz.prog (("internal/strconv.uint64pow10", Rows.laid_internal_strconv_uint64pow10) :: r) W) : PowTab W :=
  Lib.tabIs_of_head (k := .u64) (zs := Lib.pow10Tab) gPow gPowType Tryz.underlying147 Tryz.underlying120 cellsU64 cellsPow h
theorem err_of_head {W : World} {n : String} {g : Nat} {text : List UInt8} {r : List (String × DataW Unit)} (hg : Tryz.prog.globalNamed n = some g) (ht : (Tryz.prog.globals[g]?).map (·.type) = some 62)
    (h : laidMet Tryz.prog ((n, .iface "*errors.errorString" (.ptr (.agg [.lit (.string text)]))) :: r) W) : ∃ t p, W.cell? ⟨g, 0, none⟩ = some (.iface t p) := by
  obtain ⟨a, s, hv, _⟩ := laid_sentinel h hg ht Tryz.underlying62 row_err Tryz.underlying143 Tryz.underlying145 rfl rfl Tryz.underlying9 cellsErr cellsStr
  exact ⟨_, _, World.var?_cell hg hv 0⟩
theorem max_of_shaped {W : World} (h : W.ShapedOpen Tryz.prog) : MaxTab W := Tryz.laysM145.s1_3 W h

/-- The cells of a datum. -/
def flat : Nat → DataW Unit → List Value
  | n + 1, .agg ps => ps.flatMap (flat n)
  | _, .lit (.int k z) => [.int k z]
  | _, .lit (.string s) => [.string ⟨s.toArray⟩]
  | _, _ => []
/-- A block's cells anew. -/
def put (vs : List Value) : Obj → Obj
  | .cells _ t frozen => .cells vs.toArray t frozen
  | o => o
noncomputable def low : Nat := (World.holding Tryz.prog default ⟨#[], #[], []⟩).heap.size
abbrev rangeS : ByteArray := ⟨#[118, 97, 108, 117, 101, 32, 111, 117, 116, 32, 111, 102, 32, 114, 97, 110, 103, 101]⟩
abbrev syntaxS : ByteArray := ⟨#[105, 110, 118, 97, 108, 105, 100, 32, 115, 121, 110, 116, 97, 120]⟩
end Go.Proofs.YthlagpmacnijfaaGreatDoor

namespace Go.Proofs.YthlagpmacnijfaaGreatDoor
open Go.ChangeShapes Go.WideShapes Go.ChangeAt Go.RowKit

theorem gShapes : Tryz.prog.globalNamed "cattlecreep/batch.shapes" = some 0 := by kernel_rfl
theorem gShapesType : (Tryz.prog.globals[0]?).map (·.type) = some 58 := by kernel_rfl
theorem cellsShapes : Tryz.prog.cellsOf 58 = 22 := by kernel_rfl
theorem cellsShape : Tryz.prog.cellsOf 57 = 2 := by kernel_rfl
/-- The table as the row lists it. -/
theorem shapes_list : (Rows.laid_cattlecreep_batch_shapes : DataW Unit) = .agg ((List.range 11).map fun k => .agg [.lit (.string (Bt.nameOf k).data.toList), .lit (.int .i64 (Bt.fld (k : Int) : Int))]) := by kernel_rfl
set_option maxRecDepth 100000 in
theorem shape_cells {W : World} {base : Nat} {sp : Nat → Bool} {held : Bool} {n : Nat} {cs : List Value} {x : DataW Unit × List MemPlace} {s : ByteArray} {z : Int} {enc : TypeId × Value → Unit} (hl : cs.length = 2)
    (h : DataW.trod enc Tryz.prog W base sp held n 57 cs = some x) (hx : x.1 = .agg [.lit (.string s.data.toList), .lit (.int .i64 z)]) : cs = [.string s, .int .i64 z] := by
  obtain ⟨xs, m, _, ex, _, hxl, hf⟩ := DataW.trod_struct Tryz.underlying57 h
  match xs, hxl, cs, hl with
  | [y0, y1], _, [v0, v1], _ =>
    have g0 := hf 0 _ rfl
    have g1 := hf 1 _ rfl
    change DataW.trod enc Tryz.prog W base sp held m 9 [v0] = some y0 at g0
    change DataW.trod enc Tryz.prog W base sp held m 3 [v1] = some y1 at g1
    obtain ⟨k, e0, d0, _⟩ := DataW.trod_string Tryz.underlying9 g0
    obtain ⟨a, e1, d1, _⟩ := DataW.trod_int Tryz.underlying3 g1
    injection e0 with e0
    injection e1 with e1
    subst e0 e1
    rw [ex] at hx
    simp only [List.map_cons, List.map_nil, DataW.agg.injEq, List.cons.injEq, and_true] at hx
    obtain ⟨h0, h1⟩ := hx
    rw [d0] at h0
    rw [d1] at h1
    injection h0 with h0
    injection h0 with h0
    injection h1 with h1
    injection h1 with _ h1
    rw [h1, show k = s from WideShapes.bytes_inj (by exact h0)]
set_option maxRecDepth 100000 in
theorem shapes_of_head {W : World} {r : List (String × DataW Unit)} (h : laidMet Tryz.prog (("cattlecreep/batch.shapes", Rows.laid_cattlecreep_batch_shapes) :: r) W) : ShapeTab W := by
  obtain ⟨ps, ⟨g', t', csa, fuel, p, q, hg', ht', hvar, hd, _, _⟩, _⟩ := h
  obtain rfl := Option.some.inj (gShapes.symm.trans hg')
  obtain rfl := Option.some.inj (gShapesType.symm.trans ht')
  rw [shapes_list] at hd
  obtain ⟨cs, hcs⟩ : ∃ cs, cs = csa.toList := ⟨_, rfl⟩
  rw [← hcs] at hd
  obtain ⟨xs, m, _, ex, hcl, hxl, hf⟩ := DataW.trod_array Tryz.underlying58 hd
  rw [cellsShapes] at hcl
  rw [cellsShape] at hf
  have e3 := (DataW.agg.inj (Prod.mk.inj ex).1).symm
  have key : ∀ k, k < 11 → (cs.drop (k * 2)).take 2 = [.string (Bt.nameOf k), .int .i64 (Bt.fld (k : Int) : Int)] := by
    intro k hk
    have hE := hf k hk
    rw [List.getElem?_eq_getElem (by omega)] at hE
    refine shape_cells (by rw [List.length_take, List.length_drop]; omega) hE ?_
    have e4 := congrArg (·[k]?) e3
    simp only [List.getElem?_map] at e4
    rw [List.getElem?_eq_getElem (by omega), List.getElem?_eq_getElem (by rw [List.length_range]; omega)] at e4
    simpa using e4
  have hc : ∀ i, i < 22 → W.cell? ⟨0, i, none⟩ = cs[i]? := by
    intro i hi
    have := World.var?_cell gShapes hvar i
    rw [hcs]
    simpa using this
  have hat : ∀ k, k < 11 → W.cell? ⟨0, k * 2, none⟩ = some (.string (Bt.nameOf k)) ∧ W.cell? ⟨0, k * 2 + 1, none⟩ = some (.int .i64 (Bt.fld (k : Int) : Int)) := by
    intro k hk
    have hk2 := key k hk
    have a0 := congrArg (·[0]?) hk2
    have a1 := congrArg (·[1]?) hk2
    simp only [List.getElem?_take, List.getElem?_drop] at a0 a1
    rw [hc _ (by omega), hc _ (by omega)]
    exact ⟨by simpa using a0, by simpa using a1⟩
  exact ⟨lt_of_cell (hat 0 (by decide)).1, hat⟩

/-- A WORLD FOR THE WITNESS: the settled one, the listed variables holding what their initialisers lay. -/
noncomputable def laidWorld (os : Os) : World :=
  let w0 := World.holding Tryz.prog os ⟨#[.cells #[.string rangeS] 145, .cells #[.string syntaxS] 145], #[], []⟩
  let h1 := w0.heap.modify 7 (put (flat 4 Rows.laid_math_bits_deBruijn32tab))
  let h2 := h1.modify 8 (put (flat 4 Rows.laid_math_bits_deBruijn64tab))
  let h3 := h2.modify 4 (put (flat 4 Rows.laid_internal_strconv_uint64pow10))
  let h4 := h3.modify 6 (put (flat 4 Rows.laid_unicode_utf8_acceptRanges))
  let h5 := h4.modify 3 (put [.iface 143 (.pointer (some ⟨low, 0, none⟩))])
  let h6 := h5.modify 2 (put [.iface 143 (.pointer (some ⟨low + 1, 0, none⟩))])
  let h7 := h6.modify 5 (put (flat 4 Rows.laid_unicode_utf8_first))
  let h8 := h7.modify 0 (put (flat 4 Rows.laid_cattlecreep_batch_shapes))
  { w0 with heap := h8 }
abbrev laid8 : List (String × DataW Unit) := [("math/bits.deBruijn32tab", Rows.laid_math_bits_deBruijn32tab), ("math/bits.deBruijn64tab", Rows.laid_math_bits_deBruijn64tab), ("internal/strconv.uint64pow10", Rows.laid_internal_strconv_uint64pow10), ("unicode/utf8.acceptRanges", Rows.laid_unicode_utf8_acceptRanges), ("strconv.ErrRange", Rows.laid_strconv_ErrRange), ("strconv.ErrSyntax", Rows.laid_strconv_ErrSyntax), ("cattlecreep/batch.shapes", Rows.laid_cattlecreep_batch_shapes), ("unicode/utf8.first", Rows.laid_unicode_utf8_first)]
/-- WHAT THE ROWS' LISTS GIVE. -/
theorem tabs8 {W : World} (h : laidMetH Tryz.prog laid8 W) (hs : W.ShapedOpen Tryz.prog) : ATabs W := by
  rw [MakeChecks.laidMetH_plain _ _ _ (by kernel_rfl)] at h
  exact ⟨⟨pow_of_head h.tail.tail, ⟨err_of_head gSyntax gSyntaxType h.tail.tail.tail.tail.tail, err_of_head gRange gRangeType h.tail.tail.tail.tail⟩, max_of_shaped hs⟩, shapes_of_head h.tail.tail.tail.tail.tail.tail⟩
theorem laid8_met (os : Os) (args : Array Value) : laidMet Tryz.prog laid8 ((laidWorld os).forCall (fun _ _ => 0) ⟨#[], args, []⟩).memory :=
  laidMet_of_run3 300 (by kernel_rfl) (by kernel_rfl) (by kernel_rfl)
end Go.Proofs.YthlagpmacnijfaaGreatDoor
