/- The contract of the reference's PacketBytes. -/
import Derived.Test.YtfipnkledifilaaRefBig2
import Derived.Test.YtfipnkledifilaaPackCode3
import Derived.Deep.DeepCutAuto
import Derived.Deep.RegionHeld3
namespace Go.Proofs.Ytfipnkledifilaa
open Go.RowKit

/-- A call has answered some bytes and an error. -/
def ReadPost (err : Nat) (out : List UInt8) (w : World) (e : Ending) (w' : World) : Prop :=
  ∃ a n c, e = .returned (.tuple #[.slice a n c, .int .i64 (err : Int)]) ∧ BytesAt w' w'.heap.size a n out ∧ (a = none → n = 0 ∧ c = 0) ∧ Below w.heap.size w w'
theorem Pk.bsum_even (l : List UInt8) (k : Nat) (h : k % 2 = 0) : Pk.bsum l (k + 1) = Pk.bsum l k + 256 * (l.getD k 0).toNat := by
  show Pk.bsum l k + _ = _
  rw [if_pos h]
theorem Pk.bsum_odd (l : List UInt8) (k : Nat) (h : ¬ k % 2 = 0) : Pk.bsum l (k + 1) = Pk.bsum l k + (l.getD k 0).toNat := by
  show Pk.bsum l k + _ = _
  rw [if_neg h]
theorem big_text0 (w : World) (n m : Nat) : (convert 55 9 (.slice (some ⟨w.heap.size, 0, none⟩) m m)).run Try.prog (w.alloc (bigObj n m)) = .ok (.string (strOf (Sl.beL n m))) (w.alloc (bigObj n m)) :=
  conv_bytes (P := Try.prog) (w := w.alloc (bigObj n m)) (B := (w.alloc (bigObj n m)).heap.size) (alloc_bytes w n m) 55 5 9 m Try.underlying55 Try.underlying5 Try.underlying9
theorem conv_all (s : ByteArray) (n : Nat) (out : List UInt8) (hn : s.size = n) (ho : s.data.toList = out) : ∃ (wf : World → World) (cf : World → Nat), ∀ W, (convert 9 55 (.string s)).run Try.prog W = .ok (.slice (some ⟨W.heap.size, 0, none⟩) n (cf W)) (wf W) ∧
    BytesAt (wf W) (wf W).heap.size (some ⟨W.heap.size, 0, none⟩) n out ∧ Below W.heap.size W (wf W) := by
  subst hn ho
  have h0 := fun W => conv_string s W
  refine ⟨fun W => (h0 W).choose, fun W => (h0 W).choose_spec.choose, fun W => ?_⟩
  obtain ⟨h1, h2, h3, h4⟩ := (h0 W).choose_spec.choose_spec
  exact ⟨h1, conv_bytesAt h2 h4, h3⟩
theorem pack_full (s d n : Nat) : ((⟨#[69, 0]⟩ : ByteArray) ++ strOf (Sl.beL (20 + n) 2) ++ ⟨#[0, 0, 0, 0, 64, 253]⟩ ++ ⟨#[0, 0]⟩ ++ (strOf (Sl.beL s 4) ++ strOf (Sl.beL d 4))).data.toList = Pk.head n s d 0 := by
  simp only [ByteArray.data_append, Array.toList_append, strOf_list, Pk.beL2, Pk.beL4]
  rfl
theorem pack_done (s d n v : Nat) (bs : List UInt8) : ((⟨#[69, 0]⟩ : ByteArray) ++ strOf (Sl.beL (20 + n) 2) ++ ⟨#[0, 0, 0, 0, 64, 253]⟩ ++ strOf (Sl.beL v 2) ++ (strOf (Sl.beL s 4) ++ strOf (Sl.beL d 4)) ++ strOf bs).data.toList = Pk.head n s d v ++ bs := by
  simp only [ByteArray.data_append, Array.toList_append, strOf_list, Pk.beL2, Pk.beL4]
  rfl

set_option maxRecDepth 100000 in
set_option maxHeartbeats 4000000 in
theorem ref_PacketBytes (s d n c : Nat) (a : Option Addr) (bs : List UInt8) (w : World) (hs : s < 4294967296) (hd : d < 4294967296) (h : BytesAt w w.heap.size a n bs) :
    Calls Try.prog 30 #[packV s d a n c] w (ReadPost (Pk.encErr n) (Pk.encOut s d bs) w) := by
  have hA : Below w.heap.size w (w.alloc (.cells #[.int .u32 (s : Int), .int .u32 (d : Int), .slice a n c] 57)) := (Below.refl _ _).alloc (Nat.le_refl _) _
  have hP := heap_alloc_last w (.cells #[.int .u32 (s : Int), .int .u32 (d : Int), .slice a n c] 57)
  have hz : (w.alloc (.cells #[.int .u32 (s : Int), .int .u32 (d : Int), .slice a n c] 57)).heap.size = w.heap.size + 1 := by simp
  obtain ⟨c0, c1, c2⟩ := pack_cells hP (Below.refl _ _)
  have Hb := Lib.hid h
  have hl := h.1
  unfold packV
  clear h
  rcases Pk.encErr_cases n with ⟨hlt, he⟩ | ⟨hlt, he⟩
  · have He := Lib.hid he
    have Ho := Lib.hid (show Pk.encOut s d bs = [] by unfold Pk.encOut; rw [if_pos (by omega)])
    clear he hl hz
    go_enter Try.func30, Try.ntmps30
    go_wp2
    go_ret2
    rw [He.out, Ho.out]
    exact ⟨none, 0, 0, rfl, ⟨rfl, fun h => absurd h (by omega)⟩, fun _ => ⟨rfl, rfl⟩, hA⟩
  · have He := Lib.hid he
    have Ho := Lib.hid (show Pk.encOut s d bs = Pk.enc s d bs by unfold Pk.encOut; rw [if_neg (by omega)])
    have Hl := Lib.hid hl
    obtain ⟨w0, hw0⟩ : ∃ w0, w0 = w.alloc (.cells #[.int .u32 (s : Int), .int .u32 (d : Int), .slice a n c] 57) := ⟨_, rfl⟩
    rw [← hw0] at hA hP hz
    have HA := Lib.hid hA
    have HP := Lib.hid hP
    have HW := Lib.hid hw0
    have Hz := Lib.hid hz
    clear he hl hA hP hw0 hz
    have hs1 : (strOf (Sl.beL (20 + n) 2)).size = 2 := by rw [strOf_size, Sl.beL_length]
    have f0 := big_text0 w0 (20 + n) 2
    go_enter Try.func30, Try.ntmps30
    go_wp2_with fail
    rw [← HW.out]
    refine (ref_big (20 + n) 2 w0 (by omega) (by decide) (by decide)).mono ?_
    rintro e w1 ⟨rfl, hw1⟩
    subst hw1
    obtain ⟨S1, hS1⟩ : ∃ S1, S1 = strOf (Sl.beL (20 + n) 2) := ⟨_, rfl⟩
    rw [← hS1] at f0 hs1
    have HS1 := Lib.hid hS1
    have hs2 : ((⟨#[69, 0]⟩ : ByteArray) ++ S1).size = 4 := by rw [ByteArray.size_append, hs1]; rfl
    have hs3 : ((⟨#[69, 0]⟩ : ByteArray) ++ S1 ++ ⟨#[0, 0, 0, 0, 64, 253]⟩).size = 10 := by rw [ByteArray.size_append, hs2]; rfl
    clear c0 c1 c2 hS1
    have hB1 := HA.out.alloc HA.out.size (bigObj (20 + n) 2)
    obtain ⟨c0, c1, c2⟩ := pack_cells HP.out ((Below.refl _ w0).alloc (Nat.le_refl _) (bigObj (20 + n) 2))
    have hz1 : w.heap.size < (w0.alloc (bigObj (20 + n) 2)).heap.size := by have := Hz.out; simp; omega
    have HB1 := Lib.hid hB1
    obtain ⟨w1, hw1⟩ : ∃ w1, w1 = w0.alloc (bigObj (20 + n) 2) := ⟨_, rfl⟩
    have HW1 := Lib.hid hw1
    rw [← hw1] at c0 c1 c2 hz1 hB1 f0
    have HB1 := Lib.hid hB1
    rw [← hw1]
    clear hB1 hw1
    have G1 := Lib.hid (fun W => ref_big s 4 W (by omega) (by decide) (by decide))
    have G2 := Lib.hid (fun W => ref_big d 4 W (by omega) (by decide) (by decide))
    have g1 := big_text w1 s 4
    have g2 := big_text2 w1 s 4 d 4
    have g3 := big_text3 w1 s 4 d 4
    have t1 : (strOf (Sl.beL s 4)).size = 4 := by rw [strOf_size, Sl.beL_length]
    have t2 : (strOf (Sl.beL d 4)).size = 4 := by rw [strOf_size, Sl.beL_length]
    have hfull := pack_full s d n
    have hdone := fun v bs => pack_done s d n v bs
    rw [← HS1.out] at hfull hdone
    have HF := Lib.hid hfull
    have HD := Lib.hid hdone
    clear hfull hdone
    generalize strOf (Sl.beL s 4) = T1 at *
    generalize strOf (Sl.beL d 4) = T2 at *
    have hws : IntKind.i64.wrap (s : Int) = (s : Int) := IntWalk.i64_in _ (by omega)
    have hwd : IntKind.i64.wrap (d : Int) = (d : Int) := IntWalk.i64_in _ (by omega)
    have t3 : (T1 ++ T2).size = 8 := by rw [ByteArray.size_append, t1, t2]
    go_upto_region 4 with fail
    go_cut [5] (fun v5 wx => v5 = .string (T1 ++ T2) ∧ Below w1.heap.size w1 wx)
    case first =>
      go_region_with (first
        | (go_at_call_of 56 (Value.int IntKind.i64 (s : Int)); refine (G1.out _).mono ?_; rintro e w' ⟨rfl, rfl⟩)
        | (go_at_call_of 56 (Value.int IntKind.i64 (d : Int)); refine (G2.out _).mono ?_; rintro e w' ⟨rfl, rfl⟩))
      all_goals
        go_wp2_with fail
        go_meet
        case rel => exact ⟨rfl, (((Below.refl _ _).alloc (Nat.le_refl _) _).alloc (by simp) _).drew⟩
    case rest =>
      obtain ⟨rfl, hk2⟩ := hcut
      have hzc := hk2.size
      have HK2 := Lib.hid hk2
      have HC1 := Lib.hid (pack_cells HP.out (((Below.refl _ w0).alloc (Nat.le_refl _) (bigObj (20 + n) 2)).trans ((show Below (w0.alloc (bigObj (20 + n) 2)).heap.size (w0.alloc (bigObj (20 + n) 2)) wc by rw [← HW1.out]; exact hk2).mono (by simp))))
      clear hk2 c0 c1 c2 g1 g2 g3 f0
      obtain ⟨TT, hTT⟩ : ∃ TT, TT = T1 ++ T2 := ⟨_, rfl⟩
      obtain ⟨H1, hH1⟩ : ∃ H1, H1 = (⟨#[69, 0]⟩ : ByteArray) ++ S1 ++ ⟨#[0, 0, 0, 0, 64, 253]⟩ := ⟨_, rfl⟩
      rw [← hTT] at HF HD t3 ⊢
      rw [← hH1] at HF HD hs3 ⊢
      clear hTT hH1 t1 t2 hs2 hs1 G1 G2
      have hs4 : (H1 ++ (⟨#[0, 0]⟩ : ByteArray)).size = 12 := by rw [ByteArray.size_append, hs3]; rfl
      have hs5 : (H1 ++ (⟨#[0, 0]⟩ : ByteArray) ++ TT).size = 20 := by rw [ByteArray.size_append, hs4, t3]
      obtain ⟨w3, cap, hrun, hsz3, hbel3, hcs⟩ := conv_string (H1 ++ (⟨#[0, 0]⟩ : ByteArray) ++ TT) wc
      have hb3 := conv_bytesAt hsz3 hcs
      rw [HF.out, hs5] at hb3
      rw [hs5] at hrun
      have Hb3 := Lib.hid hb3
      have HB3 := Lib.hid hbel3
      clear hsz3 hcs hb3 hbel3
      go_wp2
      go_loopw [6, 38] (fun vn vi wr => ∃ k : Nat, k ≤ 20 ∧ vi = .int .i64 (k : Int) ∧ vn = .int .i64 ((Pk.bsum (Pk.head n s d 0) k : Nat) : Int) ∧ wr = w3) (fun _ vi _ => 20 - (intOf vi).toNat)
      case atStart => exact ⟨0, by omega, rfl, rfl, rfl⟩
      case round =>
        clear hrun
        obtain ⟨k, hk, rfl, rfl, rfl⟩ := hrel
        have hle := Pk.bsum_le (Pk.head n s d 0) k
        by_cases hlt : k < 20
        · obtain ⟨b', o', e', hcell⟩ := bytes_lt Hb3.out hlt
          cases e'
          rw [Nat.zero_add] at hcell
          have hx := ((Pk.head n s d 0).getD k 0).toNat_lt
          by_cases hm : k % 2 = 0
          · have Hs := Lib.hid (show Pk.bsum (Pk.head n s d 0) (k + 1) = Pk.bsum (Pk.head n s d 0) k + 256 * ((Pk.head n s d 0).getD k 0).toNat from Pk.bsum_even _ _ hm)
            have hmi : (k : Int) % 2 = 0 := by omega
            clear hm
            generalize ((Pk.head n s d 0).getD k 0).toNat = x at *
            generalize Pk.bsum (Pk.head n s d 0) k = y at *
            go_wp2
            go_roundw
            case rel => exact ⟨k + 1, by omega, by go_num, by rw [Hs.out]; go_num, trivial⟩
            case measure => simp [intOf]; omega
          · have Hs := Lib.hid (show Pk.bsum (Pk.head n s d 0) (k + 1) = Pk.bsum (Pk.head n s d 0) k + ((Pk.head n s d 0).getD k 0).toNat from Pk.bsum_odd _ _ hm)
            have hmi : (k : Int) % 2 = 1 := by omega
            clear hm
            generalize ((Pk.head n s d 0).getD k 0).toNat = x at *
            generalize Pk.bsum (Pk.head n s d 0) k = y at *
            go_wp2
            go_roundw
            case rel => exact ⟨k + 1, by omega, by go_num, by rw [Hs.out]; go_num, trivial⟩
            case measure => simp [intOf]; omega
        · obtain rfl : k = 20 := by omega
          rw [show ((20 : Nat) : Int) = (20 : Int) from rfl]
          obtain ⟨F, hF⟩ : ∃ F, F = Pk.fold (Pk.bsum (Pk.head n s d 0) 20) := ⟨_, rfl⟩
          have HF1 := Lib.hid hF
          have HF0 := Lib.hid hF
          have hle' : Pk.bsum (Pk.head n s d 0) 20 ≤ 1305600 := by omega
          clear hF hle hlt hk
          go_wp2
          go_loopw [6] (fun vs wx => ∃ s : Nat, s ≤ 1305600 ∧ vs = .int .i64 (s : Int) ∧ F = Pk.fold s ∧ wx = wr) (fun vs _ => (intOf vs).toNat)
          case atStart => exact ⟨_, hle', rfl, HF1.out, rfl⟩
          case round =>
            clear hle' HF1
            obtain ⟨q, hq, rfl, hF, rfl⟩ := hrel
            by_cases h6 : 65535 < q
            · have HF1 := Lib.hid (hF.trans (Pk.fold_step q h6 hq).symm)
              have hd6 : decide ((65536 : Int) ≤ (q : Int)) = true := by simp; omega
              have H6 := Lib.hid h6
              clear hF h6
              go_wp2
              go_roundw
              case rel => exact ⟨q % 65536 + q / 65536, by have := H6.out; omega, by have := H6.out; go_num, HF1.out, trivial⟩
              case measure => have := H6.out; simp [intOf]; omega
            · have HF1 := Lib.hid (hF.trans (Pk.fold_small q (by omega)))
              have hd6 : decide ((65536 : Int) ≤ (q : Int)) = false := by simp; omega
              clear hF
              obtain ⟨v, hv⟩ : ∃ v : Nat, v = 65535 - q := ⟨_, rfl⟩
              have hsub : (65535 : Int) - (q : Int) = (v : Int) := by omega
              have hvl : v ≤ 65535 := by omega
              have hwv : IntKind.i64.wrap (v : Int) = (v : Int) := IntWalk.i64_in _ (by omega)
              have Hv := Lib.hid (show v = Pk.ck n s d by rw [hv, ← HF1.out, HF0.out]; rfl)
              clear hv h6 hq
              have hBw := HB1.out.trans (HK2.out.mono HB1.out.size)
              have hBr : Below w.heap.size w wr := hBw.trans (HB3.out.mono hBw.size)
              have hbr := (Hb.out.below hBr).up hBr.size
              obtain ⟨c0, c1, c2⟩ := HC1.out
              have hzr := HB3.out.size
              have hlw : w.heap.size < wc.heap.size := by omega
              have c2' : wr.cell? ⟨w.heap.size, 2, none⟩ = some (.slice a n c) := (HB3.out.cell (p := ⟨w.heap.size, 2, none⟩) hlw).trans c2
              have hlr : w.heap.size < wr.heap.size := by omega
              have G1 := Lib.hid (fun W => ref_big v 2 W (by omega) (by decide) (by decide))
              have g1 := big_text wr v 2
              have d1 := conv_bytes (P := Try.prog) (w := wr.drew) (B := wr.heap.size) hbr 55 5 9 c Try.underlying55 Try.underlying5 Try.underlying9
              have d2 := conv_bytes (P := Try.prog) (w := (wr.alloc (bigObj v 2)).drew) (B := wr.heap.size) (hbr.below (Below.drew ((Below.refl _ wr).alloc (Nat.le_refl _) (bigObj v 2)))) 55 5 9 c Try.underlying55 Try.underlying5 Try.underlying9
              have t1 : (strOf (Sl.beL v 2)).size = 2 := by rw [strOf_size, Sl.beL_length]
              have t2 : (strOf bs).size = n := by rw [strOf_size, Hl.out]
              have hdn := HD.out v bs
              generalize strOf (Sl.beL v 2) = V at *
              generalize strOf bs = D at *
              have s1 : (H1 ++ V).size = 12 := by rw [ByteArray.size_append, hs3, t1]
              have s2 : (H1 ++ V ++ TT).size = 20 := by rw [ByteArray.size_append, s1, t3]
              have s3 : (H1 ++ V ++ TT ++ D).size = 20 + n := by rw [ByteArray.size_append, s2, t2]
              obtain ⟨w5, cap5, hrun5, hsz5, hbel5, hcs5⟩ := conv_string (H1 ++ V ++ TT ++ D) (wr.alloc (bigObj v 2)).drew
              have hb5 := conv_bytesAt hsz5 hcs5
              rw [hdn, s3] at hb5
              rw [s3] at hrun5
              have hB5 : Below w.heap.size w w5 := ((hBr.alloc hBr.size (bigObj v 2)).drew).trans (hbel5.mono ((hBr.alloc hBr.size (bigObj v 2)).drew).size)
              have Hb5 := Lib.hid hb5
              have HB5 := Lib.hid hB5
              clear hsz5 hcs5 hb5 hbel5 hB5 hBr hBw hbr hdn c0 c1 c2 hs4 hs5
              generalize (wr.alloc (bigObj v 2)).drew.heap.size = B5 at hrun5 Hb5
              go_wp2_with fail
              go_region_with (first
                | (go_at_call_of 56 (Value.int IntKind.i64 (v : Int)); refine (G1.out _).mono ?_; rintro e w' ⟨rfl, rfl⟩))
              all_goals
                go_wp2
                go_ret2
                rw [He.out, Ho.out]
                refine ⟨_, _, _, rfl, ?_, ?_, HB5.out⟩
                · unfold Pk.enc
                  rw [Hl.out, ← Hv.out]
                  exact Hb5.out
                · intro h; cases h
end Go.Proofs.Ytfipnkledifilaa
