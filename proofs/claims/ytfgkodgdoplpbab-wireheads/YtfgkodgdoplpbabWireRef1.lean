/- The contract of the reference's WireFault. -/
import Derived.Test.YtfgkodgdoplpbabWireCheck
import Derived.Test.YtfgkodgdoplpbabShelfCont
import Derived.Deep.DeepCutAuto
namespace Go.Proofs.Ytfgkodgdoplpbab
open Go.RowKit

def Wr.hasOf (k : Int) : ByteArray := if k = 1 then ⟨#[115]⟩ else if k = 2 then ⟨#[115, 114]⟩ else ⟨#[114, 99]⟩
theorem Wr.has_facts {k : Int} (hk : Wr.Known k) : ∃ bS bR bC : Bool, (bS = false ↔ k = 4) ∧ (bR = false ↔ k = 1) ∧ (bC = false ↔ k ≠ 4) ∧
    decide (0 ≤ Lib.indexByte (Wr.hasOf k).data.toList 115) = bS ∧ decide (0 ≤ Lib.indexByte (Wr.hasOf k).data.toList 114) = bR ∧ decide (0 ≤ Lib.indexByte (Wr.hasOf k).data.toList 99) = bC := by
  rcases hk with rfl | rfl | rfl
  · exact ⟨true, false, false, by decide, by decide, by decide, by decide +kernel, by decide +kernel, by decide +kernel⟩
  · exact ⟨true, true, false, by decide, by decide, by decide, by decide +kernel, by decide +kernel, by decide +kernel⟩
  · exact ⟨false, true, true, by decide, by decide, by decide, by decide +kernel, by decide +kernel, by decide +kernel⟩

set_option maxRecDepth 10000 in
set_option maxHeartbeats 8000000 in
theorem ref_WireFault (k s r c : Int) (a : Option Addr) (n cap : Nat) (w : World) :
    Calls Try.prog 10 #[messV k s r c a n cap] w fun e w' => e = .returned (.int .i64 (Wr.err k s r c n : Int)) ∧ Below w.heap.size w w' := by
  have hg := Blk.new w 24 [.int .i64 k, .int .i64 s, .int .i64 r, .int .i64 c, .slice a n cap]
  have hA : Below w.heap.size w (w.alloc (.cells #[.int .i64 k, .int .i64 s, .int .i64 r, .int .i64 c, .slice a n cap] 24)) := (Below.refl _ _).alloc (Nat.le_refl _) _
  obtain ⟨m0, m1, m2, m3, m4⟩ := hg.facts5.1
  have HG := Lib.hid hg
  have HA := Lib.hid hA
  clear hg hA
  by_cases hk : Wr.Known k
  · obtain ⟨bS, bR, bC, iS, iR, iC, dS, dR, dC⟩ := Wr.has_facts hk
    have HS : Hid (∀ W, Calls Try.prog 25 #[.string (Wr.hasOf k), .string ⟨#[115]⟩] W fun e w' => e = .returned (.bool bS) ∧ w' = W) := Lib.hid (fun W => by rw [← dS]; exact Try.strings_Contains_one (Wr.hasOf k) 115 W)
    have HR : Hid (∀ W, Calls Try.prog 25 #[.string (Wr.hasOf k), .string ⟨#[114]⟩] W fun e w' => e = .returned (.bool bR) ∧ w' = W) := Lib.hid (fun W => by rw [← dR]; exact Try.strings_Contains_one (Wr.hasOf k) 114 W)
    have HC : Hid (∀ W, Calls Try.prog 25 #[.string (Wr.hasOf k), .string ⟨#[99]⟩] W fun e w' => e = .returned (.bool bC) ∧ w' = W) := Lib.hid (fun W => by rw [← dC]; exact Try.strings_Contains_one (Wr.hasOf k) 99 W)
    have LT : Hid (((bS = false ∧ s ≠ 0) ∨ (bR = false ∧ r ≠ 0) ∨ (bC = false ∧ c ≠ 0)) → Wr.err k s r c n = 3) := Lib.hid (fun h => Wr.err_lacks hk (decide_eq_true (by unfold Wr.Lacks; rw [← iS, ← iR, ← iC]; exact h)))
    have hlf : ¬ ((bS = false ∧ s ≠ 0) ∨ (bR = false ∧ r ≠ 0) ∨ (bC = false ∧ c ≠ 0)) → Wr.lacks k s r c = false := fun h => decide_eq_false (by unfold Wr.Lacks; rw [← iS, ← iR, ← iC]; exact h)
    have L1 : Hid (¬ ((bS = false ∧ s ≠ 0) ∨ (bR = false ∧ r ≠ 0) ∨ (bC = false ∧ c ≠ 0)) → Wr.Off s r c → Wr.err k s r c n = 4) := Lib.hid (fun h h2 => Wr.err_off hk (hlf h) h2)
    have L2 : Hid (¬ ((bS = false ∧ s ≠ 0) ∨ (bR = false ∧ r ≠ 0) ∨ (bC = false ∧ c ≠ 0)) → ¬ Wr.Off s r c → (n < Wr.least k.toNat ∨ Wr.most k.toNat < n) → Wr.err k s r c n = 1) := Lib.hid (fun h h2 h3 => Wr.err_size hk (hlf h) h2 h3)
    have L3 : Hid (¬ ((bS = false ∧ s ≠ 0) ∨ (bR = false ∧ r ≠ 0) ∨ (bC = false ∧ c ≠ 0)) → ¬ Wr.Off s r c → ¬ (n < Wr.least k.toNat ∨ Wr.most k.toNat < n) → Wr.err k s r c n = 0) := Lib.hid (fun h h2 h3 => Wr.err_ok hk (hlf h) h2 h3)
    clear iS iR iC dS dR dC hlf
    unfold messV
    rcases hk with rfl | rfl | rfl
    · generalize hE : Wr.err 1 s r c n = E at *
      have hq := Blk.new (w.alloc (.cells #[.int .i64 1, .int .i64 s, .int .i64 r, .int .i64 c, .slice a n cap] 24)) 51 [.string ⟨#[115]⟩, .int .i64 s, .string ⟨#[114]⟩, .int .i64 r, .string ⟨#[99]⟩, .int .i64 c]
      have hbq : Below (w.alloc (.cells #[.int .i64 1, .int .i64 s, .int .i64 r, .int .i64 c, .slice a n cap] 24)).heap.size (w.alloc (.cells #[.int .i64 1, .int .i64 s, .int .i64 r, .int .i64 c, .slice a n cap] 24)) ((w.alloc (.cells #[.int .i64 1, .int .i64 s, .int .i64 r, .int .i64 c, .slice a n cap] 24)).alloc (.cells #[.string ⟨#[115]⟩, .int .i64 s, .string ⟨#[114]⟩, .int .i64 r, .string ⟨#[99]⟩, .int .i64 c] 51)) := (Below.refl _ _).alloc (Nat.le_refl _) _
      have HG2 := Lib.hid (HG.out.kept hbq)
      have HA2 := Lib.hid (HA.out.trans (hbq.mono HA.out.size))
      rw [show (w.alloc (.cells #[.int .i64 1, .int .i64 s, .int .i64 r, .int .i64 c, .slice a n cap] 24)).heap.size = w.heap.size + 1 by simp] at hq
      have HQ2 := Lib.hid hq
      clear hq hbq hE
      go_enter Try.func10, Try.ntmps10
      go_upto_region 12 with fail
      clear m0 m1 m2 m3 m4
      obtain ⟨w2, hw2⟩ : ∃ w2, w2 = (w.alloc (.cells #[.int .i64 1, .int .i64 s, .int .i64 r, .int .i64 c, .slice a n cap] 24)).alloc (.cells #[.string ⟨#[115]⟩, .int .i64 s, .string ⟨#[114]⟩, .int .i64 r, .string ⟨#[99]⟩, .int .i64 c] 51) := ⟨_, rfl⟩
      rw [← hw2] at HG2 HA2 HQ2 ⊢
      clear hw2 HG HA
      go_loopw [27] (fun vi wr => ∃ j : Nat, j ≤ 3 ∧ vi = .int .i64 (j : Int) ∧ Hid ((0 < j → ¬ (bS = false ∧ s ≠ 0)) ∧ (1 < j → ¬ (bR = false ∧ r ≠ 0)) ∧ (2 < j → ¬ (bC = false ∧ c ≠ 0)) ∧ Below w2.heap.size w2 wr)) (fun vi _ => 3 - (intOf vi).toNat)
      case atStart => exact ⟨0, by omega, rfl, Lib.hid ⟨by omega, by omega, by omega, Below.refl _ _⟩⟩
      case round =>
        obtain ⟨j, hj, rfl, HR0⟩ := hrel
        have hqr := HQ2.out.kept HR0.out.2.2.2
        have hgr := HG2.out.kept HR0.out.2.2.2
        have q0 := hqr.cell 0 rfl
        have q1 := hqr.cell 1 rfl
        have q2 := hqr.cell 2 rfl
        have q3 := hqr.cell 3 rfl
        have q4 := hqr.cell 4 rfl
        have q5 := hqr.cell 5 rfl
        obtain ⟨m0, m1, m2, m3, m4⟩ := hgr.facts5.1
        have HBf := Lib.hid (HA2.out.trans (HR0.out.2.2.2.mono HA2.out.size))
        clear hqr hgr
        have hjj : j = 0 ∨ j = 1 ∨ j = 2 ∨ j = 3 := by omega
        rcases hjj with rfl | rfl | rfl | rfl
        · rw [show ((0 : Nat) : Int) = (0 : Int) from rfl]
          by_cases hx : s = 0
          · have Hx := Lib.hid hx
            have HBx := Lib.hid (HR0.out.2.2.2.alloc HR0.out.2.2.2.size (.cells #[.string ⟨#[115]⟩, .int .i64 s] 51))
            rw [hx] at q1
            rw [hx] at HBx
            clear hx
            go_wp2
            go_roundw
            case rel => exact ⟨1, by omega, rfl, Lib.hid ⟨by have := Hx.out; simp [this], by omega, by omega, HBx.out⟩⟩
            case measure => simp [intOf]
          · have Hx := Lib.hid hx
            have HBx := Lib.hid (HR0.out.2.2.2.alloc HR0.out.2.2.2.size (.cells #[.string ⟨#[115]⟩, .int .i64 s] 51))
            have HBy := Lib.hid (HBf.out.alloc HBf.out.size (.cells #[.string ⟨#[115]⟩, .int .i64 s] 51))
            cases bS
            · have HL := Lib.hid (LT.out (.inl ⟨rfl, Hx.out⟩))
              go_wp2_with (go_at_call 25; refine (HS.out _).mono ?_; rintro e w' ⟨rfl, rfl⟩)
              go_ret
              exact ⟨by rw [HL.out]; rfl, HBy.out⟩
            · go_wp2_with (go_at_call 25; refine (HS.out _).mono ?_; rintro e w' ⟨rfl, rfl⟩)
              go_roundw
              case rel => exact ⟨1, by omega, rfl, Lib.hid ⟨by simp, by omega, by omega, HBx.out⟩⟩
              case measure => simp [intOf]
        · rw [show ((1 : Nat) : Int) = (1 : Int) from rfl]
          by_cases hx : r = 0
          · have Hx := Lib.hid hx
            have HBx := Lib.hid (HR0.out.2.2.2.alloc HR0.out.2.2.2.size (.cells #[.string ⟨#[114]⟩, .int .i64 r] 51))
            rw [hx] at q3
            rw [hx] at HBx
            clear hx
            go_wp2
            go_roundw
            case rel => exact ⟨2, by omega, rfl, Lib.hid ⟨by have := HR0.out.1 (by omega); simpa using this, by have := Hx.out; simp [this], by omega, HBx.out⟩⟩
            case measure => simp [intOf]
          · have Hx := Lib.hid hx
            have HBx := Lib.hid (HR0.out.2.2.2.alloc HR0.out.2.2.2.size (.cells #[.string ⟨#[114]⟩, .int .i64 r] 51))
            have HBy := Lib.hid (HBf.out.alloc HBf.out.size (.cells #[.string ⟨#[114]⟩, .int .i64 r] 51))
            cases bR
            · have HL := Lib.hid (LT.out (.inr (.inl ⟨rfl, Hx.out⟩)))
              go_wp2_with (go_at_call 25; refine (HR.out _).mono ?_; rintro e w' ⟨rfl, rfl⟩)
              go_ret
              exact ⟨by rw [HL.out]; rfl, HBy.out⟩
            · go_wp2_with (go_at_call 25; refine (HR.out _).mono ?_; rintro e w' ⟨rfl, rfl⟩)
              go_roundw
              case rel => exact ⟨2, by omega, rfl, Lib.hid ⟨by have := HR0.out.1 (by omega); simpa using this, by simp, by omega, HBx.out⟩⟩
              case measure => simp [intOf]
        · rw [show ((2 : Nat) : Int) = (2 : Int) from rfl]
          by_cases hx : c = 0
          · have Hx := Lib.hid hx
            have HBx := Lib.hid (HR0.out.2.2.2.alloc HR0.out.2.2.2.size (.cells #[.string ⟨#[99]⟩, .int .i64 c] 51))
            rw [hx] at q5
            rw [hx] at HBx
            clear hx
            go_wp2
            go_roundw
            case rel => exact ⟨3, by omega, rfl, Lib.hid ⟨by have := HR0.out.1 (by omega); simpa using this, by have := HR0.out.2.1 (by omega); simpa using this, by have := Hx.out; simp [this], HBx.out⟩⟩
            case measure => simp [intOf]
          · have Hx := Lib.hid hx
            have HBx := Lib.hid (HR0.out.2.2.2.alloc HR0.out.2.2.2.size (.cells #[.string ⟨#[99]⟩, .int .i64 c] 51))
            have HBy := Lib.hid (HBf.out.alloc HBf.out.size (.cells #[.string ⟨#[99]⟩, .int .i64 c] 51))
            cases bC
            · have HL := Lib.hid (LT.out (.inr (.inr ⟨rfl, Hx.out⟩)))
              go_wp2_with (go_at_call 25; refine (HC.out _).mono ?_; rintro e w' ⟨rfl, rfl⟩)
              go_ret
              exact ⟨by rw [HL.out]; rfl, HBy.out⟩
            · go_wp2_with (go_at_call 25; refine (HC.out _).mono ?_; rintro e w' ⟨rfl, rfl⟩)
              go_roundw
              case rel => exact ⟨3, by omega, rfl, Lib.hid ⟨by have := HR0.out.1 (by omega); simpa using this, by have := HR0.out.2.1 (by omega); simpa using this, by simp, HBx.out⟩⟩
              case measure => simp [intOf]
        · rw [show ((3 : Nat) : Int) = (3 : Int) from rfl]
          have hno : ¬ ((bS = false ∧ s ≠ 0) ∨ (bR = false ∧ r ≠ 0) ∨ (bC = false ∧ c ≠ 0)) := by
            have h1 := HR0.out.1 (by omega)
            have h2 := HR0.out.2.1 (by omega)
            have h3 := HR0.out.2.2.1 (by omega)
            rintro (h | h | h)
            · exact h1 h
            · exact h2 h
            · exact h3 h
          have M1 := Lib.hid (L1.out hno)
          have M2 := Lib.hid (L2.out hno)
          have M3 := Lib.hid (L3.out hno)
          clear hno q0 q1 q2 q3 q4 q5 L1 L2 L3 LT HS HR HC HR0
          by_cases o1 : s < 0
          · have HM := Lib.hid (M1.out (.inl o1))
            go_wp2
            go_ret
            exact ⟨by rw [HM.out]; rfl, HBf.out⟩
          by_cases o2 : 4294967296 ≤ s
          · have HM := Lib.hid (M1.out (by unfold Wr.Off; omega))
            go_wp2
            go_ret
            exact ⟨by rw [HM.out]; rfl, HBf.out⟩
          by_cases o3 : r < 0
          · have HM := Lib.hid (M1.out (by unfold Wr.Off; omega))
            go_wp2
            go_ret
            exact ⟨by rw [HM.out]; rfl, HBf.out⟩
          by_cases o4 : 4294967296 ≤ r
          · have HM := Lib.hid (M1.out (by unfold Wr.Off; omega))
            go_wp2
            go_ret
            exact ⟨by rw [HM.out]; rfl, HBf.out⟩
          by_cases o5 : c < 0
          · have HM := Lib.hid (M1.out (by unfold Wr.Off; omega))
            go_wp2
            go_ret
            exact ⟨by rw [HM.out]; rfl, HBf.out⟩
          by_cases o6 : 1099511627776 < c
          · have HM := Lib.hid (M1.out (by unfold Wr.Off; omega))
            go_wp2
            go_ret
            exact ⟨by rw [HM.out]; rfl, HBf.out⟩
          have hon : ¬ Wr.Off s r c := by unfold Wr.Off; omega
          by_cases z1 : n < 32
          · have HM := Lib.hid (M2.out hon (.inl z1))
            clear hon
            go_wp2
            go_ret
            exact ⟨by rw [HM.out]; rfl, HBf.out⟩
          by_cases z2 : 32 < n
          · have HM := Lib.hid (M2.out hon (.inr z2))
            clear hon
            go_wp2
            go_ret
            exact ⟨by rw [HM.out]; rfl, HBf.out⟩
          have HM := Lib.hid (M3.out hon (fun h => h.elim z1 z2))
          clear hon
          go_wp2
          go_ret
          exact ⟨by rw [HM.out]; rfl, HBf.out⟩
    · generalize hE : Wr.err 2 s r c n = E at *
      have hq := Blk.new (w.alloc (.cells #[.int .i64 2, .int .i64 s, .int .i64 r, .int .i64 c, .slice a n cap] 24)) 51 [.string ⟨#[115]⟩, .int .i64 s, .string ⟨#[114]⟩, .int .i64 r, .string ⟨#[99]⟩, .int .i64 c]
      have hbq : Below (w.alloc (.cells #[.int .i64 2, .int .i64 s, .int .i64 r, .int .i64 c, .slice a n cap] 24)).heap.size (w.alloc (.cells #[.int .i64 2, .int .i64 s, .int .i64 r, .int .i64 c, .slice a n cap] 24)) ((w.alloc (.cells #[.int .i64 2, .int .i64 s, .int .i64 r, .int .i64 c, .slice a n cap] 24)).alloc (.cells #[.string ⟨#[115]⟩, .int .i64 s, .string ⟨#[114]⟩, .int .i64 r, .string ⟨#[99]⟩, .int .i64 c] 51)) := (Below.refl _ _).alloc (Nat.le_refl _) _
      have HG2 := Lib.hid (HG.out.kept hbq)
      have HA2 := Lib.hid (HA.out.trans (hbq.mono HA.out.size))
      rw [show (w.alloc (.cells #[.int .i64 2, .int .i64 s, .int .i64 r, .int .i64 c, .slice a n cap] 24)).heap.size = w.heap.size + 1 by simp] at hq
      have HQ2 := Lib.hid hq
      clear hq hbq hE
      go_enter Try.func10, Try.ntmps10
      go_upto_region 12 with fail
      clear m0 m1 m2 m3 m4
      obtain ⟨w2, hw2⟩ : ∃ w2, w2 = (w.alloc (.cells #[.int .i64 2, .int .i64 s, .int .i64 r, .int .i64 c, .slice a n cap] 24)).alloc (.cells #[.string ⟨#[115]⟩, .int .i64 s, .string ⟨#[114]⟩, .int .i64 r, .string ⟨#[99]⟩, .int .i64 c] 51) := ⟨_, rfl⟩
      rw [← hw2] at HG2 HA2 HQ2 ⊢
      clear hw2 HG HA
      go_loopw [27] (fun vi wr => ∃ j : Nat, j ≤ 3 ∧ vi = .int .i64 (j : Int) ∧ Hid ((0 < j → ¬ (bS = false ∧ s ≠ 0)) ∧ (1 < j → ¬ (bR = false ∧ r ≠ 0)) ∧ (2 < j → ¬ (bC = false ∧ c ≠ 0)) ∧ Below w2.heap.size w2 wr)) (fun vi _ => 3 - (intOf vi).toNat)
      case atStart => exact ⟨0, by omega, rfl, Lib.hid ⟨by omega, by omega, by omega, Below.refl _ _⟩⟩
      case round =>
        obtain ⟨j, hj, rfl, HR0⟩ := hrel
        have hqr := HQ2.out.kept HR0.out.2.2.2
        have hgr := HG2.out.kept HR0.out.2.2.2
        have q0 := hqr.cell 0 rfl
        have q1 := hqr.cell 1 rfl
        have q2 := hqr.cell 2 rfl
        have q3 := hqr.cell 3 rfl
        have q4 := hqr.cell 4 rfl
        have q5 := hqr.cell 5 rfl
        obtain ⟨m0, m1, m2, m3, m4⟩ := hgr.facts5.1
        have HBf := Lib.hid (HA2.out.trans (HR0.out.2.2.2.mono HA2.out.size))
        clear hqr hgr
        have hjj : j = 0 ∨ j = 1 ∨ j = 2 ∨ j = 3 := by omega
        rcases hjj with rfl | rfl | rfl | rfl
        · rw [show ((0 : Nat) : Int) = (0 : Int) from rfl]
          by_cases hx : s = 0
          · have Hx := Lib.hid hx
            have HBx := Lib.hid (HR0.out.2.2.2.alloc HR0.out.2.2.2.size (.cells #[.string ⟨#[115]⟩, .int .i64 s] 51))
            rw [hx] at q1
            rw [hx] at HBx
            clear hx
            go_wp2
            go_roundw
            case rel => exact ⟨1, by omega, rfl, Lib.hid ⟨by have := Hx.out; simp [this], by omega, by omega, HBx.out⟩⟩
            case measure => simp [intOf]
          · have Hx := Lib.hid hx
            have HBx := Lib.hid (HR0.out.2.2.2.alloc HR0.out.2.2.2.size (.cells #[.string ⟨#[115]⟩, .int .i64 s] 51))
            have HBy := Lib.hid (HBf.out.alloc HBf.out.size (.cells #[.string ⟨#[115]⟩, .int .i64 s] 51))
            cases bS
            · have HL := Lib.hid (LT.out (.inl ⟨rfl, Hx.out⟩))
              go_wp2_with (go_at_call 25; refine (HS.out _).mono ?_; rintro e w' ⟨rfl, rfl⟩)
              go_ret
              exact ⟨by rw [HL.out]; rfl, HBy.out⟩
            · go_wp2_with (go_at_call 25; refine (HS.out _).mono ?_; rintro e w' ⟨rfl, rfl⟩)
              go_roundw
              case rel => exact ⟨1, by omega, rfl, Lib.hid ⟨by simp, by omega, by omega, HBx.out⟩⟩
              case measure => simp [intOf]
        · rw [show ((1 : Nat) : Int) = (1 : Int) from rfl]
          by_cases hx : r = 0
          · have Hx := Lib.hid hx
            have HBx := Lib.hid (HR0.out.2.2.2.alloc HR0.out.2.2.2.size (.cells #[.string ⟨#[114]⟩, .int .i64 r] 51))
            rw [hx] at q3
            rw [hx] at HBx
            clear hx
            go_wp2
            go_roundw
            case rel => exact ⟨2, by omega, rfl, Lib.hid ⟨by have := HR0.out.1 (by omega); simpa using this, by have := Hx.out; simp [this], by omega, HBx.out⟩⟩
            case measure => simp [intOf]
          · have Hx := Lib.hid hx
            have HBx := Lib.hid (HR0.out.2.2.2.alloc HR0.out.2.2.2.size (.cells #[.string ⟨#[114]⟩, .int .i64 r] 51))
            have HBy := Lib.hid (HBf.out.alloc HBf.out.size (.cells #[.string ⟨#[114]⟩, .int .i64 r] 51))
            cases bR
            · have HL := Lib.hid (LT.out (.inr (.inl ⟨rfl, Hx.out⟩)))
              go_wp2_with (go_at_call 25; refine (HR.out _).mono ?_; rintro e w' ⟨rfl, rfl⟩)
              go_ret
              exact ⟨by rw [HL.out]; rfl, HBy.out⟩
            · go_wp2_with (go_at_call 25; refine (HR.out _).mono ?_; rintro e w' ⟨rfl, rfl⟩)
              go_roundw
              case rel => exact ⟨2, by omega, rfl, Lib.hid ⟨by have := HR0.out.1 (by omega); simpa using this, by simp, by omega, HBx.out⟩⟩
              case measure => simp [intOf]
        · rw [show ((2 : Nat) : Int) = (2 : Int) from rfl]
          by_cases hx : c = 0
          · have Hx := Lib.hid hx
            have HBx := Lib.hid (HR0.out.2.2.2.alloc HR0.out.2.2.2.size (.cells #[.string ⟨#[99]⟩, .int .i64 c] 51))
            rw [hx] at q5
            rw [hx] at HBx
            clear hx
            go_wp2
            go_roundw
            case rel => exact ⟨3, by omega, rfl, Lib.hid ⟨by have := HR0.out.1 (by omega); simpa using this, by have := HR0.out.2.1 (by omega); simpa using this, by have := Hx.out; simp [this], HBx.out⟩⟩
            case measure => simp [intOf]
          · have Hx := Lib.hid hx
            have HBx := Lib.hid (HR0.out.2.2.2.alloc HR0.out.2.2.2.size (.cells #[.string ⟨#[99]⟩, .int .i64 c] 51))
            have HBy := Lib.hid (HBf.out.alloc HBf.out.size (.cells #[.string ⟨#[99]⟩, .int .i64 c] 51))
            cases bC
            · have HL := Lib.hid (LT.out (.inr (.inr ⟨rfl, Hx.out⟩)))
              go_wp2_with (go_at_call 25; refine (HC.out _).mono ?_; rintro e w' ⟨rfl, rfl⟩)
              go_ret
              exact ⟨by rw [HL.out]; rfl, HBy.out⟩
            · go_wp2_with (go_at_call 25; refine (HC.out _).mono ?_; rintro e w' ⟨rfl, rfl⟩)
              go_roundw
              case rel => exact ⟨3, by omega, rfl, Lib.hid ⟨by have := HR0.out.1 (by omega); simpa using this, by have := HR0.out.2.1 (by omega); simpa using this, by simp, HBx.out⟩⟩
              case measure => simp [intOf]
        · rw [show ((3 : Nat) : Int) = (3 : Int) from rfl]
          have hno : ¬ ((bS = false ∧ s ≠ 0) ∨ (bR = false ∧ r ≠ 0) ∨ (bC = false ∧ c ≠ 0)) := by
            have h1 := HR0.out.1 (by omega)
            have h2 := HR0.out.2.1 (by omega)
            have h3 := HR0.out.2.2.1 (by omega)
            rintro (h | h | h)
            · exact h1 h
            · exact h2 h
            · exact h3 h
          have M1 := Lib.hid (L1.out hno)
          have M2 := Lib.hid (L2.out hno)
          have M3 := Lib.hid (L3.out hno)
          clear hno q0 q1 q2 q3 q4 q5 L1 L2 L3 LT HS HR HC HR0
          by_cases o1 : s < 0
          · have HM := Lib.hid (M1.out (.inl o1))
            go_wp2
            go_ret
            exact ⟨by rw [HM.out]; rfl, HBf.out⟩
          by_cases o2 : 4294967296 ≤ s
          · have HM := Lib.hid (M1.out (by unfold Wr.Off; omega))
            go_wp2
            go_ret
            exact ⟨by rw [HM.out]; rfl, HBf.out⟩
          by_cases o3 : r < 0
          · have HM := Lib.hid (M1.out (by unfold Wr.Off; omega))
            go_wp2
            go_ret
            exact ⟨by rw [HM.out]; rfl, HBf.out⟩
          by_cases o4 : 4294967296 ≤ r
          · have HM := Lib.hid (M1.out (by unfold Wr.Off; omega))
            go_wp2
            go_ret
            exact ⟨by rw [HM.out]; rfl, HBf.out⟩
          by_cases o5 : c < 0
          · have HM := Lib.hid (M1.out (by unfold Wr.Off; omega))
            go_wp2
            go_ret
            exact ⟨by rw [HM.out]; rfl, HBf.out⟩
          by_cases o6 : 1099511627776 < c
          · have HM := Lib.hid (M1.out (by unfold Wr.Off; omega))
            go_wp2
            go_ret
            exact ⟨by rw [HM.out]; rfl, HBf.out⟩
          have hon : ¬ Wr.Off s r c := by unfold Wr.Off; omega
          by_cases z1 : n < 24
          · have HM := Lib.hid (M2.out hon (.inl z1))
            clear hon
            go_wp2
            go_ret
            exact ⟨by rw [HM.out]; rfl, HBf.out⟩
          by_cases z2 : 24 < n
          · have HM := Lib.hid (M2.out hon (.inr z2))
            clear hon
            go_wp2
            go_ret
            exact ⟨by rw [HM.out]; rfl, HBf.out⟩
          have HM := Lib.hid (M3.out hon (fun h => h.elim z1 z2))
          clear hon
          go_wp2
          go_ret
          exact ⟨by rw [HM.out]; rfl, HBf.out⟩
    · generalize hE : Wr.err 4 s r c n = E at *
      have hq := Blk.new (w.alloc (.cells #[.int .i64 4, .int .i64 s, .int .i64 r, .int .i64 c, .slice a n cap] 24)) 51 [.string ⟨#[115]⟩, .int .i64 s, .string ⟨#[114]⟩, .int .i64 r, .string ⟨#[99]⟩, .int .i64 c]
      have hbq : Below (w.alloc (.cells #[.int .i64 4, .int .i64 s, .int .i64 r, .int .i64 c, .slice a n cap] 24)).heap.size (w.alloc (.cells #[.int .i64 4, .int .i64 s, .int .i64 r, .int .i64 c, .slice a n cap] 24)) ((w.alloc (.cells #[.int .i64 4, .int .i64 s, .int .i64 r, .int .i64 c, .slice a n cap] 24)).alloc (.cells #[.string ⟨#[115]⟩, .int .i64 s, .string ⟨#[114]⟩, .int .i64 r, .string ⟨#[99]⟩, .int .i64 c] 51)) := (Below.refl _ _).alloc (Nat.le_refl _) _
      have HG2 := Lib.hid (HG.out.kept hbq)
      have HA2 := Lib.hid (HA.out.trans (hbq.mono HA.out.size))
      rw [show (w.alloc (.cells #[.int .i64 4, .int .i64 s, .int .i64 r, .int .i64 c, .slice a n cap] 24)).heap.size = w.heap.size + 1 by simp] at hq
      have HQ2 := Lib.hid hq
      clear hq hbq hE
      go_enter Try.func10, Try.ntmps10
      go_upto_region 12 with fail
      clear m0 m1 m2 m3 m4
      obtain ⟨w2, hw2⟩ : ∃ w2, w2 = (w.alloc (.cells #[.int .i64 4, .int .i64 s, .int .i64 r, .int .i64 c, .slice a n cap] 24)).alloc (.cells #[.string ⟨#[115]⟩, .int .i64 s, .string ⟨#[114]⟩, .int .i64 r, .string ⟨#[99]⟩, .int .i64 c] 51) := ⟨_, rfl⟩
      rw [← hw2] at HG2 HA2 HQ2 ⊢
      clear hw2 HG HA
      go_loopw [27] (fun vi wr => ∃ j : Nat, j ≤ 3 ∧ vi = .int .i64 (j : Int) ∧ Hid ((0 < j → ¬ (bS = false ∧ s ≠ 0)) ∧ (1 < j → ¬ (bR = false ∧ r ≠ 0)) ∧ (2 < j → ¬ (bC = false ∧ c ≠ 0)) ∧ Below w2.heap.size w2 wr)) (fun vi _ => 3 - (intOf vi).toNat)
      case atStart => exact ⟨0, by omega, rfl, Lib.hid ⟨by omega, by omega, by omega, Below.refl _ _⟩⟩
      case round =>
        obtain ⟨j, hj, rfl, HR0⟩ := hrel
        have hqr := HQ2.out.kept HR0.out.2.2.2
        have hgr := HG2.out.kept HR0.out.2.2.2
        have q0 := hqr.cell 0 rfl
        have q1 := hqr.cell 1 rfl
        have q2 := hqr.cell 2 rfl
        have q3 := hqr.cell 3 rfl
        have q4 := hqr.cell 4 rfl
        have q5 := hqr.cell 5 rfl
        obtain ⟨m0, m1, m2, m3, m4⟩ := hgr.facts5.1
        have HBf := Lib.hid (HA2.out.trans (HR0.out.2.2.2.mono HA2.out.size))
        clear hqr hgr
        have hjj : j = 0 ∨ j = 1 ∨ j = 2 ∨ j = 3 := by omega
        rcases hjj with rfl | rfl | rfl | rfl
        · rw [show ((0 : Nat) : Int) = (0 : Int) from rfl]
          by_cases hx : s = 0
          · have Hx := Lib.hid hx
            have HBx := Lib.hid (HR0.out.2.2.2.alloc HR0.out.2.2.2.size (.cells #[.string ⟨#[115]⟩, .int .i64 s] 51))
            rw [hx] at q1
            rw [hx] at HBx
            clear hx
            go_wp2
            go_roundw
            case rel => exact ⟨1, by omega, rfl, Lib.hid ⟨by have := Hx.out; simp [this], by omega, by omega, HBx.out⟩⟩
            case measure => simp [intOf]
          · have Hx := Lib.hid hx
            have HBx := Lib.hid (HR0.out.2.2.2.alloc HR0.out.2.2.2.size (.cells #[.string ⟨#[115]⟩, .int .i64 s] 51))
            have HBy := Lib.hid (HBf.out.alloc HBf.out.size (.cells #[.string ⟨#[115]⟩, .int .i64 s] 51))
            cases bS
            · have HL := Lib.hid (LT.out (.inl ⟨rfl, Hx.out⟩))
              go_wp2_with (go_at_call 25; refine (HS.out _).mono ?_; rintro e w' ⟨rfl, rfl⟩)
              go_ret
              exact ⟨by rw [HL.out]; rfl, HBy.out⟩
            · go_wp2_with (go_at_call 25; refine (HS.out _).mono ?_; rintro e w' ⟨rfl, rfl⟩)
              go_roundw
              case rel => exact ⟨1, by omega, rfl, Lib.hid ⟨by simp, by omega, by omega, HBx.out⟩⟩
              case measure => simp [intOf]
        · rw [show ((1 : Nat) : Int) = (1 : Int) from rfl]
          by_cases hx : r = 0
          · have Hx := Lib.hid hx
            have HBx := Lib.hid (HR0.out.2.2.2.alloc HR0.out.2.2.2.size (.cells #[.string ⟨#[114]⟩, .int .i64 r] 51))
            rw [hx] at q3
            rw [hx] at HBx
            clear hx
            go_wp2
            go_roundw
            case rel => exact ⟨2, by omega, rfl, Lib.hid ⟨by have := HR0.out.1 (by omega); simpa using this, by have := Hx.out; simp [this], by omega, HBx.out⟩⟩
            case measure => simp [intOf]
          · have Hx := Lib.hid hx
            have HBx := Lib.hid (HR0.out.2.2.2.alloc HR0.out.2.2.2.size (.cells #[.string ⟨#[114]⟩, .int .i64 r] 51))
            have HBy := Lib.hid (HBf.out.alloc HBf.out.size (.cells #[.string ⟨#[114]⟩, .int .i64 r] 51))
            cases bR
            · have HL := Lib.hid (LT.out (.inr (.inl ⟨rfl, Hx.out⟩)))
              go_wp2_with (go_at_call 25; refine (HR.out _).mono ?_; rintro e w' ⟨rfl, rfl⟩)
              go_ret
              exact ⟨by rw [HL.out]; rfl, HBy.out⟩
            · go_wp2_with (go_at_call 25; refine (HR.out _).mono ?_; rintro e w' ⟨rfl, rfl⟩)
              go_roundw
              case rel => exact ⟨2, by omega, rfl, Lib.hid ⟨by have := HR0.out.1 (by omega); simpa using this, by simp, by omega, HBx.out⟩⟩
              case measure => simp [intOf]
        · rw [show ((2 : Nat) : Int) = (2 : Int) from rfl]
          by_cases hx : c = 0
          · have Hx := Lib.hid hx
            have HBx := Lib.hid (HR0.out.2.2.2.alloc HR0.out.2.2.2.size (.cells #[.string ⟨#[99]⟩, .int .i64 c] 51))
            rw [hx] at q5
            rw [hx] at HBx
            clear hx
            go_wp2
            go_roundw
            case rel => exact ⟨3, by omega, rfl, Lib.hid ⟨by have := HR0.out.1 (by omega); simpa using this, by have := HR0.out.2.1 (by omega); simpa using this, by have := Hx.out; simp [this], HBx.out⟩⟩
            case measure => simp [intOf]
          · have Hx := Lib.hid hx
            have HBx := Lib.hid (HR0.out.2.2.2.alloc HR0.out.2.2.2.size (.cells #[.string ⟨#[99]⟩, .int .i64 c] 51))
            have HBy := Lib.hid (HBf.out.alloc HBf.out.size (.cells #[.string ⟨#[99]⟩, .int .i64 c] 51))
            cases bC
            · have HL := Lib.hid (LT.out (.inr (.inr ⟨rfl, Hx.out⟩)))
              go_wp2_with (go_at_call 25; refine (HC.out _).mono ?_; rintro e w' ⟨rfl, rfl⟩)
              go_ret
              exact ⟨by rw [HL.out]; rfl, HBy.out⟩
            · go_wp2_with (go_at_call 25; refine (HC.out _).mono ?_; rintro e w' ⟨rfl, rfl⟩)
              go_roundw
              case rel => exact ⟨3, by omega, rfl, Lib.hid ⟨by have := HR0.out.1 (by omega); simpa using this, by have := HR0.out.2.1 (by omega); simpa using this, by simp, HBx.out⟩⟩
              case measure => simp [intOf]
        · rw [show ((3 : Nat) : Int) = (3 : Int) from rfl]
          have hno : ¬ ((bS = false ∧ s ≠ 0) ∨ (bR = false ∧ r ≠ 0) ∨ (bC = false ∧ c ≠ 0)) := by
            have h1 := HR0.out.1 (by omega)
            have h2 := HR0.out.2.1 (by omega)
            have h3 := HR0.out.2.2.1 (by omega)
            rintro (h | h | h)
            · exact h1 h
            · exact h2 h
            · exact h3 h
          have M1 := Lib.hid (L1.out hno)
          have M2 := Lib.hid (L2.out hno)
          have M3 := Lib.hid (L3.out hno)
          clear hno q0 q1 q2 q3 q4 q5 L1 L2 L3 LT HS HR HC HR0
          by_cases o1 : s < 0
          · have HM := Lib.hid (M1.out (.inl o1))
            go_wp2
            go_ret
            exact ⟨by rw [HM.out]; rfl, HBf.out⟩
          by_cases o2 : 4294967296 ≤ s
          · have HM := Lib.hid (M1.out (by unfold Wr.Off; omega))
            go_wp2
            go_ret
            exact ⟨by rw [HM.out]; rfl, HBf.out⟩
          by_cases o3 : r < 0
          · have HM := Lib.hid (M1.out (by unfold Wr.Off; omega))
            go_wp2
            go_ret
            exact ⟨by rw [HM.out]; rfl, HBf.out⟩
          by_cases o4 : 4294967296 ≤ r
          · have HM := Lib.hid (M1.out (by unfold Wr.Off; omega))
            go_wp2
            go_ret
            exact ⟨by rw [HM.out]; rfl, HBf.out⟩
          by_cases o5 : c < 0
          · have HM := Lib.hid (M1.out (by unfold Wr.Off; omega))
            go_wp2
            go_ret
            exact ⟨by rw [HM.out]; rfl, HBf.out⟩
          by_cases o6 : 1099511627776 < c
          · have HM := Lib.hid (M1.out (by unfold Wr.Off; omega))
            go_wp2
            go_ret
            exact ⟨by rw [HM.out]; rfl, HBf.out⟩
          have hon : ¬ Wr.Off s r c := by unfold Wr.Off; omega
          by_cases z1 : n < 16
          · have HM := Lib.hid (M2.out hon (.inl z1))
            clear hon
            go_wp2
            go_ret
            exact ⟨by rw [HM.out]; rfl, HBf.out⟩
          by_cases z2 : 236 < n
          · have HM := Lib.hid (M2.out hon (.inr z2))
            clear hon
            go_wp2
            go_ret
            exact ⟨by rw [HM.out]; rfl, HBf.out⟩
          have HM := Lib.hid (M3.out hon (fun h => h.elim z1 z2))
          clear hon
          go_wp2
          go_ret
          exact ⟨by rw [HM.out]; rfl, HBf.out⟩
  · have HE : Hid (Wr.err k s r c n = 2) := Lib.hid (by unfold Wr.err; rw [if_pos hk])
    have h1 : ¬ k = 1 := fun e => hk (.inl e)
    have h2 : ¬ k = 2 := fun e => hk (.inr (.inl e))
    have h4 : ¬ k = 4 := fun e => hk (.inr (.inr e))
    clear hk
    unfold messV
    go_enter Try.func10, Try.ntmps10
    go_wp2
    go_ret
    exact ⟨by rw [HE.out]; rfl, HA.out⟩
end Go.Proofs.Ytfgkodgdoplpbab
