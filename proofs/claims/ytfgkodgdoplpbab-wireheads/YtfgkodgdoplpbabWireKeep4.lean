/- The contract of the laws' helper message, of every kind. -/
import Derived.Test.YtfgkodgdoplpbabWireKeep2
import Derived.Test.YtfgkodgdoplpbabWireKeep3
import Derived.Test.YtfgkodgdoplpbabWirePlain2
namespace Go.Proofs.Ytfgkodgdoplpbab
open Go.RowKit

theorem keep_message (k a b : Int) (s : ByteArray) (w : World) (hb : (-9223372036854775808 ≤ k ∧ k ≤ 9223372036854775807) ∧ (-9223372036854775808 ≤ a ∧ a ≤ 9223372036854775807) ∧ (-9223372036854775808 ≤ b ∧ b ≤ 9223372036854775807)) :
    Calls Try.prog 16 #[rawV k a b s] w fun e w' => ∃ gb, e = .returned (messV (Wr.gk k) (Wr.gs k a) (Wr.gr k a b) (Wr.gc k b) (some ⟨gb, 0, none⟩) (Wr.gn k s) (Wr.gn k s)) ∧ BytesAt w' w'.heap.size (some ⟨gb, 0, none⟩) (Wr.gn k s) (Wr.gb k s) ∧ Below w.heap.size w w' := by
  obtain ⟨⟨k0, k1⟩, ⟨a0, a1⟩, b0, b1⟩ := hb
  have hp := pick_lt k 3 (by decide)
  have h3 : pick k 3 = 0 ∨ pick k 3 = 1 ∨ pick k 3 = 2 := by omega
  rcases h3 with h | h | h
  · exact keep_message_0 k a b s w k0 k1 a0 a1 b0 b1 h
  · exact keep_message_1 k a b s w k0 k1 a0 a1 b0 b1 h
  · exact keep_message_2 k a b s w k0 k1 a0 a1 b0 b1 h
/-- What is encoded has its size. -/
theorem Wr.g_len (k a b : Int) (s : ByteArray) : 32 ≤ (Wr.enc (Wr.gk k) (Wr.gs k a) (Wr.gr k a b) (Wr.gc k b) (Wr.gb k s)).length ∧ (Wr.enc (Wr.gk k) (Wr.gs k a) (Wr.gr k a b) (Wr.gc k b) (Wr.gb k s)).length ≤ 252 := by
  rw [Wr.enc_length, Wr.gb_length]
  obtain ⟨h, _, _, h1, h2⟩ := Wr.err_zero.1 (Wr.g_good k a b s)
  rw [Int.toNat_natCast] at h1 h2
  rcases Wr.nat_known h with e | e | e <;> rw [e] at h1 h2 ⊢ <;> simp [Wr.least, Wr.most, Wr.head, Wr.szS, Wr.szR, Wr.szC] at * <;> omega
end Go.Proofs.Ytfgkodgdoplpbab
