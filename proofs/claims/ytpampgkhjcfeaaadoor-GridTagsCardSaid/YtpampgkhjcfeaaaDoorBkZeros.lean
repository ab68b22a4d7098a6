/- zeros of the document: a text filled up with zero bytes. No condition. -/
import Derived.Test.YtpampgkhjcfeaaaDoorBkSum
namespace Go.Proofs.YtpampgkhjcfeaaaDoor
set_option maxRecDepth 50000
open Go.RowKit Bl

/-- a text with zeros behind it, up to 128 bytes -/
def zp (s : ByteArray) (k : Nat) : ByteArray := tx (tl s ++ List.replicate k 0)
theorem zp_size (s : ByteArray) (k : Nat) : (zp s k).size = s.size + k := by
  unfold zp
  rw [tx_size, List.length_append, List.length_replicate, tl_length]
theorem zp_zero (s : ByteArray) : zp s 0 = s := by simp [zp, tx, tl]
theorem zp_succ (s : ByteArray) (k : Nat) : zp s k ++ (⟨#[0]⟩ : ByteArray) = zp s (k + 1) := by
  unfold zp tx
  rw [List.replicate_succ', ← List.append_assoc]
  ext1
  simp
set_option maxHeartbeats 1600000 in
theorem zeros_any (s : ByteArray) (hs : s.size ≤ 128) (w : World) : Calls Tryd.prog 65 #[.string s, .int .i64 128] w fun e w' => e = .returned (.string (zp s (128 - s.size))) ∧ w' = w := by
  have H0 := Lib.hid (zp_zero s)
  go_enter Tryd.func65, Tryd.ntmps65
  go_wp2
  go_loopw [0] (fun v0 wr => ∃ k : Nat, s.size + k ≤ 128 ∧ v0 = .string (zp s k) ∧ wr = w) (fun v0 _ => 128 - (match v0 with | .string x => x.size | _ => 0))
  case atStart => exact ⟨0, by omega, by rw [H0.out], rfl⟩
  case round =>
    obtain ⟨k, hk, rfl, rfl⟩ := hrel
    have HZ := Lib.hid (zp_size s k)
    have HS := Lib.hid (zp_succ s k)
    have hz1 : (zp s k).size ≤ 128 := by rw [HZ.out]; omega
    by_cases h : s.size + k < 128
    · have hdt : decide (((zp s k).size : Int) < 128) = true := by rw [HZ.out]; simp; omega
      have hz3 : (zp s k).size + 1 ≤ 128 := by rw [HZ.out]; omega
      go_wp2
      rw [HS.out]
      refine ⟨⟨k + 1, by omega, rfl, trivial⟩, ?_⟩
      have h1 := HZ.out
      have h2 := zp_size s (k + 1)
      simp only
      omega
    · have hdt : decide (((zp s k).size : Int) < 128) = false := by rw [HZ.out]; simp; omega
      obtain rfl : k = 128 - s.size := by omega
      go_wp2
      go_ret
      exact ⟨rfl, rfl⟩
end Go.Proofs.YtpampgkhjcfeaaaDoor
