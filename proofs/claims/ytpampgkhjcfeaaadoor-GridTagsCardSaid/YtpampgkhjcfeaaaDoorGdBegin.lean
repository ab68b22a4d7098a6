/- Begin of package grid by its contract. Condition: blake's table lies at its place. -/
import Derived.Test.YtpampgkhjcfeaaaDoorGdFirst
namespace Go.Proofs.YtpampgkhjcfeaaaDoor
set_option maxRecDepth 50000
open Go.RowKit Bb Bl

/-- the blocks when k columns of lane i are begun, behind M; and when n lanes are -/
def begIn (s : ByteArray) (c : Nat) (M : List (List Nat)) (i : Nat) : Nat → List (List Nat)
  | 0 => M
  | k + 1 => (begIn s c M i k).set (i * c + k) (fB s i k)
def begTo (s : ByteArray) (c : Nat) (L : List (List Nat)) : Nat → List (List Nat)
  | 0 => L
  | n + 1 => begIn s c (begTo s c L n) n 2
theorem begIn_len (s : ByteArray) (c : Nat) (M : List (List Nat)) (i : Nat) : ∀ k, (begIn s c M i k).length = M.length
  | 0 => rfl
  | k + 1 => by rw [begIn, List.length_set]; exact begIn_len s c M i k
theorem begTo_len (s : ByteArray) (c : Nat) (L : List (List Nat)) : ∀ n, (begTo s c L n).length = L.length
  | 0 => rfl
  | n + 1 => by rw [begTo, begIn_len]; exact begTo_len s c L n

section
variable {w : World} {q p h G a t l m b c g z : Nat} {L : List (List Nat)}
set_option maxHeartbeats 6400000 in
theorem begin_any {N0 : Nat} (h0 : 0 < N0) (hN0 : N0 ≤ G) (hk : QAt w) (hG : GrAt w q p h G a t l m b c g z L) (hl : l ≤ 1000) (hc0 : 2 ≤ c) (hc : c ≤ 4194304) (hL : L.length = l * c) (hLm : L.length ≤ 4194304) (s : ByteArray) (hs : s.size ≤ 1000) :
    Calls Tryd.prog 10 #[.pointer (some ⟨q, 0, none⟩), .string s] w fun e w' => e = .returned (.int .i64 0) ∧ GrAt w' q p h G a t l m b c g z (begTo s c L l) ∧ Kept (fun j => j = G) w w' := by
  have hGw : G < w.heap.size := hG.live.blk.lt
  have HQ : Hid (∀ u, Kept (fun j => j = G) w u → QAt u) := Lib.hid fun u hu => hk.below (hu.below (B := N0) (by omega) fun x hx => by omega) h0
  have k0 := hG.row.lanes
  have HG := Lib.hid hG
  have HL := Lib.hid hL
  have HLm := Lib.hid hLm
  have HS := Lib.hid hs
  clear hk hG hL hLm hs
  go_enter Tryd.func10, Tryd.ntmps10
  go_wp2
  go_loopw [15] (fun v15 wr => ∃ i : Nat, i ≤ l ∧ v15 = .int .i64 (i : Int) ∧ Hid (GrAt wr q p h G a t l m b c g z (begTo s c L i)) ∧ Hid (Kept (fun j => j = G) w wr)) (fun v15 _ => l - (intOf v15).toNat)
  case atStart => exact ⟨0, Nat.zero_le _, rfl, HG, Lib.hid (Kept.refl _ _)⟩
  case round =>
    obtain ⟨i, hi, rfl, HGi, HKi⟩ := hrel
    clear k0
    by_cases hil : i < l
    · have hd1 : decide ((i : Int) < (l : Int)) = true := by simp; omega
      have hd2 : decide (i < l) = true := by simp; omega
      have hic : (i + 1) * c ≤ l * c := Nat.mul_le_mul_right c hil
      rw [Nat.add_mul, Nat.one_mul, ← HL.out, ← begTo_len s c L i] at hic
      have HIC := Lib.hid hic
      have HLL := Lib.hid (begTo_len s c L i)
      have HE : Hid (begTo s c L (i + 1) = begIn s c (begTo s c L i) i 2) := Lib.hid rfl
      generalize begTo s c L i = M at *
      clear hic
      go_wp2
      go_loopw [18] (fun v18 wr => ∃ k : Nat, k ≤ 2 ∧ v18 = .int .i64 (k : Int) ∧ Hid (GrAt wr q p h G a t l m b c g z (begIn s c M i k)) ∧ Hid (Kept (fun j => j = G) w wr)) (fun v18 _ => 2 - (intOf v18).toNat)
      case atStart => exact ⟨0, Nat.zero_le _, rfl, HGi, HKi⟩
      case round =>
        obtain ⟨k, hk, rfl, HGk, HKk⟩ := hrel
        by_cases hk2 : k < 2
        · have hd3 : decide ((k : Int) < 2) = true := by simp; omega
          have hd4 : decide (k < 2) = true := by simp; omega
          obtain ⟨n, hn⟩ : ∃ n, n = i * c + k := ⟨_, rfl⟩
          have hnL : n < (begIn s c M i k).length := by rw [begIn_len, hn]; have := HIC.out; omega
          have CF := Lib.hid (gfirst_any s HS.out i k (by omega) (by omega) wr (HQ.out _ HKk.out))
          have HX := Lib.hid (fB_ok s i k)
          have HB2 : Hid (begIn s c M i (k + 1) = (begIn s c M i k).set n (fB s i k)) := Lib.hid (by rw [begIn, hn])
          have HMl := Lib.hid (show (begIn s c M i k).length ≤ 4194304 by rw [begIn_len, HLL.out]; exact HLm.out)
          have HNL := Lib.hid hnL
          have HN := Lib.hid hn.symm
          clear hn hnL
          generalize fB s i k = x at *
          go_wp2_with (refine wpList_value_want rfl _ (so_run rfl rfl rfl) ?_)
          refine CF.out.mono ?_
          rintro e w2 ⟨rfl, hb⟩
          have CS := Lib.hid (gstore_any (HGk.out.step hb) (by omega) (by omega) i k n hil (by omega) HN.out HNL.out HMl.out HX.out)
          have HK2 := Lib.hid (HKk.out.trans (Kept.of_below (M := fun j => j = G) hb) fun _ _ h => h)
          clear CF hb HGk HKk
          go_wp2_with fail
          refine CS.out.mono ?_
          rintro e w3 ⟨rfl, hg, hkk⟩
          rw [← HB2.out] at hg
          have HG3 := Lib.hid hg
          have HK3 := Lib.hid (HK2.out.trans hkk fun _ _ h => h)
          clear CS hg hkk HK2
          go_wp2
          go_roundw
          case rel => exact ⟨k + 1, by omega, by go_num, HG3, HK3⟩
          case measure => simp [intOf]; omega
        · obtain rfl : k = 2 := by omega
          go_wp2
          go_roundw
          case rel => exact ⟨i + 1, by omega, by go_num, Lib.hid (by rw [HE.out]; exact HGk.out), HKk⟩
          case measure => simp [intOf]; omega
    · obtain rfl : i = l := by omega
      have hd1 : decide ((i : Int) < (i : Int)) = false := by simp
      go_wp2
      go_ret
      exact ⟨rfl, HGi.out, HKi.out⟩
end
end Go.Proofs.YtpampgkhjcfeaaaDoor
