/- Of of package blake by its contract, the chapter's example, and what a nil Hash answers. Condition: the package's table lies at its place. -/
import Derived.Test.YtpampgkhjcfeaaaDoorBkSum
namespace Go.Proofs.YtpampgkhjcfeaaaDoor
set_option maxRecDepth 50000
open Go.RowKit Bl

set_option maxHeartbeats 800000 in
theorem blakeof_bad (w : World) (z : Int) (key : ByteArray) (hbad : z < 1 ∨ 64 < z ∨ 64 < key.size) (A : Option Addr) (m c : Nat) : Calls Tryd.prog 45 #[.int .i64 z, .string key, .slice A m c] w fun e w' => e = .returned (.tuple #[.string ⟨#[]⟩, .int .i64 1]) ∧ w = w' := by
  have C := Lib.hid (newhash_bad z key hbad w)
  clear hbad
  go_enter Tryd.func45, Tryd.ntmps45
  go_wp2_with fail
  refine C.out.mono ?_
  rintro e w1 ⟨rfl, rfl⟩
  go_wp2
  go_ret2
  exact ⟨rfl, rfl⟩

set_option maxHeartbeats 800000 in
theorem blakeof_any (w : World) (n : Nat) (hn1 : 1 ≤ n) (hn : n ≤ 64) (key : ByteArray) (hkl : key.size ≤ 64) (hk : QAt w) (A : Option Addr) (c : Nat) (ps : List ByteArray) (hr : Reads w w.heap.size A (stv ps)) (hlen : (jn ps).length ≤ 800000) (hps : ps.length ≤ 1000000) :
    Calls Tryd.prog 45 #[.int .i64 (n : Int), .string key, .slice A ps.length c] w fun e w' => e = .returned (.tuple #[.string (tx (blkL key.size n (keyL key ++ jn ps))), .int .i64 0]) ∧ Below w.heap.size w w' := by
  have CN := Lib.hid (newhash_any n hn1 hn key hkl w hk)
  have hkeyl : (keyL key).length ≤ 128 := by
    unfold keyL
    split
    · simp
    · rw [fill128_length _ (by rw [tl_length]; omega)]; exact Nat.le_refl _
  have HR := Lib.hid hr
  have HK := Lib.hid hk
  have HL := Lib.hid (And.intro hkl hn)
  clear hr hk hn1
  go_enter Tryd.func45, Tryd.ntmps45
  go_wp2_with fail
  refine CN.out.mono ?_
  rintro e w1 ⟨H, rfl, h1, hb1⟩
  have HB1 := Lib.hid hb1
  have CA := Lib.hid (addhash_any w1 w.heap.size w1.heap.size H key.size n HL.out.1 HL.out.2 (keyL key) h1 (HK.out.next hb1) HK.out.1 A c ps (fun k hk => by
    obtain ⟨b, off, e, hb, hc⟩ := HR.out k hk
    exact ⟨b, off, e, Nat.lt_of_lt_of_le hb hb1.size, .inl hb, (hb1.cell hb).trans hc⟩) (by omega) hps)
  clear h1 hb1 CN
  go_wp2_with fail
  refine CA.out.mono ?_
  rintro e w2 ⟨rfl, h2, hb2⟩
  have HB2 := Lib.hid (HB1.out.trans hb2)
  obtain ⟨S, hS⟩ : ∃ S, S = tx (blkL key.size n (keyL key ++ jn ps)) := ⟨_, rfl⟩
  have CS := Lib.hid (sumhash_any w2 w.heap.size w2.heap.size H key.size n HL.out.1 HL.out.2 (keyL key ++ jn ps) h2 (HK.out.next (HB1.out.trans hb2)) (by rw [List.length_append]; omega))
  rw [← hS] at CS
  have HS := Lib.hid hS
  clear h2 hb2 CA hS
  go_wp2_with fail
  refine CS.out.mono ?_
  rintro e w3 ⟨rfl, hb3⟩
  have HB3 := Lib.hid hb3
  clear hb3 CS
  go_wp2
  go_ret2
  exact ⟨by rw [← HS.out]; rfl, below_step HB2.out HB3.out⟩

theorem sum_abc : blkL 0 64 [97, 98, 99] = [186, 128, 165, 63, 152, 28, 77, 13, 106, 39, 151, 182, 159, 18, 246, 233, 76, 33, 47, 20, 104, 90, 196, 183, 75, 18, 187, 111, 219, 255, 162, 209, 125, 135, 197, 57, 42, 171, 121, 45, 194, 82, 213, 222, 69, 51, 204, 149, 24, 211, 138, 168, 219, 241, 146, 90, 185, 35, 134, 237, 212, 0, 153, 35] := by kernel_rfl

theorem sum_nil (w : World) : Calls Tryd.prog 59 #[.pointer none] w fun e w' => e = .returned (.string ⟨#[]⟩) ∧ w = w' := by
  go_enter Tryd.func59, Tryd.ntmps59
  go_wp2
  go_ret
  exact ⟨rfl, rfl⟩
theorem addhash_nil (A : Option Addr) (n c : Nat) (w : World) : Calls Tryd.prog 58 #[.pointer none, .slice A n c] w fun e w' => e = .returned (.pointer none) ∧ w = w' := by
  go_enter Tryd.func58, Tryd.ntmps58
  go_wp2
  go_ret
  exact ⟨rfl, rfl⟩
end Go.Proofs.YtpampgkhjcfeaaaDoor
