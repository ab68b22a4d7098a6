/- Key of package scrypt where there is none, by its contracts. Conditions: those typed. -/
import Derived.Test.YtlifpplhinmajaaGreatDoorScNeed
import Derived.Test.YtlifpplhinmajaaGreatDoorAr
import Derived.Defers
namespace Go.Proofs.YtlifpplhinmajaaGreatDoor
set_option maxRecDepth 50000
open Go.RowKit Bb

theorem skey_bad {log r p n : Int} (hF : Bad log r p n) (A : Option Addr) (word S : ByteArray) (w : World) :
    Calls Tryz.prog 12 #[.pointer A, .string word, .string S, .int .i64 log, .int .i64 r, .int .i64 p, .int .i64 n] w fun e w' => e = .returned (.tuple #[.string ⟨#[]⟩, .int .i64 2]) ∧ w = w' := by
  have C1 := Lib.hid (scheck_bad hF)
  clear hF
  go_enter_defers Tryz.func12, Tryz.ntmps12
  go_wp2_with fail
  refine (C1.out _).mono ?_; rintro e w' ⟨rfl, rfl⟩
  go_wp2
  exact ⟨_, results_tmp2 rfl _ _ _, rfl, rfl⟩
set_option maxHeartbeats 1600000 in
theorem skey_nil {lg r p n : Nat} (hF : Fine lg r p n) (word S : ByteArray) (w : World) :
    Calls Tryz.prog 12 #[.pointer none, .string word, .string S, .int .i64 (lg : Int), .int .i64 (r : Int), .int .i64 (p : Int), .int .i64 (n : Int)] w fun e w' => e = .returned (.tuple #[.string ⟨#[]⟩, .int .i64 11]) ∧ Below w.heap.size w w' := by
  have C1 := Lib.hid (scheck_ok hF)
  have C2 := Lib.hid (sneed_ok hF)
  have C3 := Lib.hid ares_nil
  clear hF
  go_enter_defers Tryz.func12, Tryz.ntmps12
  go_wp2_with fail
  refine (C1.out _).mono ?_; rintro e w' ⟨rfl, rfl⟩
  go_wp2_with fail
  refine (C2.out _).mono ?_; rintro e w1 ⟨rfl, hb1⟩
  have HB1 := Lib.hid hb1
  clear hb1
  go_wp2_with fail
  refine (C3.out _ _).mono ?_; rintro e w' ⟨rfl, hw⟩; obtain rfl := hw.symm
  go_wp2
  exact ⟨_, results_tmp2 rfl _ _ _, rfl, HB1.out⟩
set_option maxHeartbeats 1600000 in
theorem skey_full {w : World} {a B u h c : Nat} (hA : AreAt w a B u h c) {lg r p n : Nat} (hF : Fine lg r p n) (hu : u ≤ B) (hB : B ≤ 4194304) (hn : B < u + needN lg r p) (word S : ByteArray) :
    Calls Tryz.prog 12 #[.pointer (some ⟨a, 0, none⟩), .string word, .string S, .int .i64 (lg : Int), .int .i64 (r : Int), .int .i64 (p : Int), .int .i64 (n : Int)] w fun e w' => e = .returned (.tuple #[.string ⟨#[]⟩, .int .i64 4]) ∧ Below w.heap.size w w' := by
  have C1 := Lib.hid (scheck_ok hF)
  have C2 := Lib.hid (sneed_ok hF)
  have C3 := Lib.hid fun (W : World) (hb : Below w.heap.size w W) => ares_full (RowAt.below hA hb (RowAt.lt hA)) (needN lg r p : Nat) (by omega) (by omega) hB hu
  generalize needN lg r p = D at *
  clear hF hA hn
  go_enter_defers Tryz.func12, Tryz.ntmps12
  go_wp2_with fail
  refine (C1.out _).mono ?_; rintro e w' ⟨rfl, rfl⟩
  go_wp2_with fail
  refine (C2.out _).mono ?_; rintro e w1 ⟨rfl, hb1⟩
  have HB1 := Lib.hid hb1
  have C4 := Lib.hid (C3.out w1 hb1)
  clear hb1 C3
  go_wp2_with fail
  refine C4.out.mono ?_; rintro e w2 ⟨rfl, q, hw2⟩
  have HB2 : Hid (Below w.heap.size w w2) := Lib.hid (by rw [hw2]; exact below_drewN HB1.out q)
  clear hw2
  go_wp2
  exact ⟨_, results_tmp2 rfl _ _ _, rfl, HB2.out⟩
end Go.Proofs.YtlifpplhinmajaaGreatDoor
