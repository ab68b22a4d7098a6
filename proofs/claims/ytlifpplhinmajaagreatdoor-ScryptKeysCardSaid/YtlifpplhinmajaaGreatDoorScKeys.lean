/- The law ScryptKeys, for every budget, password, salt, log, r, p and size. Conditions: each text is no longer than what may come in; both packages' tables lie at their places. -/
import Derived.Test.YtlifpplhinmajaaGreatDoorScNeeds
import Derived.Test.YtlifpplhinmajaaGreatDoorScRkey
namespace Go.Proofs.YtlifpplhinmajaaGreatDoor
set_option maxRecDepth 50000
open Go.RowKit Bb Sl Sha

set_option maxHeartbeats 3200000 in
theorem skeys_guard (z : Int) (u s : ByteArray) (hu : u.size ≤ 140737488351232) (hs : s.size ≤ 140737488351232) (log r p b : Int) (w : World) (hk : KAt w) (hq : QAt w) (h : z < 0 ∨ 1000 < z ∨ 200 < u.size ∨ 200 < s.size) :
    Calls Tryz.prog 4 #[.int .i64 z, .string u, .string s, .int .i64 log, .int .i64 r, .int .i64 p, .int .i64 b] w fun e w' => e = .returned (.bool true) ∧ Below w.heap.size w w' := by
  have CA := Lib.hid (awake25_any w hk hq)
  clear hk hq
  have hway : z < 0 ∨ (0 ≤ z ∧ 1000 < z) ∨ (0 ≤ z ∧ z ≤ 1000 ∧ 200 < u.size) ∨ (0 ≤ z ∧ z ≤ 1000 ∧ u.size ≤ 200 ∧ 200 < s.size) := by omega
  clear h
  rcases hway with h1 | ⟨h1, h2⟩ | ⟨h1, h2, h3⟩ | ⟨h1, h2, h3, h4⟩
  all_goals
    go_enter Tryz.func4, Tryz.ntmps4
    go_wp2_with fail
    refine CA.out.mono ?_
    rintro e w1 ⟨rfl, hb⟩
    go_wp2
    go_ret
    exact ⟨rfl, hb⟩
set_option maxHeartbeats 3200000 in
theorem skeys_bad (B : Nat) (hB : B ≤ 1000) (u s : ByteArray) (hu : u.size ≤ 200) (hs : s.size ≤ 200) (log r p b : Int) (hF : Bad log r p b) (w : World) (hk : KAt w) (hq : QAt w) :
    Calls Tryz.prog 4 #[.int .i64 (B : Int), .string u, .string s, .int .i64 log, .int .i64 r, .int .i64 p, .int .i64 b] w fun e w' => e = .returned (.bool true) ∧ Below w.heap.size w w' := by
  have CA := Lib.hid (awake25_any w hk hq)
  have CN := Lib.hid fun (W : World) (hb : Below w.heap.size w W) => anew_kit B (by omega) W (hk.next hb) (hq.next hb)
  have CR := Lib.hid (rcheck_bad hF)
  have CK := Lib.hid fun (A : Option Addr) => skey_bad hF A u s
  clear hk hq hF
  go_enter Tryz.func4, Tryz.ntmps4
  go_wp2_with fail
  refine CA.out.mono ?_
  rintro e w1 ⟨rfl, hb⟩
  have HB := Lib.hid hb
  clear hb
  go_wp2_with fail
  refine (CN.out w1 HB.out).mono ?_
  rintro e w2 ⟨a, rfl, hA, _, _, _, _, _, hb⟩
  have HB2 := Lib.hid (below_step HB.out hb)
  have CH := Lib.hid (high_any hA)
  clear hA hb
  go_wp2_with fail
  refine (CR.out _).mono ?_
  rintro e w' ⟨rfl, rfl⟩
  go_wp2_with fail
  refine (CK.out _ _).mono ?_
  rintro e w' ⟨rfl, rfl⟩
  go_wp2_with fail
  refine CH.out.mono ?_
  rintro e w3 ⟨rfl, hb⟩
  have HB3 := Lib.hid (below_step HB2.out hb)
  clear hb
  go_wp2
  go_ret
  exact ⟨rfl, HB3.out⟩
set_option maxHeartbeats 3200000 in
theorem skeys_full (B : Nat) (hB : B ≤ 1000) (u s : ByteArray) (hu : u.size ≤ 200) (hs : s.size ≤ 200) {lg R P n : Nat} (hF : Fine lg R P n) (hn : B < needN lg R P) (w : World) (hk : KAt w) (hq : QAt w) :
    Calls Tryz.prog 4 #[.int .i64 (B : Int), .string u, .string s, .int .i64 (lg : Int), .int .i64 (R : Int), .int .i64 (P : Int), .int .i64 (n : Int)] w fun e w' => e = .returned (.bool true) ∧ Below w.heap.size w w' := by
  have CA := Lib.hid (awake25_any w hk hq)
  have CN := Lib.hid fun (W : World) (hb : Below w.heap.size w W) => anew_kit B (by omega) W (hk.next hb) (hq.next hb)
  have CR := Lib.hid (rcheck_ok hF)
  have CD := Lib.hid (rneed_ok hF)
  have CK := Lib.hid fun (W : World) (a : Nat) (hA : AreAt W a B 0 0 0) => skey_full hA hF (by omega) (by omega) (by omega) u s
  clear hk hq hF
  generalize needN lg R P = D at *
  have hd : decide ((D : Int) > (B : Int)) = true := by simp; omega
  have hd2 : decide ((B : Int) < (D : Int)) = true := by simp; omega
  go_enter Tryz.func4, Tryz.ntmps4
  go_wp2_with fail
  refine CA.out.mono ?_
  rintro e w1 ⟨rfl, hb⟩
  have HB := Lib.hid hb
  clear hb
  go_wp2_with fail
  refine (CN.out w1 HB.out).mono ?_
  rintro e w2 ⟨a, rfl, hA, _, _, _, _, _, hb⟩
  have HB2 := Lib.hid (below_step HB.out hb)
  have HA := Lib.hid hA
  clear hA hb
  go_wp2_with fail
  refine (CR.out _).mono ?_
  rintro e w' ⟨rfl, rfl⟩
  go_wp2_with fail
  refine (CD.out _).mono ?_
  rintro e w' ⟨rfl, rfl⟩
  have CKK := Lib.hid (CK.out _ _ HA.out)
  go_wp2_with fail
  refine CKK.out.mono ?_
  rintro e w3 ⟨rfl, hb⟩
  have HB3 := Lib.hid (below_step HB2.out hb)
  have CH := Lib.hid (high_any (RowAt.below HA.out hb (RowAt.lt HA.out)))
  clear hb
  go_wp2_with fail
  refine CH.out.mono ?_
  rintro e w4 ⟨rfl, hb⟩
  have HB4 := Lib.hid (below_step HB3.out hb)
  clear hb
  go_wp2
  go_ret
  exact ⟨rfl, HB4.out⟩
set_option maxHeartbeats 3200000 in
theorem skeys_much (B : Nat) (hB : B ≤ 1000) (u s : ByteArray) (hu : u.size ≤ 200) (hs : s.size ≤ 200) {lg R P n : Nat} (hF : Fine lg R P n) (hn : needN lg R P ≤ B) (h : 4 < lg ∨ 3 < R ∨ 3 < P) (w : World) (hk : KAt w) (hq : QAt w) :
    Calls Tryz.prog 4 #[.int .i64 (B : Int), .string u, .string s, .int .i64 (lg : Int), .int .i64 (R : Int), .int .i64 (P : Int), .int .i64 (n : Int)] w fun e w' => e = .returned (.bool true) ∧ Below w.heap.size w w' := by
  have CA := Lib.hid (awake25_any w hk hq)
  have CN := Lib.hid fun (W : World) (hb : Below w.heap.size w W) => anew_kit B (by omega) W (hk.next hb) (hq.next hb)
  have CR := Lib.hid (rcheck_ok hF)
  have CD := Lib.hid (rneed_ok hF)
  clear hk hq hF
  generalize needN lg R P = D at *
  have hd : decide ((D : Int) > (B : Int)) = false := by simp; omega
  have hd2 : decide ((B : Int) < (D : Int)) = false := by simp; omega
  have hway : 4 < lg ∨ (lg ≤ 4 ∧ 3 < R) ∨ (lg ≤ 4 ∧ R ≤ 3 ∧ 3 < P) := by omega
  clear h
  rcases hway with h1 | ⟨h1, h2⟩ | ⟨h1, h2, h3⟩
  all_goals
    go_enter Tryz.func4, Tryz.ntmps4
    go_wp2_with fail
    refine CA.out.mono ?_
    rintro e w1 ⟨rfl, hb⟩
    have HB := Lib.hid hb
    clear hb
    go_wp2_with fail
    refine (CN.out w1 HB.out).mono ?_
    rintro e w2 ⟨a, rfl, hA, _, _, _, _, _, hb⟩
    have HB2 := Lib.hid (below_step HB.out hb)
    clear hA hb
    go_wp2_with fail
    refine (CR.out _).mono ?_
    rintro e w' ⟨rfl, rfl⟩
    go_wp2_with fail
    refine (CD.out _).mono ?_
    rintro e w' ⟨rfl, rfl⟩
    go_wp2
    go_ret
    exact ⟨rfl, HB2.out⟩
set_option maxHeartbeats 3200000 in
theorem skeys_good (B : Nat) (hB : B ≤ 1000) (u s : ByteArray) (hu : u.size ≤ 200) (hs : s.size ≤ 200) {lg R P n : Nat} (hF : Fine lg R P n) (hn : needN lg R P ≤ B) (h1 : lg ≤ 4) (h2 : R ≤ 3) (h3 : P ≤ 3) (w : World) (hk : KAt w) (hq : QAt w) :
    Calls Tryz.prog 4 #[.int .i64 (B : Int), .string u, .string s, .int .i64 (lg : Int), .int .i64 (R : Int), .int .i64 (P : Int), .int .i64 (n : Int)] w fun e w' => e = .returned (.bool true) ∧ Below w.heap.size w w' := by
  have CA := Lib.hid (awake25_any w hk hq)
  have CN := Lib.hid fun (W : World) (hb : Below w.heap.size w W) => anew_kit B (by omega) W (hk.next hb) (hq.next hb)
  have CR := Lib.hid (rcheck_ok hF)
  have CD := Lib.hid (rneed_ok hF)
  have hRP : 128 * R * P ≤ 5000 := by have : 128 * R * P ≤ 384 * 3 := Nat.mul_le_mul (by omega) h3; omega
  have CK := Lib.hid fun (W : World) (a : Nat) (hA : AreAt W a B 0 0 0) (hk : KAt W) (hq : QAt W) (h4 : ¬ 2 = a) (h5 : ¬ 0 = a) => skey_any hA hq hk h4 h5 u s (by omega) (by omega) hF (by omega) (by omega) (by omega) hRP
  have CF := Lib.hid fun (W : World) => rskey_any u s (by omega) (by omega) hF (by omega) W
  have CKN := Lib.hid known_any
  obtain ⟨FX, hFX⟩ : ∃ FX, FX = wd (kk ++ hh) := ⟨_, rfl⟩
  rw [← hFX] at CF CKN
  generalize tx (scK (tl u) (tl s) lg R P n) = KV at *
  rw [Nat.zero_max, Nat.zero_add] at CK
  generalize needN lg R P = D at *
  have hd : decide ((D : Int) > (B : Int)) = false := by simp; omega
  have hd2 : decide ((B : Int) < (D : Int)) = false := by simp; omega
  clear hk hq hF hFX hRP
  go_enter Tryz.func4, Tryz.ntmps4
  go_wp2_with fail
  refine CA.out.mono ?_
  rintro e w1 ⟨rfl, hb⟩
  have HB := Lib.hid hb
  clear hb
  go_wp2_with fail
  refine (CN.out w1 HB.out).mono ?_
  rintro e w2 ⟨a, rfl, hA, hk2, hq2, h4, h5, h6, hb⟩
  have HB2 := Lib.hid (below_step HB.out hb)
  have CKK := Lib.hid (CK.out _ _ hA hk2 hq2 h4 h5)
  have HA6 : Hid (w.heap.size ≤ a) := Lib.hid (Nat.le_trans HB.out.size h6)
  clear hA hb hk2 hq2 h4 h5 h6 CK
  go_wp2_with fail
  refine (CR.out _).mono ?_
  rintro e w' ⟨rfl, rfl⟩
  go_wp2_with fail
  refine (CD.out _).mono ?_
  rintro e w' ⟨rfl, rfl⟩
  go_wp2_with fail
  refine CKK.out.mono ?_
  rintro e w3 ⟨rfl, hA, hK⟩
  have HB3 : Hid (Below w.heap.size w w3) := Lib.hid (HB2.out.trans (hK.below HB2.out.size fun x e => by have := HA6.out; omega))
  have CU := Lib.hid (used_any hA)
  have HA := Lib.hid hA
  clear hA hK CKK
  go_wp2_with fail
  refine CU.out.mono ?_
  rintro e w4 ⟨rfl, hb⟩
  have HB4 := Lib.hid (below_step HB3.out hb)
  have CH := Lib.hid (high_any (RowAt.below HA.out hb (RowAt.lt HA.out)))
  clear hb CU
  go_wp2_with fail
  refine CH.out.mono ?_
  rintro e w5 ⟨rfl, hb⟩
  have HB5 := Lib.hid (below_step HB4.out hb)
  clear hb CH
  go_wp2_with fail
  refine (CKN.out _).mono ?_
  rintro e w6 ⟨rfl, hb⟩
  have HB6 := Lib.hid (below_step HB5.out hb)
  clear hb CKN
  go_wp2_with fail
  refine (CF.out _).mono ?_
  rintro e w7 ⟨rfl, hb⟩
  have HB7 := Lib.hid (below_step HB6.out hb)
  clear hb CF
  go_wp2
  go_ret
  exact ⟨rfl, HB7.out⟩
theorem skeys_any (z : Int) (u s : ByteArray) (hu : u.size ≤ 140737488351232) (hs : s.size ≤ 140737488351232) (log r p b : Int) (w : World) (hk : KAt w) (hq : QAt w) :
    Calls Tryz.prog 4 #[.int .i64 z, .string u, .string s, .int .i64 log, .int .i64 r, .int .i64 p, .int .i64 b] w fun e w' => e = .returned (.bool true) ∧ Below w.heap.size w w' := by
  by_cases h : z < 0 ∨ 1000 < z ∨ 200 < u.size ∨ 200 < s.size
  · exact skeys_guard z u s hu hs log r p b w hk hq h
  obtain ⟨B, rfl⟩ : ∃ B : Nat, z = (B : Int) := ⟨z.toNat, by omega⟩
  rcases sc_ways log r p b with ⟨lg, R, P, n, rfl, rfl, rfl, rfl, hF⟩ | hF
  · by_cases hn : B < needN lg R P
    · exact skeys_full B (by omega) u s (by omega) (by omega) hF hn w hk hq
    · by_cases h2 : 4 < lg ∨ 3 < R ∨ 3 < P
      · exact skeys_much B (by omega) u s (by omega) (by omega) hF (by omega) h2 w hk hq
      · exact skeys_good B (by omega) u s (by omega) (by omega) hF (by omega) (by omega) (by omega) (by omega) w hk hq
  · exact skeys_bad B (by omega) u s (by omega) (by omega) log r p b hF w hk hq
end Go.Proofs.YtlifpplhinmajaaGreatDoor
