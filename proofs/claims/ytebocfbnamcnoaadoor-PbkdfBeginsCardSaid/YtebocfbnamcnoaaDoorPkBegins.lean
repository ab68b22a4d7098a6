/- The law PbkdfBegins, for every password, salt, rounds and two sizes. Conditions: each text is no longer than what may come in; the package's table lies at its place. -/
import Derived.Test.YtebocfbnamcnoaaDoorPk
namespace Go.Proofs.YtebocfbnamcnoaaDoor
set_option maxRecDepth 50000
open Go.RowKit Sha

set_option maxHeartbeats 3200000 in
theorem pbegins_any (u s : ByteArray) (hu : u.size ≤ 140737488351232) (hs : s.size ≤ 140737488351232) (m b r : Int) (hr1 : -9223372036854775808 ≤ r) (hr2 : r ≤ 9223372036854775807) (w : World) (hk : KAt w) :
    Calls Tryd.prog 5 #[.string u, .string s, .int .i64 m, .int .i64 b, .int .i64 r] w fun e w' => e = .returned (.bool true) ∧ Below w.heap.size w w' := by
  have HK := Lib.hid hk
  have CR0 := right_any m b
  cases hr : rgt m b
  · rw [hr] at CR0
    have CR := Lib.hid CR0
    clear CR0 hk hr
    go_enter Tryd.func5, Tryd.ntmps5
    go_wp2_with fail
    refine (awake22_any w HK.out).mono ?_
    rintro e w1 ⟨rfl, b1⟩
    go_wp2_with fail
    refine (CR.out _).mono ?_
    rintro e w' ⟨rfl, rfl⟩
    go_wp2
    go_ret
    exact ⟨rfl, b1⟩
  · rw [hr] at CR0
    obtain ⟨g1, g2, n, c, rfl, rfl, n1, n2, c1, c2⟩ := rgt_good hr
    have CR := Lib.hid CR0
    clear CR0 hk hr g1 g2
    have hway : 200 < u.size ∨ (u.size ≤ 200 ∧ 200 < s.size) ∨ (u.size ≤ 200 ∧ s.size ≤ 200 ∧ 10 < n) ∨ (u.size ≤ 200 ∧ s.size ≤ 200 ∧ n ≤ 10 ∧ 200 < c) ∨ (u.size ≤ 200 ∧ s.size ≤ 200 ∧ n ≤ 10 ∧ c ≤ 200 ∧ r < 0) ∨ (u.size ≤ 200 ∧ s.size ≤ 200 ∧ n ≤ 10 ∧ c ≤ 200 ∧ 0 ≤ r ∧ 200 < r) ∨ (u.size ≤ 200 ∧ s.size ≤ 200 ∧ n ≤ 10 ∧ c ≤ 200 ∧ 0 ≤ r ∧ r ≤ 200) := by omega
    rcases hway with h1 | ⟨h1, h2⟩ | ⟨h1, h2, h3⟩ | ⟨h1, h2, h3, h4⟩ | ⟨h1, h2, h3, h4, h5⟩ | ⟨h1, h2, h3, h4, h5, h6⟩ | ⟨h1, h2, h3, h4, h5, h6⟩
    iterate 6
      · go_enter Tryd.func5, Tryd.ntmps5
        go_wp2_with fail
        refine (awake22_any w HK.out).mono ?_
        rintro e w1 ⟨rfl, b1⟩
        go_wp2_with fail
        refine (CR.out _).mono ?_
        rintro e w' ⟨rfl, rfl⟩
        go_wp2
        go_ret
        exact ⟨rfl, b1⟩
    obtain ⟨q, rfl⟩ : ∃ q : Nat, r = (q : Int) := ⟨r.toNat, by omega⟩
    have CK := fun (W : World) (hW : KAt W) => key_good u s n c (by omega) (by omega) (by omega) (by omega) W hW
    have CL := fun (W : World) (hW : KAt W) => key_good u s n (c + q) (by omega) (by omega) (by omega) (by omega) W hW
    have ek := pkK_begins (tl u) (tl s) n c q
    have l1 := pkK_length (tl u) (tl s) n c
    have l2 := pkK_length (tl u) (tl s) n (c + q)
    generalize pkK (tl u) (tl s) n c = X at *
    generalize pkK (tl u) (tl s) n (c + q) = Y at *
    obtain ⟨TX, hTX⟩ : ∃ TX, TX = tx X := ⟨_, rfl⟩
    obtain ⟨TY, hTY⟩ : ∃ TY, TY = tx Y := ⟨_, rfl⟩
    rw [← hTX] at CK
    rw [← hTY] at CL
    have s1 : TX.size = c := by rw [hTX, tx_size, l1]
    have s2 : TY.size = c + q := by rw [hTY, tx_size, l2]
    have e1 : TY.extract 0 c = TX := by
      rw [hTX, hTY, ← ek]
      refine tl_inj ?_
      rw [tl_tx]
      unfold tl tx
      rw [ByteArray.data_extract]
      simp [List.extract_eq_take_drop]
    have hsum : (c : Int) + (q : Int) = ((c + q : Nat) : Int) := by omega
    have CK := Lib.hid CK
    have CL := Lib.hid CL
    have E1 := Lib.hid e1
    have S1 := Lib.hid s1
    have S2 := Lib.hid s2
    clear hTX hTY ek l1 l2 e1 s1 s2
    generalize hz : c + q = z at *
    have hz1 : c ≤ z := by omega
    have hz2 : z ≤ 400 := by omega
    clear hz
    go_enter Tryd.func5, Tryd.ntmps5
    go_wp2_with fail
    refine (awake22_any w HK.out).mono ?_
    rintro e w1 ⟨rfl, b1⟩
    have B1 := Lib.hid b1
    clear b1
    go_wp2_with fail
    refine (CR.out _).mono ?_
    rintro e w' ⟨rfl, rfl⟩
    go_wp2_with fail
    refine (CK.out _ (HK.out.next B1.out)).mono ?_
    rintro e w2 ⟨rfl, b2⟩
    have B2 := Lib.hid (below_step B1.out b2)
    clear b2
    go_wp2_with fail
    refine (CL.out _ (HK.out.next B2.out)).mono ?_
    rintro e w3 ⟨rfl, b3⟩
    have B3 := Lib.hid (below_step B2.out b3)
    clear b3
    have t1 : (TX.size : Int) = (c : Int) := by rw [S1.out]
    have t2 : (TY.size : Int) = (z : Int) := by rw [S2.out]
    have t3 := E1.out
    go_wp2
    go_ret
    exact ⟨rfl, B3.out⟩
end Go.Proofs.YtebocfbnamcnoaaDoor
