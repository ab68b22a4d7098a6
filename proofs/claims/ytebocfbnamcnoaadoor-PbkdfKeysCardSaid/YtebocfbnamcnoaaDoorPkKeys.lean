/- The law PbkdfKeys, for every password, salt, rounds and size. Conditions: each text is no longer than what may come in; the package's table lies at its place. -/
import Derived.Test.YtebocfbnamcnoaaDoorPk
namespace Go.Proofs.YtebocfbnamcnoaaDoor
set_option maxRecDepth 50000
open Go.RowKit Sha

set_option maxHeartbeats 1600000 in
theorem pkeys_any (u s : ByteArray) (hu : u.size ≤ 140737488351232) (hs : s.size ≤ 140737488351232) (m b : Int) (w : World) (hk : KAt w) :
    Calls Tryd.prog 3 #[.string u, .string s, .int .i64 m, .int .i64 b] w fun e w' => e = .returned (.bool true) ∧ Below w.heap.size w w' := by
  have HK := Lib.hid hk
  have CR0 := right_any m b
  cases hr : rgt m b
  · rw [hr] at CR0
    have CR := Lib.hid CR0
    have CK := Lib.hid (key_bad u s m b (rgt_bad hr))
    have CC := Lib.hid (check_bad m b (rgt_bad hr))
    clear CR0 hk hr
    go_enter Tryd.func3, Tryd.ntmps3
    go_wp2_with fail
    refine (awake22_any w HK.out).mono ?_
    rintro e w1 ⟨rfl, b1⟩
    go_wp2_with fail
    refine (CR.out _).mono ?_
    rintro e w' ⟨rfl, rfl⟩
    go_wp2_with fail
    refine (CK.out _).mono ?_
    rintro e w' ⟨rfl, rfl⟩
    go_wp2_with fail
    refine (CC.out _).mono ?_
    rintro e w' ⟨rfl, rfl⟩
    go_wp2
    go_ret
    exact ⟨rfl, b1⟩
  · rw [hr] at CR0
    obtain ⟨g1, g2, n, c, rfl, rfl, n1, n2, c1, c2⟩ := rgt_good hr
    have CR := Lib.hid CR0
    have CC := Lib.hid (check_ok n c g1 g2)
    clear CR0 hk hr g1 g2
    have hway : 200 < u.size ∨ (u.size ≤ 200 ∧ 200 < s.size) ∨ (u.size ≤ 200 ∧ s.size ≤ 200 ∧ 4 < n) ∨ (u.size ≤ 200 ∧ s.size ≤ 200 ∧ n ≤ 4 ∧ 100 < c) ∨ (u.size ≤ 200 ∧ s.size ≤ 200 ∧ n ≤ 4 ∧ c ≤ 100) := by omega
    rcases hway with h1 | ⟨h1, h2⟩ | ⟨h1, h2, h3⟩ | ⟨h1, h2, h3, h4⟩ | ⟨h1, h2, h3, h4⟩
    iterate 4
      · go_enter Tryd.func3, Tryd.ntmps3
        go_wp2_with fail
        refine (awake22_any w HK.out).mono ?_
        rintro e w1 ⟨rfl, b1⟩
        go_wp2_with fail
        refine (CR.out _).mono ?_
        rintro e w' ⟨rfl, rfl⟩
        go_wp2_with fail
        refine (CC.out _).mono ?_
        rintro e w' ⟨rfl, rfl⟩
        go_wp2
        go_ret
        exact ⟨rfl, b1⟩
    have CK := fun (W : World) (hW : KAt W) => key_good u s n c (by omega) (by omega) (by omega) (by omega) W hW
    have CF := fun (W : World) => rkey_any u s (by omega) (by omega) n c (by omega) (by omega) W
    have CKN := known_any
    obtain ⟨FX, hFX⟩ : ∃ FX, FX = wd (kk ++ hh) := ⟨_, rfl⟩
    rw [← hFX] at CF CKN
    generalize tx (pkK (tl u) (tl s) n c) = X at *
    have CK := Lib.hid CK
    have CF := Lib.hid CF
    have CKN := Lib.hid CKN
    clear hFX
    go_enter Tryd.func3, Tryd.ntmps3
    go_wp2_with fail
    refine (awake22_any w HK.out).mono ?_
    rintro e w1 ⟨rfl, b1⟩
    have B1 := Lib.hid b1
    clear b1
    go_wp2_with fail
    refine (CR.out _).mono ?_
    rintro e w' ⟨rfl, rfl⟩
    go_wp2_with fail
    refine (CC.out _).mono ?_
    rintro e w' ⟨rfl, rfl⟩
    go_wp2_with fail
    refine (CK.out _ (HK.out.next B1.out)).mono ?_
    rintro e w2 ⟨rfl, b2⟩
    have B2 := Lib.hid (below_step B1.out b2)
    clear b2
    go_wp2_with fail
    refine (CKN.out w2).mono ?_
    rintro e w3 ⟨rfl, b3⟩
    have B3 := Lib.hid (below_step B2.out b3)
    clear b3
    go_wp2_with fail
    refine (CF.out _).mono ?_
    rintro e w4 ⟨rfl, b4⟩
    have B4 := Lib.hid (below_step B3.out b4)
    clear b4
    go_wp2
    go_ret
    exact ⟨rfl, B4.out⟩
end Go.Proofs.YtebocfbnamcnoaaDoor
