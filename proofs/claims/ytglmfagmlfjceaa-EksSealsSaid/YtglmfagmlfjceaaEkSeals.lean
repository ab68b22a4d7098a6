/- The law EksSeals, out of what package eks and the document's side answer. Conditions: those typed. -/
import Derived.Test.YtglmfagmlfjceaaEkSetups
import Derived.Test.YtglmfagmlfjceaaEkSealed
import Derived.Test.YtglmfagmlfjceaaEkRseal
namespace Go.Proofs.Ytglmfagmlfjceaa
set_option maxRecDepth 50000
open Go.RowKit Ci Rot

theorem seals_key (key : ByteArray) (h : key.size = 0 ∨ 72 < key.size) (t : Int) (A : Option Addr) (n c : Nat) (w : World) :
    Calls Try.prog 4 #[.string key, .int .i64 t, .slice A n c] w fun e w' => e = .returned (.bool true) ∧ Below w.heap.size w w' := by
  have HN := Lib.hid (fun w1 : World => new_bad key h w1)
  have HS := Lib.hid (fun w1 : World => seal_nil t A n c w1)
  clear h
  go_enter Try.func4, Try.ntmps4
  go_wp2_with fail
  refine (awake11_any w).mono ?_
  rintro e w1 ⟨rfl, rfl⟩
  go_wp2_with fail
  refine (HN.out _).mono ?_
  rintro e w2 ⟨rfl, rfl⟩
  go_wp2_with fail
  refine (HS.out _).mono ?_
  rintro e w3 ⟨rfl, rfl⟩
  go_wp2
  go_ret
  exact ⟨rfl, Below.refl _ _⟩

theorem seals_many (key : ByteArray) (h0 : key.size ≠ 0) (h : key.size ≤ 72) (t : Int) (A : Option Addr) (n c : Nat) (hn : 40 < n) (w : World) :
    Calls Try.prog 4 #[.string key, .int .i64 t, .slice A n c] w fun e w' => e = .returned (.bool true) ∧ Below w.heap.size w w' := by
  have HN := Lib.hid (fun w1 : World => new_any key h0 h w1)
  have HS := Lib.hid (fun w1 : World => seal_nil t A n c w1)
  have hnI : (40 : Int) < (n : Int) := by omega
  clear h
  go_enter Try.func4, Try.ntmps4
  go_wp2_with fail
  refine (awake11_any w).mono ?_
  rintro e w1 ⟨rfl, rfl⟩
  go_wp2_with fail
  refine (HN.out _).mono ?_
  rintro e w2 ⟨b, rfl, _, _, hb2⟩
  have H2 := Lib.hid hb2
  clear hb2
  go_wp2_with fail
  refine (HS.out _).mono ?_
  rintro e w3 ⟨rfl, rfl⟩
  go_wp2
  go_ret
  exact ⟨rfl, H2.out⟩

theorem seals_arg (key : ByteArray) (h0 : key.size ≠ 0) (h : key.size ≤ 72) (t : Int) (ht : t < 0 ∨ 1024 < t) (A : Option Addr) (n c : Nat) (hn : n ≤ 40) (w : World) :
    Calls Try.prog 4 #[.string key, .int .i64 t, .slice A n c] w fun e w' => e = .returned (.bool true) ∧ Below w.heap.size w w' := by
  have HN := Lib.hid (fun w1 : World => new_any key h0 h w1)
  have HS := Lib.hid (fun w1 : World => seal_nil t A n c w1)
  have HA := Lib.hid (fun (w1 : World) (b : Nat) => seal_arg b t ht A n c w1)
  have hnI : (n : Int) ≤ 40 := by omega
  have hc : t < 0 ∨ (0 ≤ t ∧ 1024 < t) := by omega
  clear h ht
  rcases hc with h1 | ⟨h1, h2⟩
  all_goals
    go_enter Try.func4, Try.ntmps4
    go_wp2_with fail
    refine (awake11_any w).mono ?_
    rintro e w1 ⟨rfl, rfl⟩
    go_wp2_with fail
    refine (HN.out _).mono ?_
    rintro e w2 ⟨b, rfl, _, _, hb2⟩
    have H2 := Lib.hid hb2
    clear hb2
    go_wp2_with fail
    refine (HS.out _).mono ?_
    rintro e w3 ⟨rfl, rfl⟩
    go_wp2_with fail
    refine (HA.out _ b).mono ?_
    rintro e w4 ⟨rfl, rfl⟩
    go_wp2
    go_ret
    exact ⟨rfl, H2.out⟩

theorem seals_odd (key : ByteArray) (h0 : key.size ≠ 0) (h : key.size ≤ 72) (t : Nat) (ht : t ≤ 1024) (A : Option Addr) (n c : Nat) (hn : n ≤ 40) (ho : n % 2 = 1) (w : World) :
    Calls Try.prog 4 #[.string key, .int .i64 (t : Int), .slice A n c] w fun e w' => e = .returned (.bool true) ∧ Below w.heap.size w w' := by
  have HN := Lib.hid (fun w1 : World => new_any key h0 h w1)
  have HS := Lib.hid (fun w1 : World => seal_nil t A n c w1)
  have HA := Lib.hid (fun (w1 : World) (b : Nat) => seal_size b t ht A n c ho w1)
  have hnI : (n : Int) ≤ 40 := by omega
  have htI : (t : Int) ≤ 1024 := by omega
  have hm : ((n : Int)).tmod 2 = 1 := by rw [Int.tmod_eq_emod_of_nonneg (by omega)]; omega
  have hm2 : ((n : Int)) % 2 = 1 := by omega
  clear h ht ho
  go_enter Try.func4, Try.ntmps4
  go_wp2_with fail
  refine (awake11_any w).mono ?_
  rintro e w1 ⟨rfl, rfl⟩
  go_wp2_with fail
  refine (HN.out _).mono ?_
  rintro e w2 ⟨b, rfl, _, _, hb2⟩
  have H2 := Lib.hid hb2
  clear hb2
  go_wp2_with fail
  refine (HS.out _).mono ?_
  rintro e w3 ⟨rfl, rfl⟩
  go_wp2_with fail
  refine (HA.out _ b).mono ?_
  rintro e w4 ⟨rfl, rfl⟩
  go_wp2
  go_ret
  exact ⟨rfl, H2.out⟩

set_option maxHeartbeats 4000000 in
theorem seals_even (key : ByteArray) (h0 : key.size ≠ 0) (h : key.size ≤ 72) (t : Nat) (ht : t ≤ 1024) (A : Option Addr) (n c m : Nat) (hn : n ≤ 40) (hm : n = 2 * m) (xs : List Nat) (hl : xs.length = n) (hx : ∀ v ∈ xs, v < 4294967296) (w : World) (hR : Reads w w.heap.size A (u32s xs)) :
    Calls Try.prog 4 #[.string key, .int .i64 (t : Int), .slice A n c] w fun e w' => e = .returned (.bool true) ∧ Below w.heap.size w w' := by
  obtain ⟨G, hG⟩ : ∃ G, G = exB wordN ⟨#[]⟩ key := ⟨_, rfl⟩
  have hGo : Ok G := by rw [hG]; exact exB_ok wordN_ok _ _
  have hNw := fun w1 : World => new_any key h0 h w1
  have hX := fun (w1 : World) (d c : Nat) (hT : RTab w1 d wordN) => rexpand_any w1 d c wordN hT wordN_ok ⟨#[]⟩ key (by decide) (by omega)
  rw [← hG] at hNw hX
  have HN := Lib.hid hNw
  have HX := Lib.hid hX
  obtain ⟨x, hxd⟩ : ∃ x : Nat → Nat, x = fun j => xs.getD j 0 := ⟨_, rfl⟩
  have hxe : ∀ j, j < n → xs[j]? = some (x j) := fun j hj => by
    rw [hxd]
    show xs[j]? = some (xs.getD j 0)
    rw [List.getD_eq_getElem?_getD, List.getElem?_eq_getElem (by omega)]
    rfl
  have HS := Lib.hid (fun w1 : World => seal_nil t A n c w1)
  have HA := Lib.hid (fun (w1 : World) (b : Nat) (hT : Tab w1 b 55 G) (hR : Reads w1 w1.heap.size A (u32s xs)) => seal_any w1 b G hT hGo t ht A n c m hm hn xs hl hx hR x hxe)
  have HB := Lib.hid (fun (w1 : World) (d cd : Nat) (hT : RTab w1 d G) (hR : Reads w1 w1.heap.size A (u32s xs)) => rseal_any w1 d cd G hT hGo t ht A n c m hm hn xs hl hx hR x hxe)
  have hnI : (n : Int) ≤ 40 := by omega
  have htI : (t : Int) ≤ 1024 := by omega
  have hm1 : ((n : Int)).tmod 2 = 0 := by rw [Int.tmod_eq_emod_of_nonneg (by omega)]; omega
  have hm2 : ((n : Int)) % 2 = 0 := by omega
  have HR := Lib.hid hR
  clear h ht hm hl hx hxe hxd hR hNw hX hG hGo
  go_enter Try.func4, Try.ntmps4
  go_wp2_with fail
  refine (awake11_any w).mono ?_
  rintro e w1 ⟨rfl, rfl⟩
  go_wp2_with fail
  refine (HN.out _).mono ?_
  rintro e w2 ⟨b, rfl, hT2, _, hb2⟩
  have H2 := Lib.hid (And.intro hT2 (And.intro hb2 ((HR.out.below hb2).more hb2.size)))
  clear hT2 hb2
  go_wp2_with fail
  refine (HS.out _).mono ?_
  rintro e w3 ⟨rfl, rfl⟩
  go_wp2_with fail
  refine (HA.out _ b H2.out.1 H2.out.2.2).mono ?_
  rintro e w4 ⟨d, rfl, hN4, hb4⟩
  have H4 := Lib.hid (And.intro hN4 (And.intro (H2.out.2.1.trans (hb4.mono H2.out.2.1.size)) ((H2.out.2.2.below hb4).more hb4.size)))
  clear hN4 hb4
  go_wp2_with fail
  refine (rplain_any w4).mono ?_
  rintro e w5 ⟨p, cp, rfl, hT5, _, hb5⟩
  have H5 := Lib.hid (And.intro hT5 (And.intro (H4.out.1.below hb5 H4.out.1.lt) (And.intro (H4.out.2.1.trans (hb5.mono H4.out.2.1.size)) ((H4.out.2.2.below hb5).more hb5.size))))
  clear hT5 hb5
  go_wp2_with fail
  refine (HX.out w5 p cp H5.out.1).mono ?_
  rintro e w6 ⟨p2, rfl, hT6, _, hb6⟩
  have H6 := Lib.hid (And.intro hT6 (And.intro (H5.out.2.1.below hb6 H5.out.2.1.lt) (And.intro (H5.out.2.2.1.trans (hb6.mono H5.out.2.2.1.size)) ((H5.out.2.2.2.below hb6).more hb6.size))))
  clear hT6 hb6
  go_wp2_with fail
  refine (HB.out w6 p2 1042 H6.out.1 H6.out.2.2.2).mono ?_
  rintro e w7 ⟨v, rfl, hown, hb7⟩
  obtain ⟨A7, c7, rfl, hl7, hpos, hml⟩ := own_form hown
  clear hl7 hml
  have H7 : Hid (NRow w7 d n (sq G x t) ∧ Reads w7 w7.heap.size A7 (u32s (sqL G x t n)) ∧ Below w1.heap.size w1 w7 ∧ (0 < n → ∃ g, A7 = some ⟨g, 0, none⟩)) :=
    Lib.hid ⟨H6.out.2.1.below hb7 H6.out.2.1.lt, Reads.of_own hown, H6.out.2.2.1.trans (hb7.mono H6.out.2.2.1.size), fun h => by obtain ⟨g, hg, _⟩ := hpos h; exact ⟨g, hg⟩⟩
  clear hown hb7 hpos
  go_wp2
  go_loopw [90] (fun v90 wr => ∃ k q : Nat, k ≤ n ∧ v90 = .int .i64 (k : Int) ∧ wr = w7.drewN q) (fun v _ => n - (intOf v).toNat)
  case atStart => exact ⟨0, 0, by omega, by simp, rfl⟩
  case round =>
    obtain ⟨k, q, hk, rfl, rfl⟩ := hrel
    by_cases hkn : k < n
    · have hkI : (k : Int) < (n : Int) := by omega
      obtain ⟨g7, rfl⟩ := H7.out.2.2.2 (by omega)
      have c1 : w7.cell? ⟨d, k, none⟩ = some (.int .u32 (sq G x t k : Int)) := H7.out.1.cell k hkn
      have c2 : w7.cell? ⟨g7, k, none⟩ = some (.int .u32 (sq G x t k : Int)) := by
        obtain ⟨bb, off, e1, e2, e3⟩ := H7.out.2.1 k (by simp [u32s, sqL_length]; exact hkn)
        simp only [Option.some.injEq, Addr.mk.injEq, and_true] at e1
        obtain ⟨rfl, rfl⟩ := e1
        rw [Nat.zero_add] at e3
        rw [e3]
        simp [u32s, sqL]
      generalize sq G x t k = y at *
      go_wp2
      go_quiet (fail)
      go_wp2
      go_roundw
      case rel => exact ⟨k + 1, _, by omega, by go_num, rfl⟩
      case measure => simp [intOf]; omega
    · obtain rfl : k = n := by omega
      go_wp2
      go_ret
      exact ⟨rfl, below_drewN H7.out.2.2.1 _⟩

theorem seals_any (key : ByteArray) (t : Int) (A : Option Addr) (c : Nat) (xs : List Nat) (hx : ∀ v ∈ xs, v < 4294967296) (w : World) (hR : Reads w w.heap.size A (u32s xs)) :
    Calls Try.prog 4 #[.string key, .int .i64 t, .slice A xs.length c] w fun e w' => e = .returned (.bool true) ∧ Below w.heap.size w w' := by
  by_cases hk : key.size = 0 ∨ 72 < key.size
  · exact seals_key key hk t A _ c w
  · by_cases hn : 40 < xs.length
    · exact seals_many key (by omega) (by omega) t A _ c hn w
    · by_cases ht : t < 0 ∨ 1024 < t
      · exact seals_arg key (by omega) (by omega) t ht A _ c (by omega) w
      · obtain ⟨m, rfl⟩ := Int.eq_ofNat_of_zero_le (show 0 ≤ t by omega)
        by_cases ho : xs.length % 2 = 1
        · exact seals_odd key (by omega) (by omega) m (by omega) A _ c (by omega) ho w
        · exact seals_even key (by omega) (by omega) m (by omega) A _ c (xs.length / 2) (by omega) (by omega) xs rfl hx w hR
end Go.Proofs.Ytglmfagmlfjceaa
