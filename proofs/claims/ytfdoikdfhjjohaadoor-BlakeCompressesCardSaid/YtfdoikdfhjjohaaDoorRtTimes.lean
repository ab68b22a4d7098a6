/- The document's Times on numbers by digits, by its contract. No condition but those typed. -/
import Derived.Test.YtfdoikdfhjjohaaDoorRtDigits
namespace Go.Proofs.YtfdoikdfhjjohaaDoor
set_option maxRecDepth 50000
open Go.RowKit

theorem ints_set (l : List Nat) (i x : Nat) : ints (l.set i x) = (ints l).set i (.int .i64 (x : Int)) := by unfold ints; rw [List.map_set]
theorem rt_getD_lt {l : List Nat} {i : Nat} (h : i < l.length) : l.getD i 0 = l[i] := by rw [List.getD_eq_getElem?_getD, List.getElem?_eq_getElem h]; rfl
theorem getD_ge {l : List Nat} {i : Nat} (h : l.length ≤ i) : l.getD i 0 = 0 := by rw [List.getD_eq_getElem?_getD, List.getElem?_eq_none h]; rfl
theorem own_cell {w : World} {base g n cap : Nat} {O : List Nat} (h : w.ownsRow base 3 1 (.slice (some ⟨g, 0, none⟩) n cap) n (ints O)) (hO : O.length = n) (j : Nat) (hj : j < n) :
    w.cell? ⟨g, j, none⟩ = some (.int .i64 (O.getD j 0 : Nat)) ∧ w.frozen? ⟨g, j, none⟩ = false := by
  refine ⟨?_, h.frozenAt j⟩
  rw [h.cellAt j (by omega), List.getElem?_eq_getElem (by rw [ints_length]; omega), int_at, rt_getD_lt (by omega)]

set_option maxHeartbeats 3200000 in
theorem times_nat (va vb : Value) (N M L K : Nat) (hL : L ≤ 10000) (hK : K ≤ 10000) (w : World) (hva : IsNat w va N L) (hvb : IsNat w vb M K) : Calls Tryd.prog 54 #[va, vb] w fun e w' => ∃ v, e = .returned v ∧ IsNat w' v (N * M) (L + K + 1) ∧ Below w.heap.size w w' := by
  obtain ⟨A, c, a, rfl, hr, hda, rfl, hla, hna⟩ := hva
  obtain ⟨B, c', b, rfl, hr', hdb, rfl, hlb, hnb⟩ := hvb
  obtain ⟨i0, hi, hz0, hz1, hz2⟩ := info_parts Tryd.info3
  have HR := Lib.hid (And.intro hr hr')
  have HD := Lib.hid (And.intro hda hdb)
  clear hr hr' hda hdb hna hnb
  obtain ⟨n, hn, hn2⟩ : ∃ n : Nat, (a.length : Int) + (b.length : Int) + 1 = (n : Int) ∧ n = a.length + b.length + 1 := ⟨a.length + b.length + 1, by omega, rfl⟩
  have hnb : n ≤ 30000 := by omega
  have Hn := Lib.hid hn2
  clear hn2
  go_enter Tryd.func54, Tryd.ntmps54
  go_wp2_with (at_make; refine wpList_make_full _ rfl _ _ 87 rfl w.heap.size 3 i0 (.int .i64 0) 1 Tryd.underlying87 hi hz0 hz1 _ _ _ _ n rfl rfl ?c0 ?c00 ?c1 ?c2 ?c3 ?_)
  case c0 => rfl
  case c00 => rfl
  case c1 => rw [hz2]; omega
  case c2 => unfold maxLen; omega
  case c3 => exact Nat.le_refl _
  intro w1 hown1 hg1
  have e0 : (madeCells #[.int .i64 0] n).toList = ints (List.replicate n 0) := by
    rw [toList_madeCells_one]
    unfold ints
    rw [List.map_replicate]; rfl
  rw [e0] at hown1
  have hb1 : Below w.heap.size w w1 := (Below.refl _ _).grown hg1 (Nat.le_refl _) (by simp)
  clear hg1 e0
  go_wp2
  go_loopg [6, 7, 8, 9] a.length (fun g i _ _ _ wr => ∃ (k : Nat) (O : List Nat), k + g = a.length ∧ i = .int .i64 k ∧ O.length = n ∧ Dig O ∧ Hid (val O = val (a.take k) * val b) ∧
    wr.ownsRow w.heap.size 3 1 (.slice (some ⟨w.heap.size, 0, none⟩) n n) n (ints O) ∧ Below w.heap.size w wr)
  case atStart => exact ⟨0, List.replicate n 0, by omega, rfl, by simp, Dig.zeros n, Lib.hid (by rw [val_zeros]; simp [val]), hown1, hb1⟩
  case round =>
    clear hown1 hb1
    obtain ⟨i, O, hig, rfl, hO, hd, hv, hown, hb⟩ := hrel
    by_cases hia : i < a.length
    · obtain ⟨g, rfl⟩ : ∃ g, gk = g + 1 := ⟨gk - 1, by omega⟩
      have hai := HD.out.1.at_ i
      have HT := Lib.hid (rows_lt HD.out.1 HD.out.2 i)
      have Hrow := Lib.hid (fun T h => row_end (A := a) (B := b) (i := i) (T := T) h)
      go_wp2
      go_loopg [7, 8, 9] (b.length + 2) (fun g2 x j _ wr => ∃ (k q : Nat) (O : List Nat), k + g2 = b.length + 2 ∧ k ≤ b.length + 1 ∧ x = .int .i64 q ∧ j = .int .i64 k ∧ q < 65536 ∧ O.length = n ∧ Dig O ∧
        Hid (val O + 65536 ^ (i + k) * q = val (a.take i) * val b + 65536 ^ i * (a.getD i 0 * val (b.take k))) ∧ wr.ownsRow w.heap.size 3 1 (.slice (some ⟨w.heap.size, 0, none⟩) n n) n (ints O) ∧ Below w.heap.size w wr)
      case atStart => exact ⟨0, 0, O, by omega, by omega, rfl, rfl, by omega, hO, hd, Lib.hid (by rw [hv.out]; simp [val]), hown, hb⟩
      case round =>
        clear hown hb hO hd hv O
        obtain ⟨k, q, O, hkg, hk, rfl, rfl, hq, hO, hd, hv, hown, hb⟩ := hrel
        by_cases hgo : k < b.length ∨ 0 < q
        · have hkb : k ≤ b.length := by
            rcases hgo with h | h
            · omega
            · rcases Nat.lt_or_ge k b.length with h2 | h2
              · omega
              · exact carry_near HD.out.2 hai h2 h HT.out hv.out
          obtain ⟨g2, rfl⟩ : ∃ g2, gk = g2 + 1 := ⟨gk - 1, by omega⟩
          have hn2 := Hn.out
          have hlt : i + k < n := by omega
          have hs := row_step (by omega) hv.out
          obtain ⟨hcell, hfz⟩ := own_cell hown hO (i + k) hlt
          have hst := fun u => hown.stored (i + k) u
          have ho := hd.at_ (i + k)
          have hbk := HD.out.2.at_ k
          obtain ⟨t, ht⟩ : ∃ t, O.getD (i + k) 0 + q + a.getD i 0 * b.getD k 0 = t := ⟨_, rfl⟩
          rw [ht] at hs
          have hp : a.getD i 0 * b.getD k 0 ≤ 65535 * 65535 := Nat.mul_le_mul (by omega) (by omega)
          have hd2 := hd.set (i + k) (t % 65536) (Nat.mod_lt _ (by omega))
          have hO2 : (O.set (i + k) (t % 65536)).length = n := by rw [List.length_set]; exact hO
          have hm : (t : Int).tmod 65536 = ((t % 65536 : Nat) : Int) := by rw [Int.tmod_eq_emod_of_nonneg (by omega)]; rfl
          have hdv : (t : Int).tdiv 65536 = ((t / 65536 : Nat) : Int) := by rw [Int.tdiv_eq_ediv_of_nonneg (by omega)]; rfl
          have htb : t ≤ 4294967295 := by omega
          have hq2 : t / 65536 < 65536 := by omega
          have hmb : t % 65536 < 65536 := Nat.mod_lt _ (by omega)
          have Hs := Lib.hid hs
          by_cases hkl : k < b.length
          · obtain ⟨b1, off1, rfl, hbB, hc1⟩ := (HR.out.1.below hb) i (by rw [ints_length]; exact hia)
            obtain ⟨b2, off2, rfl, hbB2, hc2⟩ := (HR.out.2.below hb) k (by rw [ints_length]; exact hkl)
            rw [int_at] at hc1 hc2
            rw [rt_getD_lt hia, rt_getD_lt hkl] at ht
            have hmul : ((a[i] : Nat) : Int) * ((b[k] : Nat) : Int) = ((a[i] * b[k] : Nat) : Int) := (Int.natCast_mul _ _).symm
            have hpb : a[i] * b[k] ≤ 65535 * 65535 := by rw [← rt_getD_lt hia, ← rt_getD_lt hkl]; exact hp
            clear hs hp hv
            generalize a[i] * b[k] = p at *
            generalize O.getD (i + k) 0 = o at *
            generalize a[i] = x at *
            generalize b[k] = y at *
            have hsum : (o : Int) + (q : Int) + (p : Int) = (t : Int) := by omega
            clear ht hn2
            generalize t % 65536 = r at *
            generalize t / 65536 = s at *
            go_wp2
            go_quiet (fail)
            go_wp2
            go_roundg g2
            case measure => omega
            case rel =>
              have R := World.ownsRow.stored (w := wr.drewN nq) hown (i + k) (.int .i64 (r : Int))
              exact ⟨k + 1, s, O.set (i + k) r, by omega, by omega, rfl, by go_num, hq2, hO2, hd2, Hs, by rw [ints_set]; exact R.1, (below_drewN hb _).setCell (Nat.le_refl _) _⟩
          · rw [getD_ge (by omega : b.length ≤ k), Nat.mul_zero, Nat.add_zero] at ht
            have hq0 : 0 < q := by omega
            clear hs hp hv
            generalize O.getD (i + k) 0 = o at *
            have hsum : (o : Int) + (q : Int) = (t : Int) := by omega
            clear ht hn2 hgo
            generalize t % 65536 = r at *
            generalize t / 65536 = s at *
            go_wp2
            go_roundg g2
            case measure => omega
            case rel =>
              have R := World.ownsRow.stored hown (i + k) (.int .i64 (r : Int))
              exact ⟨k + 1, s, O.set (i + k) r, by omega, by omega, rfl, by go_num, hq2, hO2, hd2, Hs, by rw [ints_set]; exact R.1, hb.setCell (Nat.le_refl _) _⟩
        · obtain rfl : q = 0 := by omega
          have hkl : ¬ k < b.length := by omega
          have hv2 : Hid (val O = val (a.take (i + 1)) * val b) := Lib.hid (by
            have h := hv.out
            rw [List.take_of_length_le (l := b) (by omega), Nat.mul_zero, Nat.add_zero] at h
            rw [h]; exact Hrow.out _ rfl)
          clear hgo hv
          go_wp2
          go_roundg g
          case measure => omega
          case rel => exact ⟨i + 1, O, by omega, by go_num, hO, hd, hv2, hown, hb⟩
    · have hv2 : Hid (val O = val a * val b) := Lib.hid (by
        have h := hv.out
        rw [List.take_of_length_le (l := a) (by omega)] at h
        exact h)
      have hI : IsNat wr (.slice (some ⟨w.heap.size, 0, none⟩) n n) (val a * val b) (L + K + 1) := by
        rw [← hv2.out]; exact IsNat.own hown hd (by have := Hn.out; omega)
      clear hv hv2 hown
      go_wp2
      go_ret
      exact ⟨_, rfl, hI, hb⟩

set_option maxHeartbeats 800000 in
theorem power_any (va : Value) (N L t : Nat) (hL : L ≤ 100) (ht : t ≤ 3) (w : World) (hva : IsNat w va N L) : Calls Tryd.prog 46 #[va, .int .i64 (t : Int)] w fun e w' => ∃ v, e = .returned v ∧ IsNat w' v (N ^ t) (4 + t * (L + 1)) ∧ Below w.heap.size w w' := by
  have HA := Lib.hid hva
  have C := Lib.hid fun w => of_any 1 (by omega) w
  clear hva
  go_enter Tryd.func46, Tryd.ntmps46
  go_wp2_with fail
  refine (C.out _).mono ?_
  rintro e w1 ⟨v1, rfl, h1, hb1⟩
  have h1' : IsNat w1 v1 (N ^ 0) (4 + 0 * (L + 1)) := by rw [Nat.zero_mul]; exact h1
  have H1 := Lib.hid h1'
  clear h1 h1'
  go_wp2_with fail
  go_loopg [5, 6] t (fun g v i wr => ∃ k : Nat, k + g = t ∧ i = .int .i64 k ∧ Hid (IsNat wr v (N ^ k) (4 + k * (L + 1))) ∧ Below w.heap.size w wr)
  case atStart => exact ⟨0, by omega, rfl, H1, hb1⟩
  case round =>
    clear hb1 H1
    obtain ⟨k, hkg, rfl, hv, hb⟩ := hrel
    by_cases hk : k < t
    · obtain ⟨g, rfl⟩ : ∃ g, gk = g + 1 := ⟨gk - 1, by omega⟩
      have hkl : k * (L + 1) ≤ 3 * 101 := Nat.mul_le_mul (by omega) (by omega)
      have T := Lib.hid (times_nat _ va (N ^ k) N (4 + k * (L + 1)) L (by omega) (by omega) wr hv.out (HA.out.keep hb))
      clear hkl
      go_wp2_with fail
      refine (T.out).mono ?_
      rintro e w2 ⟨v2, rfl, h2, hb2⟩
      have H2 : Hid (IsNat w2 v2 (N ^ (k + 1)) (4 + (k + 1) * (L + 1))) := Lib.hid (by
        rw [Nat.pow_succ]; exact h2.more (by rw [Nat.add_mul]; omega))
      have hb3 := step_trans' hb hb2
      clear h2 hb2 hb T
      go_wp2
      go_roundg g
      case measure => omega
      case rel => exact ⟨k + 1, by omega, by go_num, H2, hb3⟩
    · obtain rfl : k = t := by omega
      go_wp2
      go_ret
      exact ⟨_, rfl, hv.out, hb⟩
end Go.Proofs.YtfdoikdfhjjohaaDoor
