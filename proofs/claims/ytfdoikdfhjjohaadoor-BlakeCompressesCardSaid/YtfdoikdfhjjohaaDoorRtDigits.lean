/- The document's digit, Of, Up, Above, Sum on numbers by digits, by their contracts. No condition but those typed. -/
import Derived.Test.YtfdoikdfhjjohaaDoorRtPrimes
import Derived.Test.YtfdoikdfhjjohaaDoorRtNat
import Derived.Deep.LoopGhost
import Derived.Deep.QuietTactic
import Derived.BigQuiet
import Derived.WalkSmall
namespace Go.Proofs.YtfdoikdfhjjohaaDoor
set_option maxRecDepth 50000
open Go.RowKit

/-- v is a slice of at most L digits, that of number N -/
def IsNat (w : World) (v : Value) (N L : Nat) : Prop := ∃ A c ds, v = .slice A ds.length c ∧ Reads w w.heap.size A (ints ds) ∧ Dig ds ∧ val ds = N ∧ ds.length ≤ L ∧ (A = none → c = 0)
theorem IsNat.keep {w w' : World} {v : Value} {N L : Nat} (h : IsNat w v N L) (hb : Below w.heap.size w w') : IsNat w' v N L := by
  obtain ⟨A, c, ds, h1, h2, h3⟩ := h
  exact ⟨A, c, ds, h1, (h2.below hb).more hb.size, h3⟩
theorem IsNat.more {w : World} {v : Value} {N L L' : Nat} (h : IsNat w v N L) (hl : L ≤ L') : IsNat w v N L' := by
  obtain ⟨A, c, ds, h1, h2, h3, h4, h5, h6⟩ := h
  exact ⟨A, c, ds, h1, h2, h3, h4, by omega, h6⟩
theorem IsNat.own {w : World} {base n : Nat} {v : Value} {ds : List Nat} {L : Nat} (h : w.ownsRow base 3 1 v n (ints ds)) (hd : Dig ds) (hl : ds.length ≤ L) : IsNat w v (val ds) L := by
  have hn := h.1
  rw [ints_length, Nat.mul_one] at hn
  subst hn
  rcases h.2 with ⟨h1, h0⟩ | ⟨g, cap, cur, rfl, _⟩
  · exact ⟨none, 0, ds, by rw [h1, h0], by rw [h1] at h; rw [show ds = [] from List.eq_nil_of_length_eq_zero h0]; exact Reads.nil_, hd, rfl, hl, fun _ => rfl⟩
  · exact ⟨_, _, ds, rfl, Reads.of_own h, hd, rfl, hl, fun h => by cases h⟩
theorem step_trans' {a b c : World} (h : Below a.heap.size a b) (k : Below b.heap.size b c) : Below a.heap.size a c := h.trans (k.mono h.size)
theorem ret_int {a b : Int} (h : a = b) : Ending.returned (.int .i64 a) = .returned (.int .i64 b) := by rw [h]

theorem digit_any (A : Option Addr) (c : Nat) (ds : List Nat) (i : Nat) (w : World) {B : Nat} (hr : Reads w B A (ints ds)) :
    Calls Tryd.prog 53 #[.slice A ds.length c, .int .i64 (i : Int)] w fun e w' => e = .returned (.int .i64 (ds.getD i 0 : Nat)) ∧ w = w' := by
  have Hr := Lib.hid hr
  clear hr
  by_cases h : i < ds.length
  · obtain ⟨b, off, rfl, hbB, hcell⟩ := Hr.out i (by rw [ints_length]; exact h)
    rw [int_at] at hcell
    have e : ds.getD i 0 = ds[i] := by rw [List.getD_eq_getElem?_getD, List.getElem?_eq_getElem h]; rfl
    rw [e]
    clear e
    generalize ds[i] = x at *
    go_enter Tryd.func53, Tryd.ntmps53
    go_wp2
    go_ret
    exact ⟨rfl, rfl⟩
  · have e : ds.getD i 0 = 0 := by rw [List.getD_eq_getElem?_getD, List.getElem?_eq_none (by omega)]; rfl
    rw [e]
    clear e
    go_enter Tryd.func53, Tryd.ntmps53
    go_wp2
    go_ret
    exact ⟨rfl, rfl⟩

set_option maxHeartbeats 800000 in
theorem of_any (n : Nat) (hn : n < 18446744073709551616) (w : World) : Calls Tryd.prog 44 #[.int .u64 (n : Int)] w fun e w' => ∃ v, e = .returned v ∧ IsNat w' v n 4 ∧ Below w.heap.size w w' := by
  obtain ⟨i0, hi, hz0, hz1, hz2⟩ := info_parts Tryd.info3
  go_enter Tryd.func44, Tryd.ntmps44
  go_wp2
  go_loopg [0, 3] 4 (fun g x v wr => ∃ (q : Nat) (O : List Nat), x = .int .u64 (q : Int) ∧ q < 65536 ^ g ∧ O.length + g = 4 ∧ Dig O ∧ Hid (val O + 65536 ^ O.length * q = n) ∧ wr.ownsRow w.heap.size 3 1 v O.length (ints O) ∧ Below w.heap.size w wr)
  case atStart => exact ⟨n, [], rfl, hn, rfl, Dig.nil_, Lib.hid (by simp [val]), World.ownsRow_nil _ _ _ _, Below.refl _ _⟩
  case round =>
    obtain ⟨q, O, rfl, hq, hl, hd, hv, hown, hb⟩ := hrel
    by_cases hq0 : 0 < q
    · cases gk with
      | zero => omega
      | succ g =>
        have hs := val_snoc O (q % 65536)
        have hq2 : q / 65536 < 65536 ^ g := by rw [Nat.pow_succ] at hq; omega
        have hq3 : q < 18446744073709551616 := Nat.lt_of_lt_of_le hq (by
          have := Nat.pow_le_pow_right (n := 65536) (by omega) (show g + 1 ≤ 4 by omega)
          exact this)
        have hv2 : Hid (val (O ++ [q % 65536]) + 65536 ^ (O ++ [q % 65536]).length * (q / 65536) = n) := Lib.hid (by
          rw [hs, List.length_append, List.length_singleton, Nat.pow_succ, Nat.mul_assoc, Nat.add_assoc, ← Nat.mul_add, Nat.mod_add_div]; exact hv.out)
        have hd2 : Dig (O ++ [q % 65536]) := hd.snoc (Nat.mod_lt _ (by omega))
        have hm : (q : Int) % 65536 = ((q % 65536 : Nat) : Int) := rfl
        have hdv : (q : Int) / 65536 = ((q / 65536 : Nat) : Int) := rfl
        have hmb : q % 65536 < 65536 := Nat.mod_lt _ (by omega)
        have hsz := hb.size
        clear hs hv
        generalize q % 65536 = r at *
        generalize q / 65536 = s at *
        clear hq
        go_wp2_with (at_builtin; refine wpList_append_own _ rfl (.tmp 6) (.tmp 10) 87 rfl w.heap.size 3 i0 (.int .i64 0) 1 8 Tryd.underlying87 hi hz0 hz1 hz2 rfl (by decide) _ _ _ rfl (hown.alloc _) ⟨wr.heap.size, 0, none⟩ 1 1 [.int .i64 r] rfl rfl ?c1 ?c2 ?c3 ?c4 ?c5 ?_)
        case c1 => exact rt_one_new _ _ _
        case c2 => exact rt_one_cell _ rfl
        case c3 => unfold maxLen; omega
        case c4 => omega
        case c5 => simp; omega
        intro v' w2 hown2 hg2 _
        have R := rt_rel_step hb hsz hown hown2 hg2
        clear hown2 hg2 hown hb
        go_wp2
        go_roundg g
        case measure => omega
        case rel => exact ⟨s, O ++ [r], rfl, hq2, by simp; omega, hd2, hv2, by rw [ints_append, List.length_append]; exact R.1, R.2⟩
    · obtain rfl : q = 0 := by omega
      have hv2 : Hid (val O = n) := Lib.hid (by have := hv.out; simpa using this)
      clear hv hq
      go_wp2
      go_ret
      exact ⟨_, rfl, by rw [← hv2.out]; exact IsNat.own hown hd (by omega), hb⟩

set_option maxHeartbeats 800000 in
theorem up_any (v : Value) (N L d : Nat) (hd : d ≤ 100) (hL : L ≤ 10000) (w : World) (hv : IsNat w v N L) : Calls Tryd.prog 43 #[v, .int .i64 (d : Int)] w fun e w' => ∃ v', e = .returned v' ∧ IsNat w' v' (65536 ^ d * N) (L + d) ∧ Below w.heap.size w w' := by
  obtain ⟨i0, hi, hz0, hz1, hz2⟩ := info_parts Tryd.info3
  obtain ⟨A, c, ds, rfl, hr, hdig, rfl, hlen, hnone⟩ := hv
  have Hr := Lib.hid hr
  clear hr
  go_enter Tryd.func43, Tryd.ntmps43
  go_wp2_with (at_make; refine wpList_make_full _ rfl _ _ 87 rfl w.heap.size 3 i0 (.int .i64 0) 1 Tryd.underlying87 hi hz0 hz1 _ _ _ _ d rfl rfl rfl rfl ?c1 ?c2 ?c3 ?_)
  case c1 => rw [hz2]; omega
  case c2 => unfold maxLen; omega
  case c3 => exact Nat.le_refl _
  intro w1 hown1 hg1
  have e0 : (madeCells #[.int .i64 0] d).toList = ints (List.replicate d 0) := by
    rw [toList_madeCells_one]
    unfold ints
    rw [List.map_replicate]; rfl
  rw [e0] at hown1
  have hb1 : Below w.heap.size w w1 := (Below.refl _ _).grown hg1 (Nat.le_refl _) (by simp)
  have Hr1 := Lib.hid (Hr.out.below hb1)
  clear hg1 e0 Hr
  cases A with
  | none =>
    obtain rfl := hnone rfl
    have h0 : ds = [] := by
      cases ds with
      | nil => rfl
      | cons x l => obtain ⟨b, off, h, _⟩ := Hr1.out 0 (by simp [ints]); cases h
    subst h0
    clear hnone
    go_wp2_with (at_builtin; refine wpList_append_fits_any _ rfl (.tmp 8) (.tmp 9) 87 rfl w.heap.size 3 i0 1 Tryd.underlying87 hi hz1 _ _ _ _ rfl hown1 none 0 0 [] rfl rfl (fun _ => ⟨rfl, rfl⟩) (fun _ h => by cases h) (fun _ h => by cases h) (Nat.le_refl _) ?_)
    intro w2 hown2 hg2
    have hb2 : Below w.heap.size w w2 := hb1.grown hg2 hb1.size (fun k hk => by injection hk with hk; omega)
    clear hg2 hown1
    go_wp2
    go_ret
    refine ⟨_, rfl, ?_, hb2⟩
    have hI := IsNat.own (ds := List.replicate d 0) (L := L + d) (by simpa using hown2) (Dig.zeros d) (by simp)
    rw [val_zeros] at hI
    exact hI
  | some ad =>
    have hc : ∀ j u, (ints ds)[j]? = some u → w1.cell? (ad.add j) = some u := fun j u hj => by
      obtain ⟨hlt, hju⟩ := List.getElem?_eq_some_iff.1 hj
      obtain ⟨b, off, h1, _, h3⟩ := Hr1.out j hlt
      injection h1 with h1
      subst h1
      rw [show Addr.add ⟨b, off, none⟩ j = ⟨b, off + j, none⟩ from by simp [Addr.add], h3, hju]
    have Hc := Lib.hid hc
    clear hc hnone
    go_wp2_with (at_builtin; refine wpList_append_own _ rfl (.tmp 8) (.tmp 9) 87 rfl w.heap.size 3 i0 (.int .i64 0) 1 8 Tryd.underlying87 hi hz0 hz1 hz2 rfl (by decide) _ _ _ rfl hown1 ad ds.length c (ints ds) rfl (by rw [ints_length, Nat.mul_one]) Hc.out ?c2 ?c3 ?c4 ?c5 ?_)
    case c2 => intro u hu; unfold ints at hu; obtain ⟨x, _, rfl⟩ := List.mem_map.1 hu; rfl
    case c3 => unfold maxLen; omega
    case c4 => omega
    case c5 => exact hb1.size
    intro v' w2 hown2 hg2 _
    have hb2 : Below w.heap.size w w2 := hb1.grown hg2 hb1.size (fun k hk => (hown1.lt k hk).1)
    clear hg2 hown1
    go_wp2
    go_ret
    refine ⟨_, rfl, ?_, hb2⟩
    have hI := IsNat.own (ds := List.replicate d 0 ++ ds) (L := L + d) (by rw [ints_append]; exact hown2) ((Dig.zeros d).append hdig) (by simp; omega)
    rw [val_append, val_zeros, List.length_replicate, Nat.zero_add] at hI
    exact hI

theorem start_at (n : Nat) : n = 0 ∧ Value.int .i64 ((n : Int) - 1) = .int .i64 (-1) ∨ ∃ m : Nat, n = m + 1 ∧ Value.int .i64 ((n : Int) - 1) = .int .i64 (m : Int) := by
  cases n with
  | zero => exact .inl ⟨rfl, rfl⟩
  | succ m => exact .inr ⟨m, rfl, by congr 1; omega⟩

set_option maxHeartbeats 1600000 in
theorem above_any (va vb : Value) (N M L K : Nat) (hL : L ≤ 10000) (hK : K ≤ 10000) (w : World) (hva : IsNat w va N L) (hvb : IsNat w vb M K) : Calls Tryd.prog 45 #[va, vb] w fun e w' => e = .returned (.bool (decide (M < N))) ∧ w = w' := by
  obtain ⟨A, c, a, rfl, hr, hda, rfl, hla, hna⟩ := hva
  obtain ⟨B, c', b, rfl, hr', hdb, rfl, hlb, hnb⟩ := hvb
  have CA := Lib.hid fun i => digit_any A c a i w hr
  have CB := Lib.hid fun i => digit_any B c' b i w hr'
  have HD := Lib.hid (And.intro hda hdb)
  clear hr hr' hda hdb hna hnb
  by_cases hm : a.length < b.length
  all_goals
    go_enter Tryd.func45, Tryd.ntmps45
    go_wp2
    go_loopg [6] (if a.length < b.length then b.length else a.length) (fun g i wr => ∃ k : Nat, g = k ∧ k ≤ 10000 ∧ (k = 0 ∧ i = .int .i64 (-1) ∨ ∃ m : Nat, k = m + 1 ∧ i = .int .i64 (m : Int)) ∧ Hid (val (a.drop k) = val (b.drop k)) ∧ w = wr)
    case atStart =>
      refine ⟨_, rfl, by split <;> omega, ?_, Lib.hid (by rw [List.drop_eq_nil_of_le (by split <;> omega), List.drop_eq_nil_of_le (by split <;> omega)]), rfl⟩
      first
        | (rw [if_pos hm]; exact start_at b.length)
        | (rw [if_neg hm]; exact start_at a.length)
    case round =>
      obtain ⟨k, rfl, hk, hi, hv, rfl⟩ := hrel
      rcases hi with ⟨rfl, rfl⟩ | ⟨m, rfl, rfl⟩
      · have E : Hid (decide (val b < val a) = false) := Lib.hid (by have h := hv.out; rw [List.drop_zero, List.drop_zero] at h; rw [decide_eq_false_iff_not]; omega)
        go_wp2
        go_ret
        exact ⟨ret_yes E.out.symm, rfl⟩
      · have C1 := Lib.hid (CA.out m)
        have C2 := Lib.hid (CB.out m)
        have H1 : Hid (b.getD m 0 < a.getD m 0 → decide (val b < val a) = true) := Lib.hid fun h => decide_eq_true (above_digit HD.out.1 HD.out.2 m hv.out h)
        have H2 : Hid (a.getD m 0 < b.getD m 0 → decide (val b < val a) = false) := Lib.hid fun h => decide_eq_false (by have := above_digit HD.out.2 HD.out.1 m hv.out.symm h; omega)
        have H3 : Hid (a.getD m 0 = b.getD m 0 → val (a.drop m) = val (b.drop m)) := Lib.hid fun h => same_digit m hv.out h
        clear hv
        generalize a.getD m 0 = x at *
        generalize b.getD m 0 = y at *
        clear hm HD CA CB
        rcases Nat.lt_trichotomy x y with h | h | h
        · have E := Lib.hid (H2.out h)
          clear H1 H2 H3
          have hne : ((x : Int) == (y : Int)) = false := by simp; omega
          have hne2 : ((x : Int) != (y : Int)) = true := by simp; omega
          go_wp2_with (go_at_call 53; with_reducible first | (refine (C1.out).mono ?_; rintro e w' ⟨rfl, rfl⟩) | (refine (C2.out).mono ?_; rintro e w' ⟨rfl, rfl⟩))
          go_ret
          exact ⟨ret_yes (by rw [E.out]; exact decide_eq_false (by omega)), rfl⟩
        · subst h
          have E := Lib.hid (H3.out rfl)
          clear H1 H2 H3
          go_wp2_with (go_at_call 53; with_reducible first | (refine (C1.out).mono ?_; rintro e w' ⟨rfl, rfl⟩) | (refine (C2.out).mono ?_; rintro e w' ⟨rfl, rfl⟩))
          go_roundg m
          case measure => omega
          case rel =>
            refine ⟨m, rfl, by omega, ?_, E, rfl⟩
            exact start_at m
        · have E := Lib.hid (H1.out h)
          clear H1 H2 H3
          have hne : ((x : Int) == (y : Int)) = false := by simp; omega
          have hne2 : ((x : Int) != (y : Int)) = true := by simp; omega
          go_wp2_with (go_at_call 53; with_reducible first | (refine (C1.out).mono ?_; rintro e w' ⟨rfl, rfl⟩) | (refine (C2.out).mono ?_; rintro e w' ⟨rfl, rfl⟩))
          go_ret
          exact ⟨ret_yes (by first | (rw [E.out]; done) | (rw [E.out]; exact decide_eq_true h)), rfl⟩

set_option maxHeartbeats 1600000 in
theorem sum_any (va vb : Value) (N M L : Nat) (hL : L ≤ 10000) (w : World) (hva : IsNat w va N L) (hvb : IsNat w vb M L) : Calls Tryd.prog 47 #[va, vb] w fun e w' => ∃ v, e = .returned v ∧ IsNat w' v (N + M) (L + 1) ∧ Below w.heap.size w w' := by
  obtain ⟨A, c, a, rfl, hr, hda, rfl, hla, hna⟩ := hva
  obtain ⟨B, c', b, rfl, hr', hdb, rfl, hlb, hnb⟩ := hvb
  obtain ⟨i0, hi, hz0, hz1, hz2⟩ := info_parts Tryd.info3
  have HR := Lib.hid (And.intro hr hr')
  have HD := Lib.hid (And.intro hda hdb)
  clear hr hr' hda hdb hna hnb
  go_enter Tryd.func47, Tryd.ntmps47
  go_wp2
  go_loopg [5, 6, 7] (L + 2) (fun g v x i wr => ∃ (k q : Nat) (O : List Nat), k + g = L + 2 ∧ k ≤ L + 1 ∧ i = .int .i64 k ∧ x = .int .i64 q ∧ q ≤ 1 ∧ (q = 0 ∨ k ≤ L) ∧ O.length = k ∧ Dig O ∧ Hid (val O + 65536 ^ k * q = val (a.take k) + val (b.take k)) ∧
    wr.ownsRow w.heap.size 3 1 v k (ints O) ∧ Below w.heap.size w wr)
  case atStart => exact ⟨0, 0, [], by omega, by omega, rfl, rfl, by omega, .inl rfl, rfl, Dig.nil_, Lib.hid (by simp [val]), World.ownsRow_nil _ _ _ _, Below.refl _ _⟩
  case round =>
    obtain ⟨k, q, O, hkg, hk, rfl, rfl, hq, hqk, hO, hd, hv, hown, hb⟩ := hrel
    by_cases hgo : k < a.length ∨ k < b.length ∨ 0 < q
    · obtain ⟨g, rfl⟩ : ∃ g, gk = g + 1 := ⟨gk - 1, by omega⟩
      have hkL : k ≤ L := by omega
      have CA := Lib.hid (digit_any A c a k wr (HR.out.1.below hb))
      have CB := Lib.hid (digit_any B c' b k wr (HR.out.2.below hb))
      have hs := sum_step hv.out hO
      have hx1 := HD.out.1.at_ k
      have hy1 := HD.out.2.at_ k
      have hz : k = L → a.getD k 0 = 0 ∧ b.getD k 0 = 0 := fun h => by
        constructor
        · rw [List.getD_eq_getElem?_getD, List.getElem?_eq_none (by omega)]; rfl
        · rw [List.getD_eq_getElem?_getD, List.getElem?_eq_none (by omega)]; rfl
      generalize a.getD k 0 = x at *
      generalize b.getD k 0 = y at *
      obtain ⟨t, ht⟩ : ∃ t, q + x + y = t := ⟨_, rfl⟩
      rw [ht] at hs
      have Hs := Lib.hid hs
      have hm : (t : Int).tmod 65536 = ((t % 65536 : Nat) : Int) := by rw [Int.tmod_eq_emod_of_nonneg (by omega)]; rfl
      have hdv : (t : Int).tdiv 65536 = ((t / 65536 : Nat) : Int) := by rw [Int.tdiv_eq_ediv_of_nonneg (by omega)]; rfl
      have hsum : (q : Int) + (x : Int) + (y : Int) = (t : Int) := by omega
      have htb : t < 131072 := by omega
      have hd2 := hd.snoc (d := t % 65536) (Nat.mod_lt _ (by omega))
      have hq2 : t / 65536 ≤ 1 := by omega
      have hq3 : t / 65536 = 0 ∨ k + 1 ≤ L := by
        by_cases h : k = L
        · have := hz h; exact .inl (by omega)
        · exact .inr (by omega)
      have hmb : t % 65536 < 65536 := Nat.mod_lt _ (by omega)
      have hsz := hb.size
      clear hs hv hz ht
      generalize t % 65536 = r at *
      generalize t / 65536 = s at *
      have hgo' : k < a.length ∨ (¬ k < a.length ∧ k < b.length) ∨ (¬ k < a.length ∧ ¬ k < b.length ∧ 0 < q) := by omega
      clear hgo
      rcases hgo' with h1 | ⟨h1, h2⟩ | ⟨h1, h2, h3⟩
      all_goals
        go_wp2_with (first
          | (go_at_call 53; with_reducible refine (CA.out).mono ?_; rintro e w' ⟨rfl, rfl⟩)
          | (go_at_call 53; with_reducible refine (CB.out).mono ?_; rintro e w' ⟨rfl, rfl⟩)
          | (at_builtin; refine wpList_append_own _ rfl (.tmp 33) (.tmp 36) 87 rfl w.heap.size 3 i0 (.int .i64 0) 1 8 Tryd.underlying87 hi hz0 hz1 hz2 rfl (by decide) _ _ _ rfl (hown.alloc _) ⟨wr.heap.size, 0, none⟩ 1 1 [.int .i64 r] rfl rfl ?c1 ?c2 ?c3 ?c4 ?c5 ?_))
        case c1 => exact rt_one_new _ _ _
        case c2 => exact rt_one_cell _ rfl
        case c3 => unfold maxLen; omega
        case c4 => omega
        case c5 => simp; omega
        intro v' w2 hown2 hg2 _
        have R := rt_rel_step hb hsz hown hown2 hg2
        clear hown2 hg2 hown hb
        go_wp2
        go_roundg g
        case measure => omega
        case rel => exact ⟨k + 1, s, O ++ [r], by omega, by omega, by go_num, rfl, hq2, hq3, by simp [hO], hd2, Hs, by rw [ints_append]; exact R.1, R.2⟩
    · obtain rfl : q = 0 := by omega
      have h1 : ¬ k < a.length := by omega
      have h2 : ¬ k < b.length := by omega
      have hv2 : Hid (val O = val a + val b) := Lib.hid (by
        have h := hv.out
        rw [List.take_of_length_le (by omega), List.take_of_length_le (by omega)] at h
        simpa using h)
      clear hgo hv
      go_wp2
      go_ret
      exact ⟨_, rfl, by rw [← hv2.out]; exact IsNat.own hown hd (by omega), hb⟩
end Go.Proofs.YtfdoikdfhjjohaaDoor
