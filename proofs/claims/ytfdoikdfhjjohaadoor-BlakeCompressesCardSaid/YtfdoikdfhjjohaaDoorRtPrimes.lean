/- Primes of package root and the document's Prime and First, by their contracts, of at most 200 primes; and that too many are none. No condition but those typed. -/
import Derived.Test.YtfdoikdfhjjohaaDoorKit
import Derived.Test.YtfdoikdfhjjohaaDoorRtPrime
import Derived.LoopTactic
import Derived.IntWalk
import Derived.Lib.Hide
namespace Go.Proofs.YtfdoikdfhjjohaaDoor
set_option maxRecDepth 50000
open Go.RowKit

def ints (l : List Nat) : List Value := l.map fun x : Nat => .int .i64 (x : Int)
theorem ints_length (l : List Nat) : (ints l).length = l.length := by simp [ints]
theorem ints_append (a b : List Nat) : ints (a ++ b) = ints a ++ ints b := by simp [ints]
theorem int_at (l : List Nat) (k : Nat) (h : k < (ints l).length) : (ints l)[k] = .int .i64 ((l[k]'(by simpa [ints] using h) : Nat) : Int) := by simp [ints]
theorem Tryd.info3 : (Tryd.prog.info? 3).map (fun i => (i.zero, i.size, i.bytes)) = some (some (.int .i64 0), 1, 8) := by kernel_rfl
theorem rt_one_new (w : World) (u : Value) (t : TypeId) : ∀ j v, [u][j]? = some v → (w.alloc (.cells #[u] t)).cell? ((⟨w.heap.size, 0, none⟩ : Addr).add j) = some v := by
  intro j v hj
  match j, hj with
  | 0, hj => simp at hj; subst hj; simp [Addr.add]
theorem rt_one_cell (u : Value) (h : u.oneCell' = true) : ∀ v ∈ [u], v.oneCell' = true := by
  intro v hv; simp at hv; subst hv; exact h
theorem rt_rel_step {w wr w2 : World} {e : TypeId} {v v' : Value} {n n' : Nat} {xs ys : List Value} {o : Obj} (hb : Below w.heap.size w wr) (hsz : w.heap.size ≤ wr.heap.size) (hown : wr.ownsRow w.heap.size e 1 v n xs)
    (hown2 : w2.ownsRow w.heap.size e 1 v' n' ys) (hg : (wr.alloc o).grownBy w2 v.ownBlock) : w2.ownsRow w.heap.size e 1 v' n' ys ∧ Below w.heap.size w w2 :=
  ⟨hown2, (hb.alloc hsz o).grown hg (by simp; omega) (fun k hk => (hown.lt k hk).1)⟩
theorem ret_yes {a b : Bool} (h : a = b) : Ending.returned (.bool a) = .returned (.bool b) := by rw [h]

set_option maxHeartbeats 800000 in
theorem prime_any (n : Nat) (hn : n ≤ 2000) (w : World) : Calls Tryd.prog 42 #[.int .i64 (n : Int)] w fun e w' => e = .returned (.bool (isP n)) ∧ w = w' := by
  by_cases h : n < 2
  · have E := Lib.hid (isP_low h)
    go_enter Tryd.func42, Tryd.ntmps42
    go_wp2
    go_ret
    exact ⟨ret_yes E.out.symm, rfl⟩
  · go_enter Tryd.func42, Tryd.ntmps42
    go_wp2
    go_loop [3] (fun i => ∃ d : Nat, 2 ≤ d ∧ d ≤ 50 ∧ i = .int .i64 d ∧ Hid (∀ e, 2 ≤ e → e < d → n % e ≠ 0)) (fun i => 50 - (intOf i).toNat)
    case atStart => exact ⟨2, by omega, by omega, rfl, Lib.hid (fun e _ _ => by omega)⟩
    case round =>
      obtain ⟨d, hd, hd2, rfl, hno⟩ := hrel
      have hdd : (d : Int) * (d : Int) = ((d * d : Nat) : Int) := (Int.natCast_mul _ _).symm
      have hdd2 : d * d ≤ 2500 := Nat.mul_le_mul hd2 hd2
      by_cases hle : d * d ≤ n
      · have hlt : d < 50 := by
          rcases Nat.lt_or_ge d 50 with h1 | h1
          · exact h1
          · have := Nat.mul_le_mul h1 h1; omega
        have hm : (n : Int) % (d : Int) = ((n % d : Nat) : Int) := rfl
        have hm2 : (n : Int).tmod (d : Int) = ((n % d : Nat) : Int) := by rw [Int.tmod_eq_emod_of_nonneg (by omega)]; rfl
        have hrb : n % d < d := Nat.mod_lt _ (by omega)
        have Hn := Lib.hid (fun h3 => isP_no hd hle h3)
        have Hs : Hid (n % d ≠ 0 → ∀ e, 2 ≤ e → e < d + 1 → n % e ≠ 0) := Lib.hid fun h1 e h2 h3 => by
          by_cases he : e = d
          · subst he; exact h1
          · exact hno.out e h2 (by omega)
        generalize n % d = r at *
        generalize d * d = q at *
        by_cases hr : r = 0
        · subst hr
          have E := Lib.hid (Hn.out rfl)
          clear Hn
          go_wp2
          go_ret
          exact ⟨ret_yes E.out.symm, rfl⟩
        · have hr1 : 1 ≤ r := by omega
          have Hs2 := Lib.hid (Hs.out hr)
          clear hr
          go_wp2
          go_round
          case rel => exact ⟨d + 1, by omega, by omega, by go_num, Hs2⟩
          case measure => simp [intOf]; omega
      · have E : Hid (isP n = true) := Lib.hid (isP_yes (by omega) fun e h1 h2 => hno.out e h1 (by
          rcases Nat.lt_or_ge e d with h3 | h3
          · exact h3
          · have := Nat.mul_le_mul h3 h3; omega))
        generalize d * d = q at *
        go_wp2
        go_ret
        exact ⟨ret_yes E.out.symm, rfl⟩

set_option maxHeartbeats 1600000 in
theorem first_any (n : Nat) (hn : n ≤ 200) (w : World) : Calls Tryd.prog 25 #[.int .i64 (n : Int)] w fun e w' => ∃ v, e = .returned v ∧ w'.ownsRow w.heap.size 3 1 v n (ints (firstP n)) ∧ Below w.heap.size w w' := by
  obtain ⟨i0, hi, hz0, hz1, hz2⟩ := info_parts Tryd.info3
  go_enter Tryd.func25, Tryd.ntmps25
  go_wp2
  go_loopw [3, 4] (fun v i wr => ∃ x : Nat, 2 ≤ x ∧ x ≤ 1224 ∧ i = .int .i64 x ∧ (primesTo x).length ≤ n ∧ wr.ownsRow w.heap.size 3 1 v (primesTo x).length (ints (primesTo x)) ∧ Below w.heap.size w wr) (fun _ i _ => 1224 - (intOf i).toNat)
  case atStart => exact ⟨2, by omega, by omega, rfl, by rw [primesTo_two]; simp, by rw [primesTo_two]; exact World.ownsRow_nil _ _ _ _, Below.refl _ _⟩
  case round =>
    obtain ⟨x, hx, hx2, rfl, hlen, hown, hb⟩ := hrel
    obtain ⟨A, c, rfl, ho1, ho2, ho3⟩ := own_form hown
    clear ho1 ho2
    by_cases hlt : (primesTo x).length < n
    · have hx3 := below_many hx2 hn hlt
      have hsz := hb.size
      have C := fun w => prime_any x (by omega) w
      cases hp : isP x with
      | true =>
        have hs := primesTo_yes hp
        rw [hp] at C
        have HC := Lib.hid C
        have Hs := Lib.hid hs
        clear hs hp C
        generalize primesTo x = F at *
        go_wp2_with (first
          | (go_at_call 42; refine (HC.out _).mono ?_; rintro e w' ⟨rfl, rfl⟩)
          | (at_builtin; refine wpList_append_own _ rfl (.tmp 13) (.tmp 15) 61 rfl w.heap.size 3 i0 (.int .i64 0) 1 8 Tryd.underlying61 hi hz0 hz1 hz2 rfl (by decide) _ _ _ rfl (hown.alloc _) ⟨wr.heap.size, 0, none⟩ 1 1 [.int .i64 x] rfl rfl ?c1 ?c2 ?c3 ?c4 ?c5 ?_))
        case c1 => exact rt_one_new _ _ _
        case c2 => exact rt_one_cell _ rfl
        case c3 => unfold maxLen; omega
        case c4 => omega
        case c5 => simp; omega
        intro v' w2 hown2 hg2 _
        have R := rt_rel_step hb hsz hown hown2 hg2
        clear hown2 hg2 hown hb
        go_wp2
        go_roundw
        case rel => exact ⟨x + 1, by omega, by omega, by go_num, by rw [Hs.out]; simp; omega, by rw [Hs.out, ints_append, List.length_append]; exact R.1, R.2⟩
        case measure => simp [intOf]; omega
      | false =>
        have hs := primesTo_no hp
        rw [hp] at C
        have HC := Lib.hid C
        have Hs := Lib.hid hs
        clear hs hp C
        generalize primesTo x = F at *
        go_wp2_with (go_at_call 42; refine (HC.out _).mono ?_; rintro e w' ⟨rfl, rfl⟩)
        go_roundw
        case rel => exact ⟨x + 1, by omega, by omega, by go_num, by rw [Hs.out]; exact hlen, by rw [Hs.out]; exact hown, hb⟩
        case measure => simp [intOf]; omega
    · have he : (primesTo x).length = n := by omega
      have Hf := Lib.hid (first_is hx2 he)
      generalize primesTo x = F at *
      subst he
      go_wp2
      go_ret
      exact ⟨_, rfl, by rw [← Hf.out]; exact hown, hb⟩
end Go.Proofs.YtfdoikdfhjjohaaDoor
