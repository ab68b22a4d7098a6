/- Acts as cells; whether they are few (the law's few, by its contract). Conditions: those typed. -/
import Derived.Test.YtackcboidjmegaaArRef
import Derived.Deep.LoopGhost
import Derived.WalkMore
namespace Go.Proofs.Ytackcboidjmegaa
set_option maxRecDepth 50000
open Go.RowKit

structure Ac where
  d : Int
  n : Int
  k : Int
  w : Nat
def acell (x : Ac) : List Value := [.int .i64 x.d, .int .i64 x.n, .int .i64 x.k, .int .u64 (x.w : Int)]
def acs (l : List Ac) : List Value := l.flatMap acell
theorem acs_length : ∀ l : List Ac, (acs l).length = l.length * 4
  | [] => rfl
  | x :: l => by
    have := acs_length l
    unfold acs at *
    rw [List.flatMap_cons, List.length_append, this, List.length_cons]
    simp [acell]
    omega
theorem acs_at : ∀ (l : List Ac) (i : Nat) (h : i < l.length) (j : Nat), j < 4 → (acs l)[i * 4 + j]? = (acell l[i])[j]?
  | x :: l, 0, _, j, hj => by
    rw [show acs (x :: l) = acell x ++ acs l by simp [acs], List.getElem?_append_left (by simp [acell]; omega)]; simp
  | x :: l, i + 1, h, j, hj => by
    have := acs_at l i (by simpa using h) j hj
    rw [show acs (x :: l) = acell x ++ acs l by simp [acs], List.getElem?_append_right (by simp [acell]; omega), show (i + 1) * 4 + j - (acell x).length = i * 4 + j by simp [acell]; omega, this]
    simp
theorem act_reads {w : World} {B : Nat} {A : Option Addr} {l : List Ac} (hr : Reads w B A (acs l)) (i : Nat) (hi : i < l.length) :
    ∃ b off, A = some ⟨b, off, none⟩ ∧ b < B ∧ w.cell? ⟨b, off + i * 4, none⟩ = some (.int .i64 l[i].d) ∧ w.cell? ⟨b, off + i * 4 + 1, none⟩ = some (.int .i64 l[i].n) ∧ w.cell? ⟨b, off + i * 4 + 2, none⟩ = some (.int .i64 l[i].k) ∧ w.cell? ⟨b, off + i * 4 + 3, none⟩ = some (.int .u64 (l[i].w : Int)) := by
  have hl := acs_length l
  obtain ⟨b, off, e, hb, _⟩ := hr (i * 4) (by omega)
  refine ⟨b, off, e, hb, ?_⟩
  have G : ∀ j, j < 4 → w.cell? ⟨b, off + i * 4 + j, none⟩ = (acell l[i])[j]? := fun j hj => by
    obtain ⟨b', off', e', _, hc⟩ := hr (i * 4 + j) (by omega)
    rw [e] at e'
    cases e'
    rw [Nat.add_assoc, hc, ← List.getElem?_eq_getElem, acs_at l i hi j hj]
  exact ⟨G 0 (by decide), G 1 (by decide), G 2 (by decide), G 3 (by decide)⟩

def FewL (B : Nat) (l : List Ac) : Prop := l.length ≤ 60 ∧ ∀ x ∈ l, x.d = 0 → 0 < x.n → x.n ≤ (B : Int) → x.n ≤ 100

set_option maxHeartbeats 3200000 in
theorem few_any (B : Nat) {A : Option Addr} (c : Nat) (l : List Ac) (w : World) (hr : Reads w w.heap.size A (acs l)) :
    Calls Try.prog 7 #[.int .i64 (B : Int), .slice A l.length c] w fun e w' => (∃ b, e = .returned (.bool b) ∧ (b = true → FewL B l)) ∧ Below w.heap.size w w' := by
  by_cases h60 : 60 < l.length
  · have d0 : decide ((60 : Int) < (l.length : Int)) = true := by simp; omega
    have d0' : decide (60 < l.length) = true := by simp; omega
    clear hr
    go_enter Try.func7, Try.ntmps7
    go_wp2
    go_ret
    exact ⟨⟨_, rfl, fun e => by cases e⟩, Below.refl _ _⟩
  have d0 : decide ((60 : Int) < (l.length : Int)) = false := by simp; omega
  have d0' : decide (60 < l.length) = false := by simp; omega
  have h60 : l.length ≤ 60 := by omega
  have HR := Lib.hid hr
  clear hr
  go_enter Try.func7, Try.ntmps7
  go_wp2
  go_loopw [5, 13] (fun v5 v13 wr => ∃ i : Nat, ∃ s : Int, i ≤ l.length ∧ v13 = .int .i64 (i : Int) ∧ v5 = .int .i64 s ∧ 0 ≤ s ∧ s ≤ 100 * i ∧ Hid (∀ j, (hj : j < l.length) → j < i → l[j].d = 0 → 0 < l[j].n → l[j].n ≤ (B : Int) → l[j].n ≤ 100) ∧ Below w.heap.size w wr) (fun _ v13 _ => l.length - (intOf v13).toNat)
  case atStart => exact ⟨0, 0, by omega, rfl, rfl, by omega, by omega, Lib.hid (fun j _ h => by omega), Below.refl _ _⟩
  case round =>
    obtain ⟨i, s, hi, rfl, rfl, hs0, hs1, HF, hb⟩ := hrel
    by_cases hlt : i < l.length
    · have hdt : decide ((i : Int) < (l.length : Int)) = true := by simp; omega
      have hi0 : (0 : Int) ≤ (i : Int) := by omega
      have hi1 : (i : Int) < (l.length : Int) := by omega
      obtain ⟨b, off, rfl, hbB, c0, c1, c2, c3⟩ := act_reads HR.out i hlt
      have y0 := (hb.cell (p := ⟨b, off + i * 4, none⟩) hbB).trans c0
      have y1 := (hb.cell (p := ⟨b, off + i * 4 + 1, none⟩) hbB).trans c1
      have y2 := (hb.cell (p := ⟨b, off + i * 4 + 2, none⟩) hbB).trans c2
      have y3 := (hb.cell (p := ⟨b, off + i * 4 + 3, none⟩) hbB).trans c3
      have HN : Hid ((l[i].d = 0 → 0 < l[i].n → l[i].n ≤ (B : Int) → l[i].n ≤ 100) → ∀ j, (hj : j < l.length) → j < i + 1 → l[j].d = 0 → 0 < l[j].n → l[j].n ≤ (B : Int) → l[j].n ≤ 100) := Lib.hid fun h j hj hji => by
        by_cases e : j = i
        · subst e; exact h
        · exact HF.out j hj (by omega)
      clear c0 c1 c2 c3 HF
      generalize l[i] = x at *
      obtain ⟨d, n, k, u⟩ := x
      dsimp only at *
      have HB := Lib.hid (hb.alloc hb.size (.cells #[.int .i64 d, .int .i64 n, .int .i64 k, .int .u64 (u : Int)] 45))
      clear hb
      by_cases hcnt : d = 0 ∧ 0 < n ∧ n ≤ (B : Int)
      · obtain ⟨rfl, hn0, hnB⟩ := hcnt
        have q1 : decide (0 < n) = true := by simpa using hn0
        have q2 : decide (n ≤ (B : Int)) = true := by simpa using hnB
        by_cases hbig : 100 < n
        · have q3 : decide (100 < n) = true := by simpa using hbig
          clear HN
          go_wp2
          go_ret
          exact ⟨⟨_, rfl, fun e => by cases e⟩, HB.out⟩
        · have q3 : decide (100 < n) = false := by simp; omega
          have HN := Lib.hid (HN.out fun _ _ _ => by omega)
          go_wp2
          go_roundw
          case rel => exact ⟨i + 1, s + n, by omega, by go_num, rfl, by omega, by omega, HN, HB.out⟩
          case measure => simp [intOf]; omega
      · have hh : (d == 0) = false ∨ (d == 0) = true ∧ decide (0 < n) = false ∨ (d == 0) = true ∧ decide (0 < n) = true ∧ decide (n ≤ (B : Int)) = false := by simp; omega
        have HN := Lib.hid (HN.out fun h1 h2 h3 => absurd ⟨h1, h2, h3⟩ hcnt)
        clear hcnt
        rcases hh with q1 | ⟨q1, q2⟩ | ⟨q1, q2, q3⟩
        all_goals
          go_wp2
          go_roundw
          case rel => exact ⟨i + 1, s, by omega, by go_num, rfl, by omega, by omega, HN, HB.out⟩
          case measure => simp [intOf]; omega
    · obtain rfl : i = l.length := by omega
      have hdt : decide ((l.length : Int) < (l.length : Int)) = false := by simp
      have HB := Lib.hid hb
      clear hb
      go_wp2
      go_ret
      exact ⟨⟨_, rfl, fun _ => ⟨h60, fun x hx => by
        obtain ⟨j, hj, rfl⟩ := List.getElem_of_mem hx
        exact HF.out j hj hj⟩⟩, HB.out⟩
end Go.Proofs.Ytackcboidjmegaa
