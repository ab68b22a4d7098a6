/- A lane of Argon2 as a machine, as plain mathematics: what it goes on with, whether it waits or is done; how many steps it did. No condition but those typed. -/
import Derived.Test.YtfoodaobiknihaaDoorFlX
namespace Go.Proofs.YtfoodaobiknihaaDoor
set_option maxRecDepth 50000
open Go.RowKit Bb Bn

/-- a lane: it goes on with an index of a turn, and holds nothing, or the word of the block that it looked at; or it waits behind a turn; or it is done -/
inductive Ln where
  | go (p s i : Nat) (h : Option Nat)
  | gate (p s : Nat)
  | done (p s : Nat)
/-- it may be -/
def Ln.Ok (t g : Nat) : Ln → Prop
  | .go p s i h => p < t ∧ s ≤ 3 ∧ fiN p s ≤ i ∧ i ≤ g ∧ (h.isSome = true → i < g)
  | .gate p s => p < t ∧ s ≤ 3
  | .done p s => p + 1 = t ∧ s = 3
/-- its turn -/
def Ln.pass : Ln → Nat
  | .go p _ _ _ => p
  | .gate p _ => p
  | .done p _ => p
def Ln.slice : Ln → Nat
  | .go _ s _ _ => s
  | .gate _ s => s
  | .done _ s => s
/-- the turn behind one -/
def nxP (p s : Nat) : Nat := if s = 3 then p + 1 else p
def nxS (s : Nat) : Nat := if s = 3 then 0 else s + 1
/-- a lane that waits, let go on -/
def opL (t p s : Nat) : Ln := if p + 1 = t ∧ s = 3 then .done p s else .go (nxP p s) (nxS s) (fiN (nxP p s) (nxS s)) none
theorem nx_turn {t p s : Nat} (hp : p < t) (hs : s ≤ 3) (h : ¬ (p + 1 = t ∧ s = 3)) : nxP p s < t ∧ nxS s ≤ 3 ∧ 4 * nxP p s + nxS s = 4 * p + s + 1 ∧ fiN (nxP p s) (nxS s) = 0 := by
  unfold nxP nxS fiN
  by_cases h3 : s = 3
  · subst h3
    simp only [if_true]
    refine ⟨by omega, by omega, by omega, if_neg (by omega)⟩
  · rw [if_neg h3, if_neg h3]
    refine ⟨hp, by omega, by omega, if_neg (by omega)⟩
theorem op_ok {t g p s : Nat} (hg : 2 ≤ g) (hp : p < t) (hs : s ≤ 3) : (opL t p s).Ok t g := by
  unfold opL
  by_cases h : p + 1 = t ∧ s = 3
  · rw [if_pos h]; exact h
  · rw [if_neg h]
    obtain ⟨h1, h2, _, h4⟩ := nx_turn hp hs h
    refine ⟨h1, h2, Nat.le_refl _, by rw [h4]; omega, fun h => by cases h⟩
/-- how many blocks it filled (2 more), how often it looked (2 more), how often it arrived, and how many rounds that took -/
def Ln.fills (g : Nat) : Ln → Nat
  | .go p s i _ => (4 * p + s) * g + i
  | .gate p s => (4 * p + s) * g + g
  | .done p s => (4 * p + s) * g + g
def Ln.looks (g : Nat) : Ln → Nat
  | .go p s i h => (4 * p + s) * g + i + (if h.isSome then 1 else 0)
  | .gate p s => (4 * p + s) * g + g
  | .done p s => (4 * p + s) * g + g
def Ln.arrives : Ln → Nat
  | .go p s _ _ => 4 * p + s
  | .gate p s => 4 * p + s + 1
  | .done p s => 4 * p + s + 1
def Ln.opens : Ln → Nat
  | .go p s _ _ => 4 * p + s
  | .gate p s => 4 * p + s
  | .done p s => 4 * p + s + 1
def Ln.rounds (g : Nat) (x : Ln) : Nat := x.fills g + x.looks g + x.arrives + x.opens
theorem op_counts {t g p s : Nat} (hp : p < t) (hs : s ≤ 3) : (opL t p s).fills g = (4 * p + s) * g + g ∧ (opL t p s).looks g = (4 * p + s) * g + g ∧ (opL t p s).arrives = 4 * p + s + 1 ∧ (opL t p s).opens = 4 * p + s + 1 := by
  unfold opL
  by_cases h : p + 1 = t ∧ s = 3
  · rw [if_pos h]; exact ⟨rfl, rfl, rfl, rfl⟩
  · rw [if_neg h]
    obtain ⟨_, _, h3, h4⟩ := nx_turn hp hs h
    simp only [Ln.fills, Ln.looks, Ln.arrives, Ln.opens, h3, h4, Nat.add_mul, Nat.one_mul, Option.isSome_none]
    simp
/-- never more than all -/
theorem fills_le {t g : Nat} {x : Ln} (h : x.Ok t g) (hg : 2 ≤ g) : 2 ≤ x.fills g ∧ x.fills g ≤ 4 * t * g ∧ x.fills g ≤ x.looks g ∧ x.looks g ≤ 4 * t * g ∧ x.arrives ≤ 4 * t ∧ x.opens ≤ 4 * t := by
  have hm : ∀ n, n + 1 ≤ 4 * t → n * g + g ≤ 4 * t * g := fun n hn => by
    have h1 := Nat.mul_le_mul_right g hn
    rwa [Nat.add_mul, Nat.one_mul] at h1
  have ho : ∀ n, 1 ≤ n → g ≤ n * g := fun n hn => Nat.le_mul_of_pos_left g hn
  match x, h with
  | .go p s i q, ⟨h1, h2, h3, h4, h5⟩ =>
    have h6 := hm (4 * p + s) (by omega)
    have h7 : 2 ≤ (4 * p + s) * g + i := by
      by_cases h0 : p = 0 ∧ s = 0
      · unfold fiN at h3; rw [if_pos h0] at h3; omega
      · have := ho (4 * p + s) (by omega); omega
    simp only [Ln.fills, Ln.looks, Ln.arrives, Ln.opens]
    cases q with
    | none => simp; omega
    | some W => have := h5 rfl; simp; omega
  | .gate p s, ⟨h1, h2⟩ =>
    have h6 := hm (4 * p + s) (by omega)
    simp only [Ln.fills, Ln.looks, Ln.arrives, Ln.opens]
    omega
  | .done p s, ⟨h1, h2⟩ =>
    have h6 := hm (4 * p + s) (by omega)
    simp only [Ln.fills, Ln.looks, Ln.arrives, Ln.opens]
    omega
end Go.Proofs.YtfoodaobiknihaaDoor
