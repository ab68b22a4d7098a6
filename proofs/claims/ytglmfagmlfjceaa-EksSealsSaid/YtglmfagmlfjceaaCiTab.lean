/- The words in memory: a block of 1,042 words. No condition but those typed. -/
import Derived.Test.YtglmfagmlfjceaaArr
import Derived.Test.YtglmfagmlfjceaaLaid
import Derived.Test.YtglmfagmlfjceaaCiPure
import Derived.Lib.Hide
namespace Go.Proofs.Ytglmfagmlfjceaa
set_option maxRecDepth 50000
open Go.RowKit Ci

def ta (g : Nat → Nat) : Array Value := ((List.range 1042).map fun i => Value.int .u32 (g i : Int)).toArray
theorem ta_size (g : Nat → Nat) : (ta g).size = 1042 := by simp [ta]
theorem ta_at (g : Nat → Nat) (i : Nat) (h : i < 1042) : (ta g)[i]? = some (.int .u32 (g i : Int)) := by simp [ta, h]
theorem ta_set (g : Nat → Nat) (i v : Nat) (_h : i < 1042) : (ta g).setIfInBounds i (.int .u32 (v : Int)) = ta (upd g i v) := by
  apply Array.ext
  · simp [ta]
  · intro j h1 h2
    simp [ta_size] at h1
    have a1 : (ta (upd g i v))[j]? = some (.int .u32 (upd g i v j : Int)) := ta_at _ j h1
    rw [Array.getElem?_eq_getElem h2] at a1
    injection a1 with a1
    rw [a1, Array.getElem_setIfInBounds (by rw [ta_size]; exact h1)]
    unfold upd
    by_cases hj : i = j
    · subst hj; simp
    · rw [if_neg hj, if_neg (Ne.symm hj)]
      have a2 := ta_at g j h1
      rw [Array.getElem?_eq_getElem (by rw [ta_size]; exact h1)] at a2
      injection a2
theorem ta_congr (g h : Nat → Nat) (e : ∀ i, i < 1042 → g i = h i) : ta g = ta h := by
  unfold ta
  congr 1
  apply List.map_congr_left
  intro i hi
  rw [e i (by simpa using hi)]
theorem ta_one (g : Nat → Nat) : (ta g).all (·.oneCell') = true := by
  rw [Array.all_eq_true]
  intro i h
  have a := ta_at g i (by rw [ta_size] at h; exact h)
  rw [Array.getElem?_eq_getElem h] at a
  injection a with a
  rw [a]; rfl
/-- block b holds the words g -/
def Tab (w : World) (b : Nat) (t : TypeId) (g : Nat → Nat) : Prop := RowAt w b t (ta g)
theorem Tab.cell {w : World} {b : Nat} {t : TypeId} {g : Nat → Nat} (h : Tab w b t g) (i : Nat) (hi : i < 1042) : w.cell? ⟨b, i, none⟩ = some (.int .u32 (g i : Int)) := by rw [RowAt.cell h, ta_at g i hi]
theorem Tab.free {w : World} {b : Nat} {t : TypeId} {g : Nat → Nat} (h : Tab w b t g) (i : Nat) : w.frozen? ⟨b, i, none⟩ = false := RowAt.frozen h i
theorem Tab.lt {w : World} {b : Nat} {t : TypeId} {g : Nat → Nat} (h : Tab w b t g) : b < w.heap.size := RowAt.lt h
theorem Tab.set {w : World} {b : Nat} {t : TypeId} {g : Nat → Nat} (h : Tab w b t g) (i v : Nat) (hi : i < 1042) : Tab (w.setCell ⟨b, i, none⟩ (.int .u32 (v : Int))) b t (upd g i v) := by
  unfold Tab; rw [← ta_set g i v hi]; exact RowAt.setCell h i _
theorem Tab.drewN {w : World} {b : Nat} {t : TypeId} {g : Nat → Nat} (h : Tab w b t g) (k : Nat) : Tab (w.drewN k) b t g := h
theorem Tab.below {w w' : World} {b B : Nat} {t : TypeId} {g : Nat → Nat} (h : Tab w b t g) (hb : Below B w w') (hB : b < B) : Tab w' b t g := RowAt.below h hb hB
theorem Tab.alloc {w : World} {b : Nat} {t : TypeId} {g : Nat → Nat} (h : Tab w b t g) (o : Obj) : Tab (w.alloc o) b t g := RowAt.alloc h o
end Go.Proofs.Ytglmfagmlfjceaa
