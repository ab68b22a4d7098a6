/- Numbers of chapter 30: a seed's words, a block of addresses, a source's cells. No condition but those typed. -/
import Derived.Test.YtnbdmkgldjhcaaaDoorBnMix
import Derived.Test.YtnbdmkgldjhcaaaDoorPlSpot
namespace Go.Proofs.YtnbdmkgldjhcaaaDoor
set_option maxRecDepth 50000
open Go.RowKit Bb Bn

/-- an int as a word of 64 bits -/
def w64 (x : Int) : Nat := (x % 18446744073709551616).toNat
theorem w64_lt (x : Int) : w64 x < 18446744073709551616 := by unfold w64; omega
theorem w64_wrap (x : Int) : IntKind.u64.wrap x = ((w64 x : Nat) : Int) := by
  rw [IntKind.wrap_u64]; unfold w64; omega
/-- the first i words of a seed are put -/
def sdTo (L : List Int) (i : Nat) : List Nat := (L.take i).map w64 ++ List.replicate (128 - i) 0
theorem sdTo_length {L : List Int} {i : Nat} (h : i ≤ L.length) (hi : i ≤ 128) : (sdTo L i).length = 128 := by
  simp [sdTo]; omega
theorem sdTo_next {L : List Int} {i : Nat} (h : i < L.length) (hi : i < 128) : sdTo L (i + 1) = (sdTo L i).set i (w64 (L.getD i 0)) := by
  unfold sdTo
  have hl : ((L.take i).map w64).length = i := by simp; omega
  rw [List.set_append, if_neg (by omega), hl, Nat.sub_self, show 128 - i = (128 - (i + 1)) + 1 by omega, List.replicate_succ, List.set_cons_zero, List.take_add_one, List.getElem?_eq_getElem h, List.map_append, List.append_assoc, List.getD_eq_getElem?_getD, List.getElem?_eq_getElem h]
  rfl
theorem sdTo_ok (L : List Int) (i : Nat) : ∀ x ∈ sdTo L i, x < 18446744073709551616 := by
  intro x hx
  unfold sdTo at hx
  rcases List.mem_append.1 hx with hx | hx
  · obtain ⟨y, _, rfl⟩ := List.mem_map.1 hx
    exact w64_lt y
  · obtain ⟨_, rfl⟩ := List.mem_replicate.1 hx
    decide
def seedL (p k s b t a c : Int) : List Nat := sdTo [p, k, s, b, t, a, c] 7
theorem seed_ok (p k s b t a c : Int) : okb (seedL p k s b t a c) := ⟨sdTo_length (by simp) (by omega), sdTo_ok _ _⟩
theorem zb_ok : okb zb := ⟨by simp [zb], by simp [zb]⟩
/-- a block of addresses -/
def addL (p k s b t a c : Int) : List Nat := mix zb (mix zb (seedL p k s b t a c))
theorem add_in (p k s b t a c : Int) : okb (mix zb (seedL p k s b t a c)) := mix_ok zb_ok (seed_ok ..)
theorem add_ok (p k s b t a c : Int) : okb (addL p k s b t a c) := mix_ok zb_ok (add_in ..)
/-- do a turn's addresses hang on no block? -/
def freeB (a : Nat) (p s : Int) : Bool := if a = 3 then decide (p = 0 ∧ s < 2) else decide (a = 2)

/-- a shape's number of a kind -/
theorem kind_any {a : Nat} (ha : a = 1 ∨ a = 2 ∨ a = 3) (t l m b c g z : Nat) (w : World) : Calls Tryd.prog 22 #[spv a t l m b c g z] w fun e w' => e = .returned (.int .i64 ((a : Int) - 1)) ∧ Below w.heap.size w w' := by
  have HB := Lib.hid (one_box w (.cells (spc a t l m b c g z) 28))
  rcases ha with rfl | rfl | rfl
  all_goals
    go_enter Tryd.func22, Tryd.ntmps22
    go_wp2
    go_ret
    exact ⟨rfl, HB.out⟩
end Go.Proofs.YtnbdmkgldjhcaaaDoor
