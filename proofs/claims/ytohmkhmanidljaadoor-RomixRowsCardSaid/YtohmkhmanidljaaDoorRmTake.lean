/- Row by any number, lists of one row, and a store whose piece is taken back. Conditions: those typed. -/
import Derived.Test.YtohmkhmanidljaaDoorRmAwake
namespace Go.Proofs.YtohmkhmanidljaaDoor
set_option maxRecDepth 50000
open Go.RowKit Bb Sl Sf Rm

/-- what Row answers -/
def rwL (X : List (List Nat)) (k : Int) : List Nat := if k < 0 ∨ (X.length : Int) ≤ k then [] else X.getD k.toNat []
def rwE (R : Nat) (k : Int) : Int := if k < 0 ∨ (R : Int) ≤ k then 11 else 0
theorem rwL_out {X : List (List Nat)} {k : Int} (h : k < 0 ∨ (X.length : Int) ≤ k) : rwL X k = [] := if_pos h
theorem rwL_in {X : List (List Nat)} {k : Nat} (h : k < X.length) : rwL X (k : Int) = X.getD k [] := by unfold rwL; rw [if_neg (by omega), Int.toNat_natCast]
theorem rwE_out {R : Nat} {k : Int} (h : k < 0 ∨ (R : Int) ≤ k) : rwE R k = 11 := if_pos h
theorem rwE_in {R k : Nat} (h : k < R) : rwE R (k : Int) = 0 := if_neg (by omega)
theorem rwL_set {X : List (List Nat)} {k : Nat} {l : List Nat} (hk : k < X.length) {o : Int} (ho : o ≠ (k : Int)) : rwL (X.set k l) o = rwL X o := by
  unfold rwL
  rw [List.length_set]
  split
  · rfl
  · rw [setl_at _ _ _ _ _ hk, if_neg (by omega)]
section
variable {w w' : World} {s p a g n r : Nat} {X : List (List Nat)}
theorem rwL_short (hS : St w s p a g n r X) (k : Int) : (rwL X k).length ≤ 16384 := by
  unfold rwL
  split
  · simp
  · rw [(hS.rok k.toNat (by omega)).1]; exact hS.m1.2
theorem row_int (hS : St w s p a g n r X) (k : Int) : Calls Tryd.prog 13 #[.pointer (some ⟨s, 0, none⟩), .int .i64 k] w fun e w' => ∃ A c, e = .returned (.tuple #[.slice A (rwL X k).length c, .int .i64 (rwE X.length k)]) ∧ Reads w' w'.heap.size A (u32s (rwL X k)) ∧ Below w.heap.size w w' := by
  by_cases hk : k < 0 ∨ (X.length : Int) ≤ k
  · rw [rwL_out hk, rwE_out hk]
    refine (row_bad_way 11 (by decide) _ k w (sfault_out hS.row hS.pce hS.r1 hS.r2 hS.n1 k (by rw [← hS.len]; exact hk))).mono ?_
    rintro e w' ⟨rfl, rfl⟩
    exact ⟨none, 0, rfl, Reads.nil_, Below.refl _ _⟩
  · obtain ⟨k, rfl⟩ : ∃ q : Nat, k = (q : Int) := ⟨k.toNat, by omega⟩
    have hk' : k < X.length := by omega
    rw [rwL_in hk', rwE_in hk']
    refine (row_in hS k hk').mono ?_
    rintro e w' ⟨G, rfl, R, hG, hb⟩
    exact ⟨_, 32 * r, by rw [(hS.rok k hk').1], row_reads R R.lt, hb⟩
/-- words that were read stay while rows are put -/
theorem reads_kept {B : Nat} {A : Option Addr} {l : List Nat} (hr : Reads w B A (u32s l)) (hB : B ≤ w.heap.size) (hS : St w s p a g n r X) (hk : Kept (fun b => b = g) w w') : Reads w' B A (u32s l) := fun k hl => by
  obtain ⟨W, _, hW, _⟩ := hS.mem
  obtain ⟨b, o, e, hlt, hc⟩ := hr k hl
  have h0 : 0 < l.length := by rw [u32s_length] at hl; omega
  exact ⟨b, o, e, hlt, (World.cell?_of_block (w := w) (a := ⟨b, o + k, none⟩) (hk.block b (by omega) (rd_off hr hW h0 o e))).trans hc⟩
/-- a list of one row -/
theorem one_rws {g : Nat} {a : Option Addr} {l : List Nat} {c : Nat} (hg : RowAt w g 22 #[.slice a l.length c]) (hr : Reads w w.heap.size a (u32s l)) : Rws w w.heap.size (.slice (some ⟨g, 0, none⟩) 1 1) [l] :=
  ⟨_, 1, rfl, fun i hi => by
    obtain rfl : i = 0 := by simpa using hi
    exact ⟨g, 0, a, c, rfl, hg.lt, by rw [Nat.zero_add, hg.cell 0]; rfl, hr⟩⟩
theorem same_one {w1 : World} {a b : Option Addr} {l k : List Nat} {c d : Nat} (hl : Reads w w.heap.size a (u32s l)) (hk : Reads w w.heap.size b (u32s k)) (hll : l.length ≤ 1000000) (hkl : k.length ≤ 1000000)
    (hw : w1 = (w.alloc (.cells #[.slice a l.length c] 22)).alloc (.cells #[.slice b k.length d] 22)) :
    Calls Tryd.prog 11 #[.slice (some ⟨w.heap.size, 0, none⟩) 1 1, .slice (some ⟨w.heap.size + 1, 0, none⟩) 1 1] w1 fun e w' => e = .returned (.bool (decide (l = k))) ∧ Below w.heap.size w w' := by
  have b1 : Below w.heap.size w w1 := by rw [hw]; exact ((Below.refl _ _).alloc (Nat.le_refl _) _).alloc (by simp) _
  have r1 : RowAt w1 w.heap.size 22 #[.slice a l.length c] := by rw [hw]; exact (RowAt.new _ _ _).alloc _
  have r2 : RowAt w1 (w.heap.size + 1) 22 #[.slice b k.length d] := by
    rw [hw]
    have := RowAt.new (w.alloc (.cells #[.slice a l.length c] 22)) 22 #[.slice b k.length d]
    rwa [World.size_alloc] at this
  refine (same_any (one_rws r1 ((hl.below b1).more b1.size)) (one_rws r2 ((hk.below b1).more b1.size)) (by simp) (fun i hi => ?_) (fun i hi => ?_)).mono ?_
  · obtain rfl : i = 0 := by simpa using hi
    exact hll
  · obtain rfl : i = 0 := by simpa using hi
    exact hkl
  · rintro e w' ⟨rfl, q, rfl⟩
    refine ⟨?_, below_drewN b1 q⟩
    have : decide ([l] = [k]) = decide (l = k) := by simp
    rw [this]
/-- a piece is taken back -/
theorem off_any {B u h c : Nat} (hS : St w s p a g n r X) (hA : AreAt w a B u h c) (hu : n ≤ u) (hu2 : u ≤ 4194304) (hc1 : 1 ≤ c) (hc : c ≤ 4194304) :
    Calls Tryd.prog 18 #[.pointer (some ⟨a, 0, none⟩), .pointer (some ⟨p, 0, none⟩)] w fun e w' => e = .returned (.int .i64 0) ∧ ScAt w' s p r ∧ PceAt w' p a n false (.slice none 0 0) ∧ Kept (fun k => k = a ∨ k = p ∨ k = g) w w' := by
  obtain ⟨l, hl, hP⟩ := hS.live
  refine (arel_any hA hP (by omega) hu2 hc1 hc).mono ?_
  rintro e w' ⟨rfl, hO, _, hK⟩
  rw [hl] at hO
  refine ⟨rfl, RowAt.kept hS.row hK ?_, hO, hK⟩
  rintro (e | e | e)
  · exact RowAt.unlike hS.row hA rfl e
  · exact RowAt.unlike hS.row hS.pce rfl e
  · exact hS.apart.1 e
end
end Go.Proofs.YtohmkhmanidljaaDoor
