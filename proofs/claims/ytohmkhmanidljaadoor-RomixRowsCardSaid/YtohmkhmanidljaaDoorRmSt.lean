/- A store of rows in memory: what it is told by, what leaves it so, a new one, and its blocks as a piece that can be taken back; read of package romix. Conditions: those typed. -/
import Derived.Test.YtohmkhmanidljaaDoorRmMem
import Derived.Test.YtohmkhmanidljaaDoorSfMix
namespace Go.Proofs.YtohmkhmanidljaaDoor
set_option maxRecDepth 50000
open Go.RowKit Bb Sl Sf Rm

/-- a store at block s, its piece at p, of n blocks at g, that holds the rows X of 32 r words -/
structure St (w : World) (s p a g n r : Nat) (X : List (List Nat)) : Prop where
  row : ScAt w s p r
  pce : PceAt w p a n true (.slice (some ⟨g, 0, none⟩) n n)
  mem : ∃ W, W.length = 128 * n ∧ RowAt w g 95 (wq W) ∧ Mem W X (32 * r)
  len : X.length = n * 256 / (32 * r)
  r1 : 1 ≤ r
  r2 : r ≤ 512
  n1 : n ≤ 4194304
section
variable {w w' : World} {s p a g n r : Nat} {M : Nat → Prop} {X : List (List Nat)}
theorem St.apart (h : St w s p a g n r X) : s ≠ g ∧ p ≠ g ∧ s < w.heap.size ∧ p < w.heap.size ∧ g < w.heap.size := by
  obtain ⟨W, _, hW, _⟩ := h.mem
  exact ⟨RowAt.unlike h.row hW rfl, RowAt.unlike h.pce hW rfl, RowAt.lt h.row, RowAt.lt h.pce, RowAt.lt hW⟩
theorem St.kept (h : St w s p a g n r X) (hk : Kept M w w') (hs : ¬ M s) (hp : ¬ M p) (hg : ¬ M g) : St w' s p a g n r X := by
  obtain ⟨W, h1, hW, h2⟩ := h.mem
  exact ⟨RowAt.kept h.row hk hs, RowAt.kept h.pce hk hp, ⟨W, h1, RowAt.kept hW hk hg, h2⟩, h.len, h.r1, h.r2, h.n1⟩
theorem St.step (h : St w s p a g n r X) (hb : Below w.heap.size w w') : St w' s p a g n r X :=
  h.kept (M := fun _ => False) (Kept.of_below hb) id id id
theorem St.drewN (h : St w s p a g n r X) (q : Nat) : St (w.drewN q) s p a g n r X := h.step (below_drewN (Below.refl _ _) q)
theorem St.drew (h : St w s p a g n r X) : St w.drew s p a g n r X := h.drewN 1
theorem St.rok (h : St w s p a g n r X) : Rok X (32 * r) := by
  obtain ⟨W, _, _, h2⟩ := h.mem
  exact h2.rok
theorem St.m1 (h : St w s p a g n r X) : 1 ≤ 32 * r ∧ 32 * r ≤ 16384 := by have := h.r1; have := h.r2; omega
/-- where a row's word is -/
theorem St.spot (h : St w s p a g n r X) {k i : Nat} (hk : k < X.length) (hi : i < 32 * r) : k * (32 * r) + i < 256 * n := by
  obtain ⟨W, h1, _, h2⟩ := h.mem
  have := spot_lt hk hi
  have := h2.room
  omega
theorem St.rows (h : St w s p a g n r X) : X.length ≤ 256 * n := by
  rw [h.len]
  exact Nat.le_trans (Nat.div_le_self _ _) (by omega)

/-- a store of a new piece -/
theorem bcs_zero (n : Nat) : (bcs (List.replicate n zb)).toArray = wq (List.replicate (128 * n) 0) := by
  rw [bcs_zeros, Nat.mul_comm]
  unfold wq u64s
  rw [List.map_replicate]; rfl
theorem St.new (hs : ScAt w s p r) (hP : LiveAt w p a g (List.replicate n zb)) (h1 : 1 ≤ r) (h2 : r ≤ 512) (hn : n ≤ 4194304) : St w s p a g n r (List.replicate (n * 256 / (32 * r)) (List.replicate (32 * r) 0)) := by
  have hp := hP.row
  have hb := hP.blk
  rw [List.length_replicate] at hp
  unfold BlkAt at hb
  rw [bcs_zero] at hb
  refine ⟨hs, hp, ⟨_, List.length_replicate .., hb, Mem.zero _ _ _ ?_⟩, List.length_replicate .., h1, h2, hn⟩
  have := Nat.div_mul_le_self (n * 256) (32 * r)
  omega

/-- words by blocks -/
def chunk : Nat → List Nat → List (List Nat)
  | 0, _ => []
  | n + 1, W => W.take 128 :: chunk n (W.drop 128)
theorem chunk_length : ∀ n W, (chunk n W).length = n
  | 0, _ => rfl
  | n + 1, W => by rw [chunk, List.length_cons, chunk_length n]
theorem chunk_bcs : ∀ n (W : List Nat), W.length = 128 * n → bcs (chunk n W) = u64s W
  | 0, W, h => by
    obtain rfl : W = [] := List.eq_nil_of_length_eq_zero (by omega)
    rfl
  | n + 1, W, h => by
    rw [chunk, show bcs (W.take 128 :: chunk n (W.drop 128)) = u64s (W.take 128) ++ bcs (chunk n (W.drop 128)) by simp [bcs], chunk_bcs n _ (by rw [List.length_drop]; omega)]
    unfold u64s
    rw [← List.map_append, List.take_append_drop]
theorem chunk_ok : ∀ n (W : List Nat), W.length = 128 * n → (∀ x ∈ W, x < 18446744073709551616) → ∀ b ∈ chunk n W, okb b
  | 0, _, _, _ => fun b hb => absurd hb (by simp [chunk])
  | n + 1, W, h, ho => fun b hb => by
    rw [chunk, List.mem_cons] at hb
    rcases hb with rfl | hb
    · exact ⟨by rw [List.length_take]; omega, fun x hx => ho x (List.mem_of_mem_take hx)⟩
    · exact chunk_ok n _ (by rw [List.length_drop]; omega) (fun x hx => ho x (List.mem_of_mem_drop hx)) b hb
theorem St.live (h : St w s p a g n r X) : ∃ l, l.length = n ∧ LiveAt w p a g l := by
  obtain ⟨W, h1, hW, h2⟩ := h.mem
  have ho : ∀ x ∈ W, x < 18446744073709551616 := fun x hx => by
    obtain ⟨i, hi, rfl⟩ := List.getElem_of_mem hx
    have := h2.ok i
    rwa [List.getD_eq_getElem?_getD, List.getElem?_eq_getElem hi, Option.getD_some] at this
  refine ⟨chunk n W, chunk_length n W, ?_, ?_, chunk_ok n W h1 ho⟩
  · rw [chunk_length]; exact h.pce
  · unfold BlkAt
    rw [chunk_bcs n W h1]
    exact hW

/-- a word of a row by way of its block -/
theorem spot_b (q : Nat) : q / 256 * 128 + q % 256 / 2 = q / 2 ∧ q % 256 % 2 = q % 2 := by omega
theorem St.word (h : St w s p a g n r X) {k i q : Nat} (hk : k < X.length) (hi : i < 32 * r) (hq : k * (32 * r) + i = q) :
    Calls Tryd.prog 35 #[.pointer (some ⟨g, q / 256 * 128, none⟩), .int .i64 ((q % 256 : Nat) : Int)] w fun e w' => e = .returned (.int .u32 (((X.getD k []).getD i 0 : Nat) : Int)) ∧ ∃ q, w' = w.drewN q := by
  have hs := h.spot hk hi
  obtain ⟨W, h1, hW, h2⟩ := h.mem
  have C := halfo_any (o := q / 256 * 128) hW h2.ok (q % 256) (Nat.mod_lt _ (by decide)) (by omega)
  rw [(spot_b q).1, (spot_b q).2] at C
  subst hq
  rw [h2.at_ k i hk hi] at C
  exact C
theorem St.setWord (h : St w s p a g n r X) {k i q : Nat} (hk : k < X.length) (hi : i < 32 * r) (hq : k * (32 * r) + i = q) (x : Nat) (hx : x < 4294967296) :
    Calls Tryd.prog 37 #[.pointer (some ⟨g, q / 256 * 128, none⟩), .int .i64 ((q % 256 : Nat) : Int), .int .u32 (x : Int)] w fun e w' => e = .returned (.bool true) ∧ St w' s p a g n r (X.set k ((X.getD k []).set i x)) ∧ Kept (fun b => b = g) w w' := by
  have hs := h.spot hk hi
  obtain ⟨n1, n2, _⟩ := h.apart
  obtain ⟨W, h1, hW, h2⟩ := h.mem
  have C := seto_any (o := q / 256 * 128) hW h2.ok (q % 256) (Nat.mod_lt _ (by decide)) (by omega) x hx
  rw [(spot_b q).1, (spot_b q).2] at C
  subst hq
  refine C.mono ?_
  rintro e w' ⟨rfl, R, K⟩
  exact ⟨rfl, ⟨RowAt.kept h.row K n1, RowAt.kept h.pce K n2, ⟨_, by rw [List.length_set]; exact h1, R, h2.set hk hi hx⟩, by rw [List.length_set]; exact h.len, h.r1, h.r2, h.n1⟩, K⟩
theorem St.half (h : St w s p a g n r X) {k i q : Nat} (hk : k < X.length) (hi : i < 32 * r) (hq : k * (32 * r) + i = q) :
    Calls Tryd.prog 36 #[.pointer (some ⟨s, 0, none⟩), .int .i64 (k : Int), .int .i64 (i : Int)] w fun e w' => e = .returned (.tuple #[.pointer (some ⟨g, q / 256 * 128, none⟩), .int .i64 ((q % 256 : Nat) : Int)]) ∧ w' = w :=
  shalf_any h.row h.pce h.r2 k i q hq (by have := h.spot hk hi; omega) h.n1
end
end Go.Proofs.YtohmkhmanidljaaDoor
