/- A store of rows in memory, by its piece; words, Rows, fault, half and New of package romix by their contracts. Conditions: those typed. A store of rows in memory: what it is told by, what leaves it so, a new one, and its blocks as a piece that can be taken back; read of package romix. Conditions: those typed. read and write of package romix, by their contracts. Conditions: those typed. -/
import Derived.Test.YtlifpplhinmajaaGreatDoorPu
import Derived.Test.YtlifpplhinmajaaGreatDoorAr
import Derived.Test.YtlifpplhinmajaaGreatDoorSf
namespace Go.Proofs.YtlifpplhinmajaaGreatDoor
set_option maxRecDepth 50000
open Go.RowKit Bb Sl Sf Rm

/-- a store at block s: its piece and its width -/
def ScAt (w : World) (s p r : Nat) : Prop := RowAt w s 78 #[.pointer (some ⟨p, 0, none⟩), .int .i64 (r : Int)]
section
variable {w w' : World} {s p a g n r : Nat} {live : Bool} {v : Value} {M : Nat → Prop} {X : List (List Nat)}
theorem ScAt.at_ (h : ScAt w s p r) : w.cell? ⟨s, 0, none⟩ = some (.pointer (some ⟨p, 0, none⟩)) ∧ w.cell? ⟨s, 1, none⟩ = some (.int .i64 (r : Int)) := ⟨by rw [RowAt.cell h 0]; rfl, by rw [RowAt.cell h 1]; rfl⟩

/-- a piece that is lent: its blocks are at block g -/
theorem at_live (hP : PceAt w p a n true (.slice (some ⟨g, 0, none⟩) n n)) (i : Nat) (hi : i < n) : Calls Tryz.prog 92 #[.pointer (some ⟨p, 0, none⟩), .int .i64 (i : Int)] w fun e w' => e = .returned (.pointer (some ⟨g, i * 128, none⟩)) ∧ w' = w := by
  have C := Lib.hid (fault_any hP i)
  rw [fa_ok hi] at C
  obtain ⟨x0, x1, x2, x3, f0, f1, f2, f3⟩ := hP.at_
  clear hP
  have hi0 : (0 : Int) ≤ (i : Int) := by omega
  have hi1 : (i : Int) < (n : Int) := by omega
  go_enter Tryz.func92, Tryz.ntmps92
  go_wp2_with fail
  refine C.out.mono ?_; rintro e w' ⟨rfl, rfl⟩
  go_wp2
  go_ret
  exact ⟨by first | rfl | simp, rfl⟩

theorem words_any (h : ScAt w s p r) (hr : r ≤ 512) : Calls Tryz.prog 71 #[.pointer (some ⟨s, 0, none⟩)] w fun e w' => e = .returned (.int .i64 ((32 * r : Nat) : Int)) ∧ w' = w := by
  obtain ⟨x0, x1⟩ := h.at_
  have e1 : (32 : Int) * (r : Int) = ((32 * r : Nat) : Int) := by omega
  obtain ⟨u, hu⟩ : ∃ u, 32 * r = u := ⟨_, rfl⟩
  have hub : u ≤ 16384 := by omega
  rw [hu] at e1 ⊢
  have hw : IntKind.i64.wrap (u : Int) = (u : Int) := IntWalk.i64_in _ (by omega)
  clear h hu hub
  go_enter Tryz.func71, Tryz.ntmps71
  go_wp2
  go_ret
  exact ⟨rfl, rfl⟩
theorem rows_nil (w : World) : Calls Tryz.prog 70 #[.pointer none] w fun e w' => e = .returned (.int .i64 0) ∧ w' = w := by
  go_enter Tryz.func70, Tryz.ntmps70
  go_wp2
  go_ret
  exact ⟨rfl, rfl⟩
theorem rows_any (h : ScAt w s p r) (hP : PceAt w p a n live v) (h1 : 1 ≤ r) (hr : r ≤ 512) (hn : n ≤ 4194304) : Calls Tryz.prog 70 #[.pointer (some ⟨s, 0, none⟩)] w fun e w' => e = .returned (.int .i64 ((n * 256 / (32 * r) : Nat) : Int)) ∧ w' = w := by
  obtain ⟨x0, x1⟩ := h.at_
  have HW := Lib.hid (words_any h hr)
  have HL := Lib.hid (len_any hP)
  have d0 : ((r : Int) == 0) = false := by simp; omega
  have r0 : ¬ r = 0 := by omega
  have e1 : (n : Int) * 256 = ((n * 256 : Nat) : Int) := by omega
  have hN : n * 256 ≤ 2000000000 := by omega
  have hU : 32 * r ≤ 16384 := by omega
  have hU1 : 1 ≤ 32 * r := by omega
  generalize n * 256 = N at *
  generalize 32 * r = U at *
  have hq : N / U ≤ N := Nat.div_le_self _ _
  have e2 : (N : Int) / (U : Int) = ((N / U : Nat) : Int) := rfl
  have e3 : (N : Int).tdiv (U : Int) = ((N / U : Nat) : Int) := rfl
  generalize N / U = q at *
  have hw : IntKind.i64.wrap (N : Int) = (N : Int) := IntWalk.i64_in _ (by omega)
  have hw2 : IntKind.i64.wrap (q : Int) = (q : Int) := IntWalk.i64_in _ (by omega)
  have u0 : ¬ U = 0 := by omega
  clear h hP hN hU hU1 hq hn hr h1
  go_enter Tryz.func70, Tryz.ntmps70
  go_wp2_with fail
  refine HL.out.mono ?_; rintro e w' ⟨rfl, rfl⟩
  go_wp2_with fail
  refine HW.out.mono ?_; rintro e w' ⟨rfl, rfl⟩
  go_wp2
  go_ret
  exact ⟨rfl, rfl⟩
theorem sfault_nil (k : Int) (w : World) : Calls Tryz.prog 69 #[.pointer none, .int .i64 k] w fun e w' => e = .returned (.int .i64 11) ∧ w' = w := by
  have HR := Lib.hid fun w => rows_nil w
  have hk : decide (k < 0) = true ∨ (decide (k < 0) = false ∧ decide (0 ≤ k) = true ∧ 0 ≤ k) := by
    rcases Int.lt_or_le k 0 with h | h
    · exact .inl (by simpa using h)
    · exact .inr ⟨by simpa using h, by simpa using h, h⟩
  rcases hk with d | ⟨d, d2, d3⟩
  · go_enter Tryz.func69, Tryz.ntmps69
    go_wp2
    go_ret
    exact ⟨rfl, rfl⟩
  · go_enter Tryz.func69, Tryz.ntmps69
    go_wp2_with fail
    refine (HR.out _).mono ?_; rintro e w' ⟨rfl, rfl⟩
    go_wp2
    go_ret
    exact ⟨rfl, rfl⟩

/-- why row k can't be reached: there is none, or the piece was taken back -/
theorem sfault_out (h : ScAt w s p r) (hP : PceAt w p a n live v) (h1 : 1 ≤ r) (hr : r ≤ 512) (hn : n ≤ 4194304) (k : Int) (hk : k < 0 ∨ ((n * 256 / (32 * r) : Nat) : Int) ≤ k) : Calls Tryz.prog 69 #[.pointer (some ⟨s, 0, none⟩), .int .i64 k] w fun e w' => e = .returned (.int .i64 11) ∧ w' = w := by
  have HR := Lib.hid (rows_any h hP h1 hr hn)
  clear h hP
  generalize n * 256 / (32 * r) = R at *
  rcases Int.lt_or_le k 0 with d | d
  · have d1 : decide (k < 0) = true := by simpa using d
    clear hk
    go_enter Tryz.func69, Tryz.ntmps69
    go_wp2
    go_ret
    exact ⟨rfl, rfl⟩
  · have d1 : decide (k < 0) = false := by simpa using d
    have d2 : decide ((R : Int) ≤ k) = true := by simp; omega
    have d3 : (R : Int) ≤ k := by omega
    clear hk
    go_enter Tryz.func69, Tryz.ntmps69
    go_wp2_with fail
    refine HR.out.mono ?_; rintro e w' ⟨rfl, rfl⟩
    go_wp2
    go_ret
    exact ⟨rfl, rfl⟩
theorem sfault_in (h : ScAt w s p r) (hP : PceAt w p a n true (.slice (some ⟨g, 0, none⟩) n n)) (h1 : 1 ≤ r) (hr : r ≤ 512) (hn : n ≤ 4194304) (k : Nat) (hk : k < n * 256 / (32 * r)) : Calls Tryz.prog 69 #[.pointer (some ⟨s, 0, none⟩), .int .i64 (k : Int)] w fun e w' => e = .returned (.int .i64 0) ∧ w' = w := by
  have HR := Lib.hid (rows_any h hP h1 hr hn)
  have hn1 : 0 < n := by
    rcases Nat.eq_zero_or_pos n with e | e
    · subst e; simp at hk
    · exact e
  have HA := Lib.hid (at_live hP 0 hn1)
  obtain ⟨x0, x1⟩ := h.at_
  clear h hP
  generalize n * 256 / (32 * r) = R at *
  have d1 : decide ((k : Int) < 0) = false := by simp
  have d2 : decide ((R : Int) ≤ (k : Int)) = false := by simp; omega
  have d3 : (k : Int) < (R : Int) := by omega
  have d4 : decide (R ≤ k) = false := by simp; omega
  clear hk hn1
  go_enter Tryz.func69, Tryz.ntmps69
  go_wp2_with fail
  refine HR.out.mono ?_; rintro e w' ⟨rfl, rfl⟩
  go_wp2_with fail
  refine HA.out.mono ?_; rintro e w' ⟨rfl, rfl⟩
  go_wp2
  go_ret
  exact ⟨rfl, rfl⟩
theorem sfault_off (h : ScAt w s p r) (hP : PceAt w p a n false v) (h1 : 1 ≤ r) (hr : r ≤ 512) (hn : n ≤ 4194304) (k : Nat) (hk : k < n * 256 / (32 * r)) : Calls Tryz.prog 69 #[.pointer (some ⟨s, 0, none⟩), .int .i64 (k : Int)] w fun e w' => e = .returned (.int .i64 12) ∧ w' = w := by
  have HR := Lib.hid (rows_any h hP h1 hr hn)
  have hn1 : 0 < n := by
    rcases Nat.eq_zero_or_pos n with e | e
    · subst e; simp at hk
    · exact e
  have HA := Lib.hid (at_bad hP 0 (by unfold faN; rw [if_neg (by omega)]; simp))
  obtain ⟨x0, x1⟩ := h.at_
  clear h hP
  generalize n * 256 / (32 * r) = R at *
  have d1 : decide ((k : Int) < 0) = false := by simp
  have d2 : decide ((R : Int) ≤ (k : Int)) = false := by simp; omega
  have d3 : (k : Int) < (R : Int) := by omega
  have d4 : decide (R ≤ k) = false := by simp; omega
  clear hk hn1
  go_enter Tryz.func69, Tryz.ntmps69
  go_wp2_with fail
  refine HR.out.mono ?_; rintro e w' ⟨rfl, rfl⟩
  go_wp2_with fail
  refine HA.out.mono ?_; rintro e w' ⟨rfl, rfl⟩
  go_wp2
  go_ret
  exact ⟨rfl, rfl⟩

/-- where word i of row k is: in which block, and which half of it -/
theorem shalf_any (h : ScAt w s p r) (hP : PceAt w p a n true (.slice (some ⟨g, 0, none⟩) n n)) (hr : r ≤ 512) (k i q : Nat) (hq : k * (32 * r) + i = q) (hqn : q < 256 * n) (hn : n ≤ 4194304) :
    Calls Tryz.prog 73 #[.pointer (some ⟨s, 0, none⟩), .int .i64 (k : Int), .int .i64 (i : Int)] w fun e w' => e = .returned (.tuple #[.pointer (some ⟨g, q / 256 * 128, none⟩), .int .i64 ((q % 256 : Nat) : Int)]) ∧ w' = w := by
  have HW := Lib.hid (words_any h hr)
  have HA := Lib.hid (at_live hP (q / 256) (by omega))
  obtain ⟨x0, x1⟩ := h.at_
  have hi : i ≤ q := by omega
  have e1 : (k : Int) * ((32 * r : Nat) : Int) = ((k * (32 * r) : Nat) : Int) := rfl
  have hf : k * (32 * r) ≤ q := by omega
  generalize 32 * r = u at *
  generalize k * u = f at *
  have e2 : (f : Int) + (i : Int) = (q : Int) := by omega
  have hwf : IntKind.i64.wrap (f : Int) = (f : Int) := IntWalk.i64_in _ (by omega)
  have hwq : IntKind.i64.wrap (q : Int) = (q : Int) := IntWalk.i64_in _ (by omega)
  have q1 : (q : Int) / 256 = ((q / 256 : Nat) : Int) := by omega
  have q2 : (q : Int).tdiv 256 = ((q / 256 : Nat) : Int) := rfl
  have q3 : (q : Int) % 256 = ((q % 256 : Nat) : Int) := by omega
  have q4 : (q : Int).tmod 256 = ((q % 256 : Nat) : Int) := rfl
  have hb : q / 256 ≤ 4194304 := by omega
  have hm : q % 256 < 256 := Nat.mod_lt _ (by decide)
  generalize q / 256 = b at *
  generalize q % 256 = c at *
  have hwb : IntKind.i64.wrap (b : Int) = (b : Int) := IntWalk.i64_in _ (by omega)
  have hwc : IntKind.i64.wrap (c : Int) = (c : Int) := IntWalk.i64_in _ (by omega)
  clear h hP hq hqn hn hr hi hf
  go_enter Tryz.func73, Tryz.ntmps73
  go_wp2_with fail
  refine HW.out.mono ?_; rintro e w' ⟨rfl, rfl⟩
  go_wp2_with fail
  refine HA.out.mono ?_; rintro e w' ⟨rfl, rfl⟩
  go_wp2
  go_ret2
  exact ⟨rfl, rfl⟩

/-- New: why there is no store, and one -/
theorem rnew_nil (r : Int) (w : World) : Calls Tryz.prog 25 #[.pointer none, .int .i64 r] w fun e w' => e = .returned (.tuple #[.pointer none, .int .i64 11]) ∧ w' = w := by
  go_enter Tryz.func25, Tryz.ntmps25
  go_wp2
  go_ret2
  exact ⟨rfl, rfl⟩
theorem rnew_bad (p : Addr) (r : Int) (hr : r < 1 ∨ 512 < r) (w : World) : Calls Tryz.prog 25 #[.pointer (some p), .int .i64 r] w fun e w' => e = .returned (.tuple #[.pointer none, .int .i64 2]) ∧ w' = w := by
  have HC := Lib.hid (check_bad r hr (.slice none 0 0) w)
  clear hr
  go_enter Tryz.func25, Tryz.ntmps25
  go_wp2_with fail
  refine HC.out.mono ?_; rintro e w' ⟨rfl, rfl⟩
  go_wp2
  go_ret2
  exact ⟨rfl, rfl⟩
theorem rnew_any (p r : Nat) (h1 : 1 ≤ r) (h2 : r ≤ 512) (w : World) : Calls Tryz.prog 25 #[.pointer (some ⟨p, 0, none⟩), .int .i64 (r : Int)] w fun e w' => e = .returned (.tuple #[.pointer (some ⟨w.heap.size, 0, none⟩), .int .i64 0]) ∧ ScAt w' w.heap.size p r ∧ Below w.heap.size w w' := by
  have HC := Lib.hid (check_size r h1 h2 none 0 0 (by omega) w)
  clear h1 h2
  go_enter Tryz.func25, Tryz.ntmps25
  go_wp2_with fail
  refine HC.out.mono ?_; rintro e w' ⟨rfl, rfl⟩
  go_wp2
  go_ret2
  exact ⟨rfl, RowAt.new _ _ _, (Below.refl _ _).alloc (Nat.le_refl _) _⟩
end
end Go.Proofs.YtlifpplhinmajaaGreatDoor

namespace Go.Proofs.YtlifpplhinmajaaGreatDoor
set_option maxRecDepth 50000
open Go.RowKit Bb Sl Sf Rm

/-- a store at block s, its piece at p, of n blocks at g, that holds the rows X of 32 r words -/
structure St (w : World) (s p a g n r : Nat) (X : List (List Nat)) : Prop where
  row : ScAt w s p r
  pce : PceAt w p a n true (.slice (some ⟨g, 0, none⟩) n n)
  mem : ∃ W, W.length = 128 * n ∧ RowAt w g 169 (wq W) ∧ Mem W X (32 * r)
  len : X.length = n * 256 / (32 * r)
  r1 : 1 ≤ r
  r2 : r ≤ 512
  n1 : n ≤ 4194304
section
variable {w w' : World} {s p a g n r : Nat} {M : Nat → Prop} {X : List (List Nat)}
theorem St.apart (h : St w s p a g n r X) : s ≠ g ∧ p ≠ g ∧ s < w.heap.size ∧ p < w.heap.size ∧ g < w.heap.size := by
  obtain ⟨W, _, hW, _⟩ := h.mem
  exact ⟨RowAt.unlike h.row hW rfl, RowAt.unlike h.pce hW rfl, RowAt.lt h.row, RowAt.lt h.pce, RowAt.lt hW⟩
theorem St.kept (h : St w s p a g n r X) (hk : Kept M w w') (hs : ¬ M s) (hp : ¬ M p) (hg : ¬ M g) : St w' s p a g n r X := by
  obtain ⟨W, h1, hW, h2⟩ := h.mem
  exact ⟨RowAt.kept h.row hk hs, RowAt.kept h.pce hk hp, ⟨W, h1, RowAt.kept hW hk hg, h2⟩, h.len, h.r1, h.r2, h.n1⟩
theorem St.step (h : St w s p a g n r X) (hb : Below w.heap.size w w') : St w' s p a g n r X :=
  h.kept (M := fun _ => False) (Kept.of_below hb) id id id
theorem St.drewN (h : St w s p a g n r X) (q : Nat) : St (w.drewN q) s p a g n r X := h.step (below_drewN (Below.refl _ _) q)
theorem St.drew (h : St w s p a g n r X) : St w.drew s p a g n r X := h.drewN 1
theorem St.rok (h : St w s p a g n r X) : Rok X (32 * r) := by
  obtain ⟨W, _, _, h2⟩ := h.mem
  exact h2.rok
theorem St.m1 (h : St w s p a g n r X) : 1 ≤ 32 * r ∧ 32 * r ≤ 16384 := by have := h.r1; have := h.r2; omega
/-- where a row's word is -/
theorem St.spot (h : St w s p a g n r X) {k i : Nat} (hk : k < X.length) (hi : i < 32 * r) : k * (32 * r) + i < 256 * n := by
  obtain ⟨W, h1, _, h2⟩ := h.mem
  have := spot_lt hk hi
  have := h2.room
  omega
theorem St.rows (h : St w s p a g n r X) : X.length ≤ 256 * n := by
  rw [h.len]
  exact Nat.le_trans (Nat.div_le_self _ _) (by omega)

/-- a store of a new piece -/
theorem bcs_zero (n : Nat) : (bcs (List.replicate n zb)).toArray = wq (List.replicate (128 * n) 0) := by
  rw [bcs_zeros, Nat.mul_comm]
  unfold wq u64s
  rw [List.map_replicate]; rfl
theorem St.new (hs : ScAt w s p r) (hP : LiveAt w p a g (List.replicate n zb)) (h1 : 1 ≤ r) (h2 : r ≤ 512) (hn : n ≤ 4194304) : St w s p a g n r (List.replicate (n * 256 / (32 * r)) (List.replicate (32 * r) 0)) := by
  have hp := hP.row
  have hb := hP.blk
  rw [List.length_replicate] at hp
  unfold BlkAt at hb
  rw [bcs_zero] at hb
  refine ⟨hs, hp, ⟨_, List.length_replicate .., hb, Mem.zero _ _ _ ?_⟩, List.length_replicate .., h1, h2, hn⟩
  have := Nat.div_mul_le_self (n * 256) (32 * r)
  omega

/-- words by blocks -/
def chunk : Nat → List Nat → List (List Nat)
  | 0, _ => []
  | n + 1, W => W.take 128 :: chunk n (W.drop 128)
theorem chunk_length : ∀ n W, (chunk n W).length = n
  | 0, _ => rfl
  | n + 1, W => by rw [chunk, List.length_cons, chunk_length n]
theorem chunk_bcs : ∀ n (W : List Nat), W.length = 128 * n → bcs (chunk n W) = u64s W
  | 0, W, h => by
    obtain rfl : W = [] := List.eq_nil_of_length_eq_zero (by omega)
    rfl
  | n + 1, W, h => by
    rw [chunk, show bcs (W.take 128 :: chunk n (W.drop 128)) = u64s (W.take 128) ++ bcs (chunk n (W.drop 128)) by simp [bcs], chunk_bcs n _ (by rw [List.length_drop]; omega)]
    unfold u64s
    rw [← List.map_append, List.take_append_drop]
theorem chunk_ok : ∀ n (W : List Nat), W.length = 128 * n → (∀ x ∈ W, x < 18446744073709551616) → ∀ b ∈ chunk n W, okb b
  | 0, _, _, _ => fun b hb => absurd hb (by simp [chunk])
  | n + 1, W, h, ho => fun b hb => by
    rw [chunk, List.mem_cons] at hb
    rcases hb with rfl | hb
    · exact ⟨by rw [List.length_take]; omega, fun x hx => ho x (List.mem_of_mem_take hx)⟩
    · exact chunk_ok n _ (by rw [List.length_drop]; omega) (fun x hx => ho x (List.mem_of_mem_drop hx)) b hb
theorem St.live (h : St w s p a g n r X) : ∃ l, l.length = n ∧ LiveAt w p a g l := by
  obtain ⟨W, h1, hW, h2⟩ := h.mem
  have ho : ∀ x ∈ W, x < 18446744073709551616 := fun x hx => by
    obtain ⟨i, hi, rfl⟩ := List.getElem_of_mem hx
    have := h2.ok i
    rwa [List.getD_eq_getElem?_getD, List.getElem?_eq_getElem hi, Option.getD_some] at this
  refine ⟨chunk n W, chunk_length n W, ?_, ?_, chunk_ok n W h1 ho⟩
  · rw [chunk_length]; exact h.pce
  · unfold BlkAt
    rw [chunk_bcs n W h1]
    exact hW

/-- a word of a row by way of its block -/
theorem spot_b (q : Nat) : q / 256 * 128 + q % 256 / 2 = q / 2 ∧ q % 256 % 2 = q % 2 := by omega
theorem St.word (h : St w s p a g n r X) {k i q : Nat} (hk : k < X.length) (hi : i < 32 * r) (hq : k * (32 * r) + i = q) :
    Calls Tryz.prog 72 #[.pointer (some ⟨g, q / 256 * 128, none⟩), .int .i64 ((q % 256 : Nat) : Int)] w fun e w' => e = .returned (.int .u32 (((X.getD k []).getD i 0 : Nat) : Int)) ∧ ∃ q, w' = w.drewN q := by
  have hs := h.spot hk hi
  obtain ⟨W, h1, hW, h2⟩ := h.mem
  have C := halfo_any (o := q / 256 * 128) hW h2.ok (q % 256) (Nat.mod_lt _ (by decide)) (by omega)
  rw [(spot_b q).1, (spot_b q).2] at C
  subst hq
  rw [h2.at_ k i hk hi] at C
  exact C
theorem St.setWord (h : St w s p a g n r X) {k i q : Nat} (hk : k < X.length) (hi : i < 32 * r) (hq : k * (32 * r) + i = q) (x : Nat) (hx : x < 4294967296) :
    Calls Tryz.prog 74 #[.pointer (some ⟨g, q / 256 * 128, none⟩), .int .i64 ((q % 256 : Nat) : Int), .int .u32 (x : Int)] w fun e w' => e = .returned (.bool true) ∧ St w' s p a g n r (X.set k ((X.getD k []).set i x)) ∧ Kept (fun b => b = g) w w' := by
  have hs := h.spot hk hi
  obtain ⟨n1, n2, _⟩ := h.apart
  obtain ⟨W, h1, hW, h2⟩ := h.mem
  have C := seto_any (o := q / 256 * 128) hW h2.ok (q % 256) (Nat.mod_lt _ (by decide)) (by omega) x hx
  rw [(spot_b q).1, (spot_b q).2] at C
  subst hq
  refine C.mono ?_
  rintro e w' ⟨rfl, R, K⟩
  exact ⟨rfl, ⟨RowAt.kept h.row K n1, RowAt.kept h.pce K n2, ⟨_, by rw [List.length_set]; exact h1, R, h2.set hk hi hx⟩, by rw [List.length_set]; exact h.len, h.r1, h.r2, h.n1⟩, K⟩
theorem St.half (h : St w s p a g n r X) {k i q : Nat} (hk : k < X.length) (hi : i < 32 * r) (hq : k * (32 * r) + i = q) :
    Calls Tryz.prog 73 #[.pointer (some ⟨s, 0, none⟩), .int .i64 (k : Int), .int .i64 (i : Int)] w fun e w' => e = .returned (.tuple #[.pointer (some ⟨g, q / 256 * 128, none⟩), .int .i64 ((q % 256 : Nat) : Int)]) ∧ w' = w :=
  shalf_any h.row h.pce h.r2 k i q hq (by have := h.spot hk hi; omega) h.n1
end
end Go.Proofs.YtlifpplhinmajaaGreatDoor

namespace Go.Proofs.YtlifpplhinmajaaGreatDoor
set_option maxRecDepth 50000
open Go.RowKit Bb Sl Sf Rm

section
variable {w w' : World} {s p a g n r : Nat} {M : Nat → Prop} {X : List (List Nat)}
/-- a row while it is read -/
structure Rd (w wr : World) (G : Nat) (z l : List Nat) (i : Nat) : Prop where
  row : RowAt wr G 36 (wd (wrt z l i))
  below : Below w.heap.size w wr
  at_ : w.heap.size ≤ G
theorem Rd.next {wr : World} {G i : Nat} {z l : List Nat} (h : Rd w wr G z l i) : Rd w (wr.setCell ⟨G, i, none⟩ (.int .u32 ((l.getD i 0 : Nat) : Int))) G z l (i + 1) :=
  ⟨by rw [wrt, ← wd_set]; exact h.row.setCell i _, h.below.setCell h.at_ _, h.at_⟩
theorem Rd.drewN {wr : World} {G i : Nat} {z l : List Nat} (h : Rd w wr G z l i) (q : Nat) : Rd w (wr.drewN q) G z l i := ⟨h.row, below_drewN h.below q, h.at_⟩

set_option maxHeartbeats 1600000 in
theorem read_any (hS : St w s p a g n r X) (k : Nat) (hk : k < X.length) : Calls Tryz.prog 46 #[.pointer (some ⟨s, 0, none⟩), .int .i64 (k : Int)] w fun e w' => ∃ G, e = .returned (.slice (some ⟨G, 0, none⟩) (32 * r) (32 * r)) ∧ RowAt w' G 36 (wd (X.getD k [])) ∧ w.heap.size ≤ G ∧ Below w.heap.size w w' := by
  obtain ⟨i0, hi0, hz0, hz1, hz2⟩ := info_parts u32_info
  have HW := Lib.hid (words_any hS.row hS.r2)
  have HL := Lib.hid ((hS.rok k hk).1)
  have HO := Lib.hid ((hS.rok k hk).2)
  have HH := Lib.hid fun (wr : World) (hb : Below w.heap.size w wr) (i : Nat) (hi : i < 32 * r) => (hS.step hb).half hk hi rfl
  have HV := Lib.hid fun (wr : World) (hb : Below w.heap.size w wr) (i : Nat) (hi : i < 32 * r) => (hS.step hb).word hk hi rfl
  obtain ⟨hm1, hm2⟩ := hS.m1
  generalize X.getD k [] = l at *
  obtain ⟨m, hm⟩ : ∃ m, 32 * r = m := ⟨_, rfl⟩
  rw [hm] at HW HL HH HV hm1 hm2 ⊢
  clear hS hk hm
  have HE : Hid (wrt (List.replicate m 0) l m = l) := Lib.hid (by
    have h := HL.out
    rw [← h]
    exact wrt_all _ _ (by simp))
  go_enter Tryz.func46, Tryz.ntmps46
  go_wp2_with fail
  refine HW.out.mono ?_; rintro e w' ⟨rfl, hw⟩; obtain rfl := hw.symm; clear hw
  go_wp2_with (at_make; refine wpList_make_full _ rfl _ _ 63 rfl w.heap.size 36 i0 (.int .u32 0) 1 Tryz.underlying63 hi0 hz0 hz1 _ _ _ _ m rfl rfl ?c0 ?c00 ?c1 ?c2 ?c3 ?_)
  case c0 => rfl
  case c00 => rfl
  case c1 => rw [hz2]; omega
  case c2 => unfold maxLen; omega
  case c3 => exact Nat.le_refl _
  intro w2 hown hgr
  have e0 : (madeCells #[.int .u32 0] m).toList = u32s (wrt (List.replicate m 0) l 0) := by
    rw [toList_madeCells_one, wrt]; unfold u32s; rw [List.map_replicate]; rfl
  rw [e0] at hown
  have HX : Hid (Rd w w2 w.heap.size (List.replicate m 0) l 0) := Lib.hid ⟨own_rowAt hown, (Below.refl w.heap.size _).grown hgr (Nat.le_refl _) (by simp), Nat.le_refl _⟩
  clear hown hgr e0 HW
  obtain ⟨G, hG⟩ : ∃ G, G = w.heap.size := ⟨_, rfl⟩
  rw [← hG] at HX ⊢
  have HG := Lib.hid hG
  clear hG
  go_wp2
  go_loopw [6, 12] (fun _ v12 wr => ∃ i : Nat, i ≤ m ∧ v12 = .int .i64 (i : Int) ∧ Rd w wr G (List.replicate m 0) l i) (fun _ v12 _ => m - (intOf v12).toNat)
  case atStart => exact ⟨0, by omega, rfl, HX.out⟩
  case round =>
    clear HX
    obtain ⟨i, hi, rfl, Y⟩ := hrel
    have HX := Lib.hid Y
    clear Y
    by_cases h : i < m
    · have hd : decide ((i : Int) < (m : Int)) = true := by simp; omega
      have CH := Lib.hid (HH.out wr HX.out.below i h)
      have CV := Lib.hid (HV.out wr HX.out.below i h)
      have hp0 : (0 : Int) ≤ (i : Int) := by omega
      have hp1 : (i : Int) < (m : Int) := by omega
      have hwi : IntKind.i64.wrap ((i : Int) + 1) = ((i + 1 : Nat) : Int) := by rw [IntKind.wrap_i64]; omega
      go_wp2_with fail
      refine CH.out.mono ?_; rintro e w' ⟨rfl, hw⟩; obtain rfl := hw.symm; clear hw CH
      go_wp2_with fail
      refine CV.out.mono ?_; rintro e w' ⟨rfl, q, rfl⟩
      clear CV
      have HD := Lib.hid (HX.out.drewN q)
      generalize wr.drewN q = w3 at *
      have fk : w3.frozen? ⟨G, i, none⟩ = false := HD.out.row.frozen i
      have ck : w3.cell? ⟨G, i, none⟩ = some (.int .u32 (((wrt (List.replicate m 0) l i).getD i 0 : Nat) : Int)) := (HD.out.row.cell i).trans (wd_at _ i (by rw [wrt_length]; simpa using h))
      have HN := Lib.hid HD.out.next
      generalize l.getD i 0 = x at *
      generalize (wrt (List.replicate m 0) l i).getD i 0 = y at *
      clear HX
      go_wp2
      go_roundw
      case rel => exact ⟨i + 1, by omega, by go_num, HN.out⟩
      case measure => simp [intOf]; omega
    · obtain rfl : i = m := by omega
      have hd : decide ((i : Int) < (i : Int)) = false := by simp
      go_wp2
      go_ret
      have Y := HX.out
      have R := Y.row
      rw [HE.out] at R
      exact ⟨G, rfl, R, Y.at_, Y.below⟩

/-- a row while it is written -/
structure Wr (w wr : World) (s p a g n r : Nat) (X : List (List Nat)) (k : Nat) (y l : List Nat) (i : Nat) : Prop where
  st : St wr s p a g n r (X.set k (wrt y l i))
  kept : Kept (fun b => b = g) w wr

set_option maxHeartbeats 1600000 in
theorem write_any (hS : St w s p a g n r X) (k : Nat) (hk : k < X.length) (b o c : Nat) (l : List Nat) (hl : l.length = 32 * r) (ho : okw l) (hbg : b ≠ g) (hbw : b < w.heap.size) (hc : ∀ i, i < 32 * r → w.cell? ⟨b, o + i, none⟩ = some (.int .u32 (l.getD i 0 : Nat))) :
    Calls Tryz.prog 47 #[.pointer (some ⟨s, 0, none⟩), .int .i64 (k : Int), .slice (some ⟨b, o, none⟩) (32 * r) c] w fun e w' => e = .returned (.tuple #[]) ∧ St w' s p a g n r (X.set k l) ∧ Kept (fun b => b = g) w w' := by
  have HY := Lib.hid (hS.rok k hk).1
  have HX : Hid (Wr w w s p a g n r X k (X.getD k []) l 0) := Lib.hid ⟨by
    rw [wrt, List.getD_eq_getElem?_getD, List.getElem?_eq_getElem hk, Option.getD_some, List.set_getElem_self]; exact hS, Kept.refl _ w⟩
  have HH := Lib.hid fun (wr : World) (i : Nat) (hi : i < 32 * r) (h : Wr w wr s p a g n r X k (X.getD k []) l i) => h.st.half (k := k) (by rw [List.length_set]; exact hk) hi rfl
  have HV : Hid (∀ (wr : World) (i : Nat), i < 32 * r → Wr w wr s p a g n r X k (X.getD k []) l i → Calls Tryz.prog 74 #[.pointer (some ⟨g, (k * (32 * r) + i) / 256 * 128, none⟩), .int .i64 (((k * (32 * r) + i) % 256 : Nat) : Int), .int .u32 ((l.getD i 0 : Nat) : Int)] wr fun e w' => e = .returned (.bool true) ∧ Wr w w' s p a g n r X k (X.getD k []) l (i + 1)) := Lib.hid fun wr i hi h => by
    refine (h.st.setWord (k := k) (by rw [List.length_set]; exact hk) hi rfl (l.getD i 0) (ho.at_ i)).mono ?_
    rintro e w' ⟨rfl, S, K⟩
    refine ⟨rfl, ?_, h.kept.trans K fun x _ hx => hx⟩
    rw [setl_at _ _ _ _ _ hk, if_pos rfl, List.set_set] at S
    exact S
  have HE : Hid (wrt (X.getD k []) l (32 * r) = l) := Lib.hid (by rw [← hl]; exact wrt_all _ _ (by rw [HY.out, hl]))
  have HC := Lib.hid fun (wr : World) (hK : Kept (fun b => b = g) w wr) (i : Nat) (hi : i < 32 * r) => (World.cell?_of_block (w := w) (a := ⟨b, o + i, none⟩) (hK.block b hbw hbg)).trans (hc i hi)
  obtain ⟨hm1, hm2⟩ := hS.m1
  generalize X.getD k [] = y at *
  obtain ⟨m, hm⟩ : ∃ m, 32 * r = m := ⟨_, rfl⟩
  rw [hm] at HE HH HV HC hm1 hm2 ⊢
  clear hS hk hm hl ho hbg hbw hc HY
  go_enter Tryz.func47, Tryz.ntmps47
  go_wp2
  go_loopw [6, 7, 8, 9, 12] (fun _ _ _ _ v12 wr => ∃ i : Nat, i ≤ m ∧ v12 = .int .i64 (i : Int) ∧ Wr w wr s p a g n r X k y l i) (fun _ _ _ _ v12 _ => m - (intOf v12).toNat)
  case atStart => exact ⟨0, by omega, rfl, HX.out⟩
  case round =>
    clear HX
    obtain ⟨i, hi, rfl, Y⟩ := hrel
    have HX := Lib.hid Y
    clear Y
    by_cases h : i < m
    · have hd : decide ((i : Int) < (m : Int)) = true := by simp; omega
      have CH := Lib.hid (HH.out wr i h HX.out)
      have CV := Lib.hid (HV.out wr i h HX.out)
      have ci := HC.out wr HX.out.kept i h
      have hp0 : (0 : Int) ≤ (i : Int) := by omega
      have hp1 : (i : Int) < (m : Int) := by omega
      have hwi : IntKind.i64.wrap ((i : Int) + 1) = ((i + 1 : Nat) : Int) := by rw [IntKind.wrap_i64]; omega
      generalize l.getD i 0 = x at *
      clear HX
      go_wp2_with fail
      refine CH.out.mono ?_; rintro e w' ⟨rfl, hw⟩; obtain rfl := hw.symm; clear hw CH
      go_wp2_with fail
      refine CV.out.mono ?_; rintro e w3 ⟨rfl, HN⟩
      have HN := Lib.hid HN
      clear CV
      go_wp2
      go_roundw
      case rel => exact ⟨i + 1, by omega, by go_num, HN.out⟩
      case measure => simp [intOf]; omega
    · obtain rfl : i = m := by omega
      have hd : decide ((i : Int) < (i : Int)) = false := by simp
      have Y := HX.out
      have S := Y.st
      rw [HE.out] at S
      have HS := Lib.hid (And.intro S Y.kept)
      clear S Y HX
      go_wp2
      simp [bodyPost, results, Tryz.results47, go_sem]
      exact HS.out
end
end Go.Proofs.YtlifpplhinmajaaGreatDoor
