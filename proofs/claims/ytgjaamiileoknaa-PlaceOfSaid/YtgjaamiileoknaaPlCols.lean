/- The document's Columns by its contract. Conditions: those typed. -/
import Derived.Test.YtgjaamiileoknaaPlRight
import Derived.LoopTactic
import Derived.OwnWalk
namespace Go.Proofs.Ytgjaamiileoknaa
set_option maxRecDepth 50000
open Go.RowKit

def nts (l : List Nat) : List Value := l.map fun x : Nat => .int .i64 (x : Int)
theorem nts_length (l : List Nat) : (nts l).length = l.length := by simp [nts]
theorem nts_at (l : List Nat) (k : Nat) (h : k < (nts l).length) : (nts l)[k] = .int .i64 ((l[k]'(by simpa [nts] using h) : Nat) : Int) := by simp [nts]
theorem nts_append (a b : List Nat) : nts (a ++ b) = nts a ++ nts b := by simp [nts]
/-- the first n of a row of numbers -/
def fst (F : Nat → Nat) (n : Nat) : List Nat := (List.range n).map F
theorem fst_next (F : Nat → Nat) (n : Nat) : fst F (n + 1) = fst F n ++ [F n] := by simp [fst, List.range_succ]
theorem fst_length (F : Nat → Nat) (n : Nat) : (fst F n).length = n := by simp [fst]
theorem pl_int_info : (Try.prog.info? 3).map (fun i => (i.zero, i.size, i.bytes)) = some (some (.int .i64 0), 1, 8) := by kernel_rfl
theorem pl_one_new (w : World) (u : Value) (t : TypeId) : ∀ j v, [u][j]? = some v → (w.alloc (.cells #[u] t)).cell? ((⟨w.heap.size, 0, none⟩ : Addr).add j) = some v := by
  intro j v hj
  match j, hj with
  | 0, hj => simp at hj; subst hj; simp [Addr.add]
theorem pl_one_cell (u : Value) (h : u.oneCell' = true) : ∀ v ∈ [u], v.oneCell' = true := by
  intro v hv; simp at hv; subst hv; exact h
/-- a row of one's own with one number more -/
theorem grown_one {N : Nat} {w wr w2 : World} {v v' : Value} {l : List Nat} {x n n' : Nat} {o : Obj} (hN : N ≤ wr.heap.size) (hb : Below N w wr) (hown : wr.ownsRow N 3 1 v n (nts l)) (hown2 : w2.ownsRow N 3 1 v' n' (nts l ++ [.int .i64 (x : Int)])) (hg : (wr.alloc o).grownBy w2 v.ownBlock) :
    w2.ownsRow N 3 1 v' n' (nts (l ++ [x])) ∧ Below N w w2 := by
  refine ⟨?_, (hb.alloc hN o).grown hg (by simp; omega) fun k hk => (hown.lt k hk).1⟩
  rw [nts_append]
  exact hown2
theorem own_cap {w : World} {N : Nat} {A : Option Addr} {n c : Nat} {e : TypeId} {xs : List Value} (h : w.ownsRow N e 1 (.slice A n c) n xs) : n ≤ c := by
  rcases h.2 with ⟨e, h0⟩ | ⟨g, cap, cur, e, _, _, h1, _⟩
  · cases e; omega
  · cases e; exact h1
theorem own_none (w : World) (N : Nat) : w.ownsRow N 3 1 (.slice none 0 0) 0 (nts []) := ⟨rfl, .inl ⟨rfl, rfl⟩⟩
theorem Reads.take {w : World} {B : Nat} {A : Option Addr} {l : List Nat} (h : Reads w B A (nts l)) (n : Nat) : Reads w B A (nts (l.take n)) := fun k hk => by
  rw [nts_length, List.length_take] at hk
  obtain ⟨b, off, e, hb, hc⟩ := h k (by rw [nts_length]; omega)
  refine ⟨b, off, e, hb, ?_⟩
  rw [hc, nts_at, nts_at, List.getElem_take]

theorem sp_cells' {w : World} {k : Nat} {a t l m b c g z : Nat} (h : RowAt w k 33 (spc a t l m b c g z)) :
    w.cell? ⟨k, 0, none⟩ = some (.int .i64 (a : Int)) ∧ w.cell? ⟨k, 1, none⟩ = some (.int .i64 (t : Int)) ∧ w.cell? ⟨k, 2, none⟩ = some (.int .i64 (l : Int)) ∧ w.cell? ⟨k, 3, none⟩ = some (.int .i64 (m : Int)) ∧ w.cell? ⟨k, 4, none⟩ = some (.int .i64 (b : Int)) ∧ w.cell? ⟨k, 5, none⟩ = some (.int .i64 (c : Int)) ∧ w.cell? ⟨k, 6, none⟩ = some (.int .i64 (g : Int)) ∧ w.cell? ⟨k, 7, none⟩ = some (.int .i64 (z : Int)) :=
  ⟨(h.cell 0).trans rfl, (h.cell 1).trans rfl, (h.cell 2).trans rfl, (h.cell 3).trans rfl, (h.cell 4).trans rfl, (h.cell 5).trans rfl, (h.cell 6).trans rfl, (h.cell 7).trans rfl⟩

/-- the columns but for the segment -/
def baF (c g p s x : Nat) : Nat := if p = 0 then x else (s * g + g + x) % c
def alL (c g p s i : Nat) (own : Bool) : List Nat := fst (baF c g p s) (bsN c g p s) ++ (if own then fst (fun x => s * g + x) i else [])
def coL (c g p s i : Nat) (own : Bool) : List Nat := if own = true ∨ i = 0 then (alL c g p s i own).take ((alL c g p s i own).length - 1) else alL c g p s i own

set_option maxHeartbeats 6400000 in
theorem columns_any (a t l m b c g z p s i : Nat) (own : Bool) (hg : g ≤ c) (hc1 : 1 ≤ c) (hc : c ≤ 400) (hs : s ≤ 3) (hi : i ≤ 400) (hne : own = true ∨ i = 0 → 1 ≤ (alL c g p s i own).length) (w : World) :
    Calls Try.prog 11 #[spv a t l m b c g z, .int .i64 (p : Int), .int .i64 (s : Int), .int .i64 (i : Int), .bool own] w fun e w' =>
      ∃ A cp, e = .returned (.slice A (coL c g p s i own).length cp) ∧ Reads w' w'.heap.size A (nts (coL c g p s i own)) ∧ Below w.heap.size w w' := by
  obtain ⟨x, hx⟩ : ∃ x, s * g = x := ⟨_, rfl⟩
  have hxb : x ≤ 1200 := by
    rw [← hx]
    have := Nat.mul_le_mul hs (show g ≤ 400 by omega)
    omega
  have e1 : (s : Int) * (g : Int) = (x : Int) := by rw [← hx]; exact (Int.natCast_mul _ _).symm
  obtain ⟨i0, hi0, hz0, hz1, hz2⟩ := info_parts pl_int_info
  have HB := Lib.hid (one_box w (.cells (spc a t l m b c g z) 33))
  have HR := Lib.hid (RowAt.new w 33 (spc a t l m b c g z))
  obtain ⟨B, hB⟩ : ∃ B, bsN c g p s = B := ⟨_, rfl⟩
  obtain ⟨L1, hL1⟩ : ∃ L1, fst (baF c g p s) B = L1 := ⟨_, rfl⟩
  have HL1 : L1.length = B := by rw [← hL1, fst_length]
  have HAL := Lib.hid (show alL c g p s i own = L1 ++ (if own then fst (fun y => x + y) i else []) by rw [alL, hB, hL1, hx])
  have HCO : Hid (coL c g p s i own = if own = true ∨ i = 0 then (alL c g p s i own).take ((alL c g p s i own).length - 1) else alL c g p s i own) := Lib.hid rfl
  have HNE := Lib.hid hne
  clear hne
  by_cases hp : p = 0
  · have hpI : ¬ (0 : Int) < (p : Int) := by omega
    have hBx : B = x := by rw [← hB, bsN, if_pos hp, hx]
    have HF : Hid (∀ y, baF c g p s y = y) := Lib.hid fun y => by rw [baF, if_pos hp]
    have HL := Lib.hid hL1
    clear hL1 hB hx
    go_enter Try.func11, Try.ntmps11
    go_wp2
    have s1 : (w.alloc (.cells (spc a t l m b c g z) 33)).heap.size = w.heap.size + 1 := World.size_alloc _ _
    generalize World.alloc w _ = w1 at *
    go_loopw [12, 14] (fun v12 v14 wr => ∃ n : Nat, n ≤ B ∧ v14 = .int .i64 (n : Int) ∧ wr.ownsRow (w.heap.size + 1) 3 1 v12 n (nts (fst (baF c g p s) n)) ∧ Below (w.heap.size + 1) w1 wr) (fun _ v14 _ => B - (intOf v14).toNat)
    case atStart => exact ⟨0, by omega, rfl, own_none _ _, Below.refl _ _⟩
    case round =>
      obtain ⟨n, hn, rfl, hown, hb⟩ := hrel
      have hsz : w.heap.size + 1 ≤ wr.heap.size := by have := hb.size; omega
      have hlt0 : w.heap.size < w1.heap.size := by omega
      obtain ⟨A, cp, rfl, -, -, -⟩ := own_form hown
      by_cases hlt : n < B
      · have hdt : decide ((n : Int) < (x : Int)) = true := by simp; omega
        have HN := fst_next (baF c g p s) n
        rw [HF.out n] at HN
        have HN := Lib.hid HN
        have hll : (fst (baF c g p s) n).length = n := fst_length _ _
        generalize fst (baF c g p s) n = M at *
        go_wp2_with (at_builtin; refine wpList_append_own _ rfl (.tmp 48) (.tmp 50) 41 rfl (w.heap.size + 1) 3 i0 (.int .i64 0) 1 8 Try.underlying41 hi0 hz0 hz1 hz2 rfl (by decide) _ _ _ rfl (hown.alloc _) ⟨wr.heap.size, 0, none⟩ 1 1 [.int .i64 (n : Int)] rfl rfl ?c1 ?c2 ?c3 ?c4 ?c5 ?_)
        case c1 => exact pl_one_new _ _ _
        case c2 => exact pl_one_cell _ rfl
        case c3 => unfold maxLen; omega
        case c4 => omega
        case c5 => rw [World.size_alloc]; omega
        intro v' w2 hown2 hg2 _
        have HG := Lib.hid (grown_one hsz hb hown hown2 hg2)
        clear hown2 hg2 hown hb
        go_wp2
        go_roundw
        case rel => exact ⟨n + 1, by omega, by go_num, by rw [HN.out]; exact HG.out.1, HG.out.2⟩
        case measure => simp [intOf]; omega
      · obtain rfl : n = B := by omega
        have hdt : decide ((n : Int) < (x : Int)) = false := by simp; omega
        rw [HL.out] at hown
        have hnb : n ≤ 1600 := by omega
        have hnx : n = x := by omega
        clear HF HL hBx hlt hdt
        subst hnx
        have hcap := own_cap hown
        cases own
        · have hal := HAL.out
          simp only [Bool.false_eq_true, if_false, List.append_nil] at hal
          by_cases h0 : i = 0
          · subst h0
            have hco := HCO.out
            rw [if_pos (.inr rfl), hal, HL1] at hco
            have hn1 := HNE.out (.inr rfl)
            rw [hal, HL1] at hn1
            have hlen : (coL c g p s 0 false).length = n - 1 := by rw [hco, List.length_take, HL1]; omega
            have HRD := Lib.hid (show Reads wr wr.heap.size A (nts (coL c g p s 0 false)) by rw [hco]; exact (Reads.of_own hown).take _)
            have HBB := Lib.hid (HB.out.trans (hb.mono (by omega)))
            clear hal hco hown hb HNE HCO HAL
            obtain ⟨n, rfl⟩ : ∃ k, n = k + 1 := ⟨n - 1, by omega⟩
            rw [Nat.add_sub_cancel] at hlen
            have HLN := Lib.hid hlen
            clear hlen
            go_wp2
            go_ret
            exact ⟨A, cp, by rw [HLN.out]; rfl, HRD.out, HBB.out⟩
          · have hco := HCO.out
            rw [if_neg (by simp; exact h0), hal] at hco
            have HRD := Lib.hid (show Reads wr wr.heap.size A (nts (coL c g p s i false)) by rw [hco]; exact Reads.of_own hown)
            have hlen : (coL c g p s i false).length = n := by rw [hco, HL1]
            have HBB := Lib.hid (HB.out.trans (hb.mono (by omega)))
            clear hal hco hown hb HNE HCO HAL
            have HLN := Lib.hid hlen
            clear hlen
            go_wp2
            go_ret
            exact ⟨A, cp, by rw [HLN.out]; rfl, HRD.out, HBB.out⟩
        · have hal := HAL.out
          simp only [if_true] at hal
          have HS := Lib.hid hown
          clear hown
          go_wp2
          obtain ⟨wq, hwq⟩ : ∃ wq, wq = wr := ⟨_, rfl⟩
          go_loopw [12, 15] (fun v12 v15 wr => ∃ u : Nat, u ≤ i ∧ v15 = .int .i64 (u : Int) ∧ wr.ownsRow (w.heap.size + 1) 3 1 v12 (n + u) (nts (L1 ++ fst (fun y => n + y) u)) ∧ Below (w.heap.size + 1) w1 wr) (fun _ v15 _ => i - (intOf v15).toNat)
          case atStart => exact ⟨0, by omega, rfl, by rw [show L1 ++ fst (fun y => n + y) 0 = L1 from List.append_nil _]; exact HS.out, hb⟩
          case round =>
            clear hb hsz hcap HS hwq
            obtain ⟨u, hu, rfl, hown, hb⟩ := hrel
            have hsz : w.heap.size + 1 ≤ wr.heap.size := by have := hb.size; omega
            obtain ⟨A, cp, rfl, -, -, -⟩ := own_form hown
            by_cases hlt : u < i
            · have hdt : decide ((u : Int) < (i : Int)) = true := by simp; omega
              have HN := fst_next (fun y => n + y) u
              have HN : Hid (L1 ++ fst (fun y => n + y) (u + 1) = L1 ++ fst (fun y => n + y) u ++ [n + u]) := Lib.hid (by rw [HN, List.append_assoc])
              have hll : (L1 ++ fst (fun y => n + y) u).length = n + u := by rw [List.length_append, HL1, fst_length]
              obtain ⟨y, hy⟩ : ∃ y, n + u = y := ⟨_, rfl⟩
              rw [hy] at HN
              have e5 : (n : Int) + (u : Int) = (y : Int) := by omega
              have hyb : y ≤ 2000 := by omega
              clear hy
              generalize L1 ++ fst (fun y => n + y) u = M at *
              go_wp2_with (at_builtin; refine wpList_append_own _ rfl (.tmp 58) (.tmp 62) 41 rfl (w.heap.size + 1) 3 i0 (.int .i64 0) 1 8 Try.underlying41 hi0 hz0 hz1 hz2 rfl (by decide) _ _ _ rfl (hown.alloc _) ⟨wr.heap.size, 0, none⟩ 1 1 [.int .i64 (y : Int)] rfl rfl ?c1 ?c2 ?c3 ?c4 ?c5 ?_)
              case c1 => exact pl_one_new _ _ _
              case c2 => exact pl_one_cell _ rfl
              case c3 => unfold maxLen; omega
              case c4 => omega
              case c5 => rw [World.size_alloc]; omega
              intro v' w2 hown2 hg2 _
              have HG := Lib.hid (grown_one hsz hb hown hown2 hg2)
              clear hown2 hg2 hown hb
              go_wp2
              go_roundw
              case rel => exact ⟨u + 1, by omega, by go_num, by rw [HN.out]; exact HG.out.1, HG.out.2⟩
              case measure => simp [intOf]; omega
            · obtain rfl : u = i := by omega
              have hdt : decide ((u : Int) < (u : Int)) = false := by simp
              have hcap := own_cap hown
              have hll : (L1 ++ fst (fun y => n + y) u).length = n + u := by rw [List.length_append, HL1, fst_length]
              have hco := HCO.out
              rw [if_pos (by simp), hal, hll] at hco
              have hn1 := HNE.out (by simp)
              rw [hal, hll] at hn1
              have hlen : (coL c g p s u true).length = n + u - 1 := by rw [hco, List.length_take, hll]; omega
              have HRD := Lib.hid (show Reads wr wr.heap.size A (nts (coL c g p s u true)) by rw [hco]; exact (Reads.of_own hown).take _)
              have HBB := Lib.hid (HB.out.trans (hb.mono (by omega)))
              clear hal hco hown hb HNE HCO HAL hll
              obtain ⟨v, hv⟩ : ∃ v, n + u = v + 1 := ⟨n + u - 1, by omega⟩
              rw [hv] at hlen hcap ⊢
              rw [Nat.add_sub_cancel] at hlen
              have HLN := Lib.hid hlen
              clear hlen
              have hvb : v ≤ 4000 := by omega
              clear hv hn1
              go_wp2
              go_ret
              exact ⟨A, cp, by rw [HLN.out]; rfl, HRD.out, HBB.out⟩
  · have hpI : decide ((0 : Int) < (p : Int)) = true := by simp; omega
    have hpN : decide (0 < p) = true := by simp; omega
    have hBc : B + g = c := by rw [← hB, bsN, if_neg hp]; omega
    have e2 : (c : Int) - (g : Int) = (B : Int) := by omega
    have HF : Hid (∀ y, baF c g p s y = (x + g + y) % c) := Lib.hid fun y => by rw [baF, if_neg hp, hx]
    have HL := Lib.hid hL1
    clear hL1 hB hx
    go_enter Try.func11, Try.ntmps11
    go_wp2
    have s1 : (w.alloc (.cells (spc a t l m b c g z) 33)).heap.size = w.heap.size + 1 := World.size_alloc _ _
    generalize World.alloc w _ = w1 at *
    go_loopw [12, 13] (fun v12 v13 wr => ∃ n : Nat, n ≤ B ∧ v13 = .int .i64 (n : Int) ∧ wr.ownsRow (w.heap.size + 1) 3 1 v12 n (nts (fst (baF c g p s) n)) ∧ Below (w.heap.size + 1) w1 wr) (fun _ v13 _ => B - (intOf v13).toNat)
    case atStart => exact ⟨0, by omega, rfl, own_none _ _, Below.refl _ _⟩
    case round =>
      obtain ⟨n, hn, rfl, hown, hb⟩ := hrel
      have hsz : w.heap.size + 1 ≤ wr.heap.size := by have := hb.size; omega
      have hlt0 : w.heap.size < w1.heap.size := by omega
      obtain ⟨-, -, -, -, -, k5, k6, -⟩ := sp_cells' (HR.out.below hb (by omega))
      obtain ⟨A, cp, rfl, -, -, -⟩ := own_form hown
      by_cases hlt : n < B
      · have hdt : decide ((n : Int) < (B : Int)) = true := by simp; omega
        have HN := fst_next (baF c g p s) n
        rw [HF.out n] at HN
        obtain ⟨y, hy⟩ : ∃ y, (x + g + n) % c = y := ⟨_, rfl⟩
        rw [hy] at HN
        have HN := Lib.hid HN
        have hyc : y < c := by rw [← hy]; exact Nat.mod_lt _ (by omega)
        have c0 : ¬ c = 0 := by omega
        have e3 : ((x : Int) + (g : Int) + (n : Int)) % (c : Int) = (y : Int) := by rw [← hy]; rfl
        have e4 : Int.tmod ((x : Int) + (g : Int) + (n : Int)) (c : Int) = (y : Int) := by rw [Int.tmod_eq_emod_of_nonneg (by omega)]; exact e3
        have hll : (fst (baF c g p s) n).length = n := fst_length _ _
        clear hy
        generalize fst (baF c g p s) n = M at *
        go_wp2_with (at_builtin; refine wpList_append_own _ rfl (.tmp 31) (.tmp 41) 41 rfl (w.heap.size + 1) 3 i0 (.int .i64 0) 1 8 Try.underlying41 hi0 hz0 hz1 hz2 rfl (by decide) _ _ _ rfl (hown.alloc _) ⟨wr.heap.size, 0, none⟩ 1 1 [.int .i64 (y : Int)] rfl rfl ?c1 ?c2 ?c3 ?c4 ?c5 ?_)
        case c1 => exact pl_one_new _ _ _
        case c2 => exact pl_one_cell _ rfl
        case c3 => unfold maxLen; omega
        case c4 => omega
        case c5 => rw [World.size_alloc]; omega
        intro v' w2 hown2 hg2 _
        have HG := Lib.hid (grown_one hsz hb hown hown2 hg2)
        clear hown2 hg2 hown hb
        go_wp2
        go_roundw
        case rel => exact ⟨n + 1, by omega, by go_num, by rw [HN.out]; exact HG.out.1, HG.out.2⟩
        case measure => simp [intOf]; omega
      · obtain rfl : n = B := by omega
        have hdt : decide ((n : Int) < (n : Int)) = false := by simp
        rw [HL.out] at hown
        have hnb : n ≤ 1600 := by omega
        clear HF HL hBc hlt
        have hcap := own_cap hown
        cases own
        · have hal := HAL.out
          simp only [Bool.false_eq_true, if_false, List.append_nil] at hal
          by_cases h0 : i = 0
          · subst h0
            have hco := HCO.out
            rw [if_pos (.inr rfl), hal, HL1] at hco
            have hn1 := HNE.out (.inr rfl)
            rw [hal, HL1] at hn1
            have hlen : (coL c g p s 0 false).length = n - 1 := by rw [hco, List.length_take, HL1]; omega
            have HRD := Lib.hid (show Reads wr wr.heap.size A (nts (coL c g p s 0 false)) by rw [hco]; exact (Reads.of_own hown).take _)
            have HBB := Lib.hid (HB.out.trans (hb.mono (by omega)))
            clear hal hco hown hb HNE HCO HAL
            obtain ⟨n, rfl⟩ : ∃ k, n = k + 1 := ⟨n - 1, by omega⟩
            rw [Nat.add_sub_cancel] at hlen
            have HLN := Lib.hid hlen
            clear hlen
            go_wp2
            go_ret
            exact ⟨A, cp, by rw [HLN.out]; rfl, HRD.out, HBB.out⟩
          · have hco := HCO.out
            rw [if_neg (by simp; exact h0), hal] at hco
            have HRD := Lib.hid (show Reads wr wr.heap.size A (nts (coL c g p s i false)) by rw [hco]; exact Reads.of_own hown)
            have hlen : (coL c g p s i false).length = n := by rw [hco, HL1]
            have HBB := Lib.hid (HB.out.trans (hb.mono (by omega)))
            clear hal hco hown hb HNE HCO HAL
            have HLN := Lib.hid hlen
            clear hlen
            go_wp2
            go_ret
            exact ⟨A, cp, by rw [HLN.out]; rfl, HRD.out, HBB.out⟩
        · have hal := HAL.out
          simp only [if_true] at hal
          have HS := Lib.hid hown
          clear hown
          go_wp2
          obtain ⟨wq, hwq⟩ : ∃ wq, wq = wr := ⟨_, rfl⟩
          go_loopw [12, 15] (fun v12 v15 wr => ∃ u : Nat, u ≤ i ∧ v15 = .int .i64 (u : Int) ∧ wr.ownsRow (w.heap.size + 1) 3 1 v12 (n + u) (nts (L1 ++ fst (fun y => x + y) u)) ∧ Below (w.heap.size + 1) w1 wr) (fun _ v15 _ => i - (intOf v15).toNat)
          case atStart => exact ⟨0, by omega, rfl, by rw [show L1 ++ fst (fun y => x + y) 0 = L1 from List.append_nil _]; exact HS.out, hb⟩
          case round =>
            clear hb hsz hcap HS hwq
            obtain ⟨u, hu, rfl, hown, hb⟩ := hrel
            have hsz : w.heap.size + 1 ≤ wr.heap.size := by have := hb.size; omega
            obtain ⟨A, cp, rfl, -, -, -⟩ := own_form hown
            by_cases hlt : u < i
            · have hdt : decide ((u : Int) < (i : Int)) = true := by simp; omega
              have HN := fst_next (fun y => x + y) u
              have HN : Hid (L1 ++ fst (fun y => x + y) (u + 1) = L1 ++ fst (fun y => x + y) u ++ [x + u]) := Lib.hid (by rw [HN, List.append_assoc])
              have hll : (L1 ++ fst (fun y => x + y) u).length = n + u := by rw [List.length_append, HL1, fst_length]
              obtain ⟨y, hy⟩ : ∃ y, x + u = y := ⟨_, rfl⟩
              rw [hy] at HN
              have e5 : (x : Int) + (u : Int) = (y : Int) := by omega
              have hyb : y ≤ 2000 := by omega
              clear hy
              generalize L1 ++ fst (fun y => x + y) u = M at *
              go_wp2_with (at_builtin; refine wpList_append_own _ rfl (.tmp 58) (.tmp 62) 41 rfl (w.heap.size + 1) 3 i0 (.int .i64 0) 1 8 Try.underlying41 hi0 hz0 hz1 hz2 rfl (by decide) _ _ _ rfl (hown.alloc _) ⟨wr.heap.size, 0, none⟩ 1 1 [.int .i64 (y : Int)] rfl rfl ?c1 ?c2 ?c3 ?c4 ?c5 ?_)
              case c1 => exact pl_one_new _ _ _
              case c2 => exact pl_one_cell _ rfl
              case c3 => unfold maxLen; omega
              case c4 => omega
              case c5 => rw [World.size_alloc]; omega
              intro v' w2 hown2 hg2 _
              have HG := Lib.hid (grown_one hsz hb hown hown2 hg2)
              clear hown2 hg2 hown hb
              go_wp2
              go_roundw
              case rel => exact ⟨u + 1, by omega, by go_num, by rw [HN.out]; exact HG.out.1, HG.out.2⟩
              case measure => simp [intOf]; omega
            · obtain rfl : u = i := by omega
              have hdt : decide ((u : Int) < (u : Int)) = false := by simp
              have hcap := own_cap hown
              have hll : (L1 ++ fst (fun y => x + y) u).length = n + u := by rw [List.length_append, HL1, fst_length]
              have hco := HCO.out
              rw [if_pos (by simp), hal, hll] at hco
              have hn1 := HNE.out (by simp)
              rw [hal, hll] at hn1
              have hlen : (coL c g p s u true).length = n + u - 1 := by rw [hco, List.length_take, hll]; omega
              have HRD := Lib.hid (show Reads wr wr.heap.size A (nts (coL c g p s u true)) by rw [hco]; exact (Reads.of_own hown).take _)
              have HBB := Lib.hid (HB.out.trans (hb.mono (by omega)))
              clear hal hco hown hb HNE HCO HAL hll
              obtain ⟨v, hv⟩ : ∃ v, n + u = v + 1 := ⟨n + u - 1, by omega⟩
              rw [hv] at hlen hcap ⊢
              rw [Nat.add_sub_cancel] at hlen
              have HLN := Lib.hid hlen
              clear hlen
              have hvb : v ≤ 4000 := by omega
              clear hv hn1
              go_wp2
              go_ret
              exact ⟨A, cp, by rw [HLN.out]; rfl, HRD.out, HBB.out⟩
end Go.Proofs.Ytgjaamiileoknaa
