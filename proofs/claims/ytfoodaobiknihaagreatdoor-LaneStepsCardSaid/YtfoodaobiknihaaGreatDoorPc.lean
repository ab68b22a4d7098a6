/- The document's columns, by their contracts. Conditions: those typed. -/
import Derived.Test.YtfoodaobiknihaaGreatDoorPl
import Derived.LoopTactic
import Derived.OwnWalk
namespace Go.Proofs.YtfoodaobiknihaaGreatDoor
set_option maxRecDepth 50000
open Go.RowKit
open Go.RowKit
def nts (l : List Nat) : List Value := l.map fun x : Nat => .int .i64 (x : Int)
theorem nts_length (l : List Nat) : (nts l).length = l.length := by simp [nts]
theorem nts_at (l : List Nat) (k : Nat) (h : k < (nts l).length) : (nts l)[k] = .int .i64 ((l[k]'(by simpa [nts] using h) : Nat) : Int) := by simp [nts]
theorem nts_append (a b : List Nat) : nts (a ++ b) = nts a ++ nts b := by simp [nts]
def fst (F : Nat → Nat) (n : Nat) : List Nat := (List.range n).map F
theorem fst_next (F : Nat → Nat) (n : Nat) : fst F (n + 1) = fst F n ++ [F n] := by simp [fst, List.range_succ]
theorem fst_length (F : Nat → Nat) (n : Nat) : (fst F n).length = n := by simp [fst]
theorem pl_int_info : (Tryz.prog.info? 3).map (fun i => (i.zero, i.size, i.bytes)) = some (some (.int .i64 0), 1, 8) := by kernel_rfl
theorem pl_one_new (w : World) (u : Value) (t : TypeId) : ∀ j v, [u][j]? = some v → (w.alloc (.cells #[u] t)).cell? ((⟨w.heap.size, 0, none⟩ : Addr).add j) = some v := by
  intro j v hj
  match j, hj with
  | 0, hj => simp at hj; subst hj; simp [Addr.add]
theorem pl_one_cell (u : Value) (h : u.oneCell' = true) : ∀ v ∈ [u], v.oneCell' = true := by
  intro v hv; simp at hv; subst hv; exact h
theorem grown_one {N : Nat} {w wr w2 : World} {v v' : Value} {l : List Nat} {x n n' : Nat} {o : Obj} (hN : N ≤ wr.heap.size) (hb : Below N w wr) (hown : wr.ownsRow N 3 1 v n (nts l)) (hown2 : w2.ownsRow N 3 1 v' n' (nts l ++ [.int .i64 (x : Int)])) (hg : (wr.alloc o).grownBy w2 v.ownBlock) :
    w2.ownsRow N 3 1 v' n' (nts (l ++ [x])) ∧ Below N w w2 := by
  refine ⟨?_, (hb.alloc hN o).grown hg (by simp; omega) fun k hk => (hown.lt k hk).1⟩
  rw [nts_append]
  exact hown2
theorem own_capL {w : World} {N : Nat} {A : Option Addr} {n c : Nat} {e : TypeId} {xs : List Value} (h : w.ownsRow N e 1 (.slice A n c) n xs) : n ≤ c := by
  rcases h.2 with ⟨e, h0⟩ | ⟨g, cap, cur, e, _, _, h1, _⟩
  · cases e; omega
  · cases e; exact h1
theorem own_none (w : World) (N : Nat) : w.ownsRow N 3 1 (.slice none 0 0) 0 (nts []) := ⟨rfl, .inl ⟨rfl, rfl⟩⟩
theorem Reads.take {w : World} {B : Nat} {A : Option Addr} {l : List Nat} (h : Reads w B A (nts l)) (n : Nat) : Reads w B A (nts (l.take n)) := fun k hk => by
  rw [nts_length, List.length_take] at hk
  obtain ⟨b, off, e, hb, hc⟩ := h k (by rw [nts_length]; omega)
  refine ⟨b, off, e, hb, ?_⟩
  rw [hc, nts_at, nts_at, List.getElem_take]
theorem sp_cells' {w : World} {k : Nat} {a t l m b c g z : Nat} (h : RowAt w k 48 (spc a t l m b c g z)) :
    w.cell? ⟨k, 0, none⟩ = some (.int .i64 (a : Int)) ∧ w.cell? ⟨k, 1, none⟩ = some (.int .i64 (t : Int)) ∧ w.cell? ⟨k, 2, none⟩ = some (.int .i64 (l : Int)) ∧ w.cell? ⟨k, 3, none⟩ = some (.int .i64 (m : Int)) ∧ w.cell? ⟨k, 4, none⟩ = some (.int .i64 (b : Int)) ∧ w.cell? ⟨k, 5, none⟩ = some (.int .i64 (c : Int)) ∧ w.cell? ⟨k, 6, none⟩ = some (.int .i64 (g : Int)) ∧ w.cell? ⟨k, 7, none⟩ = some (.int .i64 (z : Int)) :=
  ⟨(h.cell 0).trans rfl, (h.cell 1).trans rfl, (h.cell 2).trans rfl, (h.cell 3).trans rfl, (h.cell 4).trans rfl, (h.cell 5).trans rfl, (h.cell 6).trans rfl, (h.cell 7).trans rfl⟩
def baF (c g p s x : Nat) : Nat := if p = 0 then x else (s * g + g + x) % c
def alL (c g p s i : Nat) (own : Bool) : List Nat := fst (baF c g p s) (bsN c g p s) ++ (if own then fst (fun x => s * g + x) i else [])
def coL (c g p s i : Nat) (own : Bool) : List Nat := if own = true ∨ i = 0 then (alL c g p s i own).take ((alL c g p s i own).length - 1) else alL c g p s i own
set_option maxHeartbeats 6400000 in
theorem columns_any (a t l m b c g z p s i : Nat) (own : Bool) (hg : g ≤ c) (hc1 : 1 ≤ c) (hc : c ≤ 400) (hs : s ≤ 3) (hi : i ≤ 400) (hne : own = true ∨ i = 0 → 1 ≤ (alL c g p s i own).length) (w : World) :
    Calls Tryz.prog 81 #[spv a t l m b c g z, .int .i64 (p : Int), .int .i64 (s : Int), .int .i64 (i : Int), .bool own] w fun e w' =>
      ∃ A cp, e = .returned (.slice A (coL c g p s i own).length cp) ∧ Reads w' w'.heap.size A (nts (coL c g p s i own)) ∧ Below w.heap.size w w' := by
  obtain ⟨x, hx⟩ : ∃ x, s * g = x := ⟨_, rfl⟩
  have hxb : x ≤ 1200 := by
    rw [← hx]
    have := Nat.mul_le_mul hs (show g ≤ 400 by omega)
    omega
  have e1 : (s : Int) * (g : Int) = (x : Int) := by rw [← hx]; exact (Int.natCast_mul _ _).symm
  obtain ⟨i0, hi0, hz0, hz1, hz2⟩ := info_parts pl_int_info
  have HB := Lib.hid (one_box w (.cells (spc a t l m b c g z) 48))
  have HR := Lib.hid (RowAt.new w 48 (spc a t l m b c g z))
  obtain ⟨B, hB⟩ : ∃ B, bsN c g p s = B := ⟨_, rfl⟩
  obtain ⟨L1, hL1⟩ : ∃ L1, fst (baF c g p s) B = L1 := ⟨_, rfl⟩
  have HL1 : L1.length = B := by rw [← hL1, fst_length]
  have HAL := Lib.hid (show alL c g p s i own = L1 ++ (if own then fst (fun y => x + y) i else []) by rw [alL, hB, hL1, hx])
  have HCO : Hid (coL c g p s i own = if own = true ∨ i = 0 then (alL c g p s i own).take ((alL c g p s i own).length - 1) else alL c g p s i own) := Lib.hid rfl
  have HNE := Lib.hid hne
  clear hne
  by_cases hp : p = 0
  · have hpI : ¬ (0 : Int) < (p : Int) := by omega
    have hBx : B = x := by rw [← hB, bsN, if_pos hp, hx]
    have HF : Hid (∀ y, baF c g p s y = y) := Lib.hid fun y => by rw [baF, if_pos hp]
    have HL := Lib.hid hL1
    clear hL1 hB hx
    go_enter Tryz.func81, Tryz.ntmps81
    go_wp2
    have s1 : (w.alloc (.cells (spc a t l m b c g z) 48)).heap.size = w.heap.size + 1 := World.size_alloc _ _
    generalize World.alloc w _ = w1 at *
    go_loopw [12, 14] (fun v12 v14 wr => ∃ n : Nat, n ≤ B ∧ v14 = .int .i64 (n : Int) ∧ wr.ownsRow (w.heap.size + 1) 3 1 v12 n (nts (fst (baF c g p s) n)) ∧ Below (w.heap.size + 1) w1 wr) (fun _ v14 _ => B - (intOf v14).toNat)
    case atStart => exact ⟨0, by omega, rfl, own_none _ _, Below.refl _ _⟩
    case round =>
      obtain ⟨n, hn, rfl, hown, hb⟩ := hrel
      have hsz : w.heap.size + 1 ≤ wr.heap.size := by have := hb.size; omega
      have hlt0 : w.heap.size < w1.heap.size := by omega
      obtain ⟨A, cp, rfl, -, -, -⟩ := own_form hown
      by_cases hlt : n < B
      · have hdt : decide ((n : Int) < (x : Int)) = true := by simp; omega
        have HN := fst_next (baF c g p s) n
        rw [HF.out n] at HN
        have HN := Lib.hid HN
        have hll : (fst (baF c g p s) n).length = n := fst_length _ _
        generalize fst (baF c g p s) n = M at *
        go_wp2_with (at_builtin; refine wpList_append_own _ rfl (.tmp 48) (.tmp 50) 141 rfl (w.heap.size + 1) 3 i0 (.int .i64 0) 1 8 Tryz.underlying141 hi0 hz0 hz1 hz2 rfl (by decide) _ _ _ rfl (hown.alloc _) ⟨wr.heap.size, 0, none⟩ 1 1 [.int .i64 (n : Int)] rfl rfl ?c1 ?c2 ?c3 ?c4 ?c5 ?_)
        case c1 => exact pl_one_new _ _ _
        case c2 => exact pl_one_cell _ rfl
        case c3 => unfold maxLen; omega
        case c4 => omega
        case c5 => rw [World.size_alloc]; omega
        intro v' w2 hown2 hg2 _
        have HG := Lib.hid (grown_one hsz hb hown hown2 hg2)
        clear hown2 hg2 hown hb
        go_wp2
        go_roundw
        case rel => exact ⟨n + 1, by omega, by go_num, by rw [HN.out]; exact HG.out.1, HG.out.2⟩
        case measure => simp [intOf]; omega
      · obtain rfl : n = B := by omega
        have hdt : decide ((n : Int) < (x : Int)) = false := by simp; omega
        rw [HL.out] at hown
        have hnb : n ≤ 1600 := by omega
        have hnx : n = x := by omega
        clear HF HL hBx hlt hdt
        subst hnx
        have hcap := own_capL hown
        cases own
        · have hal := HAL.out
          simp only [Bool.false_eq_true, if_false, List.append_nil] at hal
          by_cases h0 : i = 0
          · subst h0
            have hco := HCO.out
            rw [if_pos (.inr rfl), hal, HL1] at hco
            have hn1 := HNE.out (.inr rfl)
            rw [hal, HL1] at hn1
            have hlen : (coL c g p s 0 false).length = n - 1 := by rw [hco, List.length_take, HL1]; omega
            have HRD := Lib.hid (show Reads wr wr.heap.size A (nts (coL c g p s 0 false)) by rw [hco]; exact (Reads.of_own hown).take _)
            have HBB := Lib.hid (HB.out.trans (hb.mono (by omega)))
            clear hal hco hown hb HNE HCO HAL
            obtain ⟨n, rfl⟩ : ∃ k, n = k + 1 := ⟨n - 1, by omega⟩
            rw [Nat.add_sub_cancel] at hlen
            have HLN := Lib.hid hlen
            clear hlen
            go_wp2
            go_ret
            exact ⟨A, cp, by rw [HLN.out]; rfl, HRD.out, HBB.out⟩
          · have hco := HCO.out
            rw [if_neg (by simp; exact h0), hal] at hco
            have HRD := Lib.hid (show Reads wr wr.heap.size A (nts (coL c g p s i false)) by rw [hco]; exact Reads.of_own hown)
            have hlen : (coL c g p s i false).length = n := by rw [hco, HL1]
            have HBB := Lib.hid (HB.out.trans (hb.mono (by omega)))
            clear hal hco hown hb HNE HCO HAL
            have HLN := Lib.hid hlen
            clear hlen
            go_wp2
            go_ret
            exact ⟨A, cp, by rw [HLN.out]; rfl, HRD.out, HBB.out⟩
        · have hal := HAL.out
          simp only [if_true] at hal
          have HS := Lib.hid hown
          clear hown
          go_wp2
          obtain ⟨wq, hwq⟩ : ∃ wq, wq = wr := ⟨_, rfl⟩
          go_loopw [12, 15] (fun v12 v15 wr => ∃ u : Nat, u ≤ i ∧ v15 = .int .i64 (u : Int) ∧ wr.ownsRow (w.heap.size + 1) 3 1 v12 (n + u) (nts (L1 ++ fst (fun y => n + y) u)) ∧ Below (w.heap.size + 1) w1 wr) (fun _ v15 _ => i - (intOf v15).toNat)
          case atStart => exact ⟨0, by omega, rfl, by rw [show L1 ++ fst (fun y => n + y) 0 = L1 from List.append_nil _]; exact HS.out, hb⟩
          case round =>
            clear hb hsz hcap HS hwq
            obtain ⟨u, hu, rfl, hown, hb⟩ := hrel
            have hsz : w.heap.size + 1 ≤ wr.heap.size := by have := hb.size; omega
            obtain ⟨A, cp, rfl, -, -, -⟩ := own_form hown
            by_cases hlt : u < i
            · have hdt : decide ((u : Int) < (i : Int)) = true := by simp; omega
              have HN := fst_next (fun y => n + y) u
              have HN : Hid (L1 ++ fst (fun y => n + y) (u + 1) = L1 ++ fst (fun y => n + y) u ++ [n + u]) := Lib.hid (by rw [HN, List.append_assoc])
              have hll : (L1 ++ fst (fun y => n + y) u).length = n + u := by rw [List.length_append, HL1, fst_length]
              obtain ⟨y, hy⟩ : ∃ y, n + u = y := ⟨_, rfl⟩
              rw [hy] at HN
              have e5 : (n : Int) + (u : Int) = (y : Int) := by omega
              have hyb : y ≤ 2000 := by omega
              clear hy
              generalize L1 ++ fst (fun y => n + y) u = M at *
              go_wp2_with (at_builtin; refine wpList_append_own _ rfl (.tmp 58) (.tmp 62) 141 rfl (w.heap.size + 1) 3 i0 (.int .i64 0) 1 8 Tryz.underlying141 hi0 hz0 hz1 hz2 rfl (by decide) _ _ _ rfl (hown.alloc _) ⟨wr.heap.size, 0, none⟩ 1 1 [.int .i64 (y : Int)] rfl rfl ?c1 ?c2 ?c3 ?c4 ?c5 ?_)
              case c1 => exact pl_one_new _ _ _
              case c2 => exact pl_one_cell _ rfl
              case c3 => unfold maxLen; omega
              case c4 => omega
              case c5 => rw [World.size_alloc]; omega
              intro v' w2 hown2 hg2 _
              have HG := Lib.hid (grown_one hsz hb hown hown2 hg2)
              clear hown2 hg2 hown hb
              go_wp2
              go_roundw
              case rel => exact ⟨u + 1, by omega, by go_num, by rw [HN.out]; exact HG.out.1, HG.out.2⟩
              case measure => simp [intOf]; omega
            · obtain rfl : u = i := by omega
              have hdt : decide ((u : Int) < (u : Int)) = false := by simp
              have hcap := own_capL hown
              have hll : (L1 ++ fst (fun y => n + y) u).length = n + u := by rw [List.length_append, HL1, fst_length]
              have hco := HCO.out
              rw [if_pos (by simp), hal, hll] at hco
              have hn1 := HNE.out (by simp)
              rw [hal, hll] at hn1
              have hlen : (coL c g p s u true).length = n + u - 1 := by rw [hco, List.length_take, hll]; omega
              have HRD := Lib.hid (show Reads wr wr.heap.size A (nts (coL c g p s u true)) by rw [hco]; exact (Reads.of_own hown).take _)
              have HBB := Lib.hid (HB.out.trans (hb.mono (by omega)))
              clear hal hco hown hb HNE HCO HAL hll
              obtain ⟨v, hv⟩ : ∃ v, n + u = v + 1 := ⟨n + u - 1, by omega⟩
              rw [hv] at hlen hcap ⊢
              rw [Nat.add_sub_cancel] at hlen
              have HLN := Lib.hid hlen
              clear hlen
              have hvb : v ≤ 4000 := by omega
              clear hv hn1
              go_wp2
              go_ret
              exact ⟨A, cp, by rw [HLN.out]; rfl, HRD.out, HBB.out⟩
  · have hpI : decide ((0 : Int) < (p : Int)) = true := by simp; omega
    have hpN : decide (0 < p) = true := by simp; omega
    have hBc : B + g = c := by rw [← hB, bsN, if_neg hp]; omega
    have e2 : (c : Int) - (g : Int) = (B : Int) := by omega
    have HF : Hid (∀ y, baF c g p s y = (x + g + y) % c) := Lib.hid fun y => by rw [baF, if_neg hp, hx]
    have HL := Lib.hid hL1
    clear hL1 hB hx
    go_enter Tryz.func81, Tryz.ntmps81
    go_wp2
    have s1 : (w.alloc (.cells (spc a t l m b c g z) 48)).heap.size = w.heap.size + 1 := World.size_alloc _ _
    generalize World.alloc w _ = w1 at *
    go_loopw [12, 13] (fun v12 v13 wr => ∃ n : Nat, n ≤ B ∧ v13 = .int .i64 (n : Int) ∧ wr.ownsRow (w.heap.size + 1) 3 1 v12 n (nts (fst (baF c g p s) n)) ∧ Below (w.heap.size + 1) w1 wr) (fun _ v13 _ => B - (intOf v13).toNat)
    case atStart => exact ⟨0, by omega, rfl, own_none _ _, Below.refl _ _⟩
    case round =>
      obtain ⟨n, hn, rfl, hown, hb⟩ := hrel
      have hsz : w.heap.size + 1 ≤ wr.heap.size := by have := hb.size; omega
      have hlt0 : w.heap.size < w1.heap.size := by omega
      obtain ⟨-, -, -, -, -, k5, k6, -⟩ := sp_cells' (HR.out.below hb (by omega))
      obtain ⟨A, cp, rfl, -, -, -⟩ := own_form hown
      by_cases hlt : n < B
      · have hdt : decide ((n : Int) < (B : Int)) = true := by simp; omega
        have HN := fst_next (baF c g p s) n
        rw [HF.out n] at HN
        obtain ⟨y, hy⟩ : ∃ y, (x + g + n) % c = y := ⟨_, rfl⟩
        rw [hy] at HN
        have HN := Lib.hid HN
        have hyc : y < c := by rw [← hy]; exact Nat.mod_lt _ (by omega)
        have c0 : ¬ c = 0 := by omega
        have e3 : ((x : Int) + (g : Int) + (n : Int)) % (c : Int) = (y : Int) := by rw [← hy]; rfl
        have e4 : Int.tmod ((x : Int) + (g : Int) + (n : Int)) (c : Int) = (y : Int) := by rw [Int.tmod_eq_emod_of_nonneg (by omega)]; exact e3
        have hll : (fst (baF c g p s) n).length = n := fst_length _ _
        clear hy
        generalize fst (baF c g p s) n = M at *
        go_wp2_with (at_builtin; refine wpList_append_own _ rfl (.tmp 31) (.tmp 41) 141 rfl (w.heap.size + 1) 3 i0 (.int .i64 0) 1 8 Tryz.underlying141 hi0 hz0 hz1 hz2 rfl (by decide) _ _ _ rfl (hown.alloc _) ⟨wr.heap.size, 0, none⟩ 1 1 [.int .i64 (y : Int)] rfl rfl ?c1 ?c2 ?c3 ?c4 ?c5 ?_)
        case c1 => exact pl_one_new _ _ _
        case c2 => exact pl_one_cell _ rfl
        case c3 => unfold maxLen; omega
        case c4 => omega
        case c5 => rw [World.size_alloc]; omega
        intro v' w2 hown2 hg2 _
        have HG := Lib.hid (grown_one hsz hb hown hown2 hg2)
        clear hown2 hg2 hown hb
        go_wp2
        go_roundw
        case rel => exact ⟨n + 1, by omega, by go_num, by rw [HN.out]; exact HG.out.1, HG.out.2⟩
        case measure => simp [intOf]; omega
      · obtain rfl : n = B := by omega
        have hdt : decide ((n : Int) < (n : Int)) = false := by simp
        rw [HL.out] at hown
        have hnb : n ≤ 1600 := by omega
        clear HF HL hBc hlt
        have hcap := own_capL hown
        cases own
        · have hal := HAL.out
          simp only [Bool.false_eq_true, if_false, List.append_nil] at hal
          by_cases h0 : i = 0
          · subst h0
            have hco := HCO.out
            rw [if_pos (.inr rfl), hal, HL1] at hco
            have hn1 := HNE.out (.inr rfl)
            rw [hal, HL1] at hn1
            have hlen : (coL c g p s 0 false).length = n - 1 := by rw [hco, List.length_take, HL1]; omega
            have HRD := Lib.hid (show Reads wr wr.heap.size A (nts (coL c g p s 0 false)) by rw [hco]; exact (Reads.of_own hown).take _)
            have HBB := Lib.hid (HB.out.trans (hb.mono (by omega)))
            clear hal hco hown hb HNE HCO HAL
            obtain ⟨n, rfl⟩ : ∃ k, n = k + 1 := ⟨n - 1, by omega⟩
            rw [Nat.add_sub_cancel] at hlen
            have HLN := Lib.hid hlen
            clear hlen
            go_wp2
            go_ret
            exact ⟨A, cp, by rw [HLN.out]; rfl, HRD.out, HBB.out⟩
          · have hco := HCO.out
            rw [if_neg (by simp; exact h0), hal] at hco
            have HRD := Lib.hid (show Reads wr wr.heap.size A (nts (coL c g p s i false)) by rw [hco]; exact Reads.of_own hown)
            have hlen : (coL c g p s i false).length = n := by rw [hco, HL1]
            have HBB := Lib.hid (HB.out.trans (hb.mono (by omega)))
            clear hal hco hown hb HNE HCO HAL
            have HLN := Lib.hid hlen
            clear hlen
            go_wp2
            go_ret
            exact ⟨A, cp, by rw [HLN.out]; rfl, HRD.out, HBB.out⟩
        · have hal := HAL.out
          simp only [if_true] at hal
          have HS := Lib.hid hown
          clear hown
          go_wp2
          obtain ⟨wq, hwq⟩ : ∃ wq, wq = wr := ⟨_, rfl⟩
          go_loopw [12, 15] (fun v12 v15 wr => ∃ u : Nat, u ≤ i ∧ v15 = .int .i64 (u : Int) ∧ wr.ownsRow (w.heap.size + 1) 3 1 v12 (n + u) (nts (L1 ++ fst (fun y => x + y) u)) ∧ Below (w.heap.size + 1) w1 wr) (fun _ v15 _ => i - (intOf v15).toNat)
          case atStart => exact ⟨0, by omega, rfl, by rw [show L1 ++ fst (fun y => x + y) 0 = L1 from List.append_nil _]; exact HS.out, hb⟩
          case round =>
            clear hb hsz hcap HS hwq
            obtain ⟨u, hu, rfl, hown, hb⟩ := hrel
            have hsz : w.heap.size + 1 ≤ wr.heap.size := by have := hb.size; omega
            obtain ⟨A, cp, rfl, -, -, -⟩ := own_form hown
            by_cases hlt : u < i
            · have hdt : decide ((u : Int) < (i : Int)) = true := by simp; omega
              have HN := fst_next (fun y => x + y) u
              have HN : Hid (L1 ++ fst (fun y => x + y) (u + 1) = L1 ++ fst (fun y => x + y) u ++ [x + u]) := Lib.hid (by rw [HN, List.append_assoc])
              have hll : (L1 ++ fst (fun y => x + y) u).length = n + u := by rw [List.length_append, HL1, fst_length]
              obtain ⟨y, hy⟩ : ∃ y, x + u = y := ⟨_, rfl⟩
              rw [hy] at HN
              have e5 : (x : Int) + (u : Int) = (y : Int) := by omega
              have hyb : y ≤ 2000 := by omega
              clear hy
              generalize L1 ++ fst (fun y => x + y) u = M at *
              go_wp2_with (at_builtin; refine wpList_append_own _ rfl (.tmp 58) (.tmp 62) 141 rfl (w.heap.size + 1) 3 i0 (.int .i64 0) 1 8 Tryz.underlying141 hi0 hz0 hz1 hz2 rfl (by decide) _ _ _ rfl (hown.alloc _) ⟨wr.heap.size, 0, none⟩ 1 1 [.int .i64 (y : Int)] rfl rfl ?c1 ?c2 ?c3 ?c4 ?c5 ?_)
              case c1 => exact pl_one_new _ _ _
              case c2 => exact pl_one_cell _ rfl
              case c3 => unfold maxLen; omega
              case c4 => omega
              case c5 => rw [World.size_alloc]; omega
              intro v' w2 hown2 hg2 _
              have HG := Lib.hid (grown_one hsz hb hown hown2 hg2)
              clear hown2 hg2 hown hb
              go_wp2
              go_roundw
              case rel => exact ⟨u + 1, by omega, by go_num, by rw [HN.out]; exact HG.out.1, HG.out.2⟩
              case measure => simp [intOf]; omega
            · obtain rfl : u = i := by omega
              have hdt : decide ((u : Int) < (u : Int)) = false := by simp
              have hcap := own_capL hown
              have hll : (L1 ++ fst (fun y => x + y) u).length = n + u := by rw [List.length_append, HL1, fst_length]
              have hco := HCO.out
              rw [if_pos (by simp), hal, hll] at hco
              have hn1 := HNE.out (by simp)
              rw [hal, hll] at hn1
              have hlen : (coL c g p s u true).length = n + u - 1 := by rw [hco, List.length_take, hll]; omega
              have HRD := Lib.hid (show Reads wr wr.heap.size A (nts (coL c g p s u true)) by rw [hco]; exact (Reads.of_own hown).take _)
              have HBB := Lib.hid (HB.out.trans (hb.mono (by omega)))
              clear hal hco hown hb HNE HCO HAL hll
              obtain ⟨v, hv⟩ : ∃ v, n + u = v + 1 := ⟨n + u - 1, by omega⟩
              rw [hv] at hlen hcap ⊢
              rw [Nat.add_sub_cancel] at hlen
              have HLN := Lib.hid hlen
              clear hlen
              have hvb : v ≤ 4000 := by omega
              clear hv hn1
              go_wp2
              go_ret
              exact ⟨A, cp, by rw [HLN.out]; rfl, HRD.out, HBB.out⟩
open Go.RowKit
theorem ixi_runL {w : World} {b i n c off : Nat} {ev : Operand → Value} {x y : Operand} {o : Oper} (hop : o.op = .indexAddr 141 x y) (hx : ev x = .slice (some ⟨b, off, none⟩) n c) (hy : ev y = .int .i64 (i : Int)) (hi : i < n) : (execOp ev o).run Tryz.prog w = .ok (.value (.pointer (some ⟨b, off + i, none⟩))) w := by
  have h1 : (i : Int) < (n : Int) := by omega
  simp [execOp, hop, hx, hy, go_sem, h1]
theorem mod_once {v c : Nat} (h : v < 2 * c) : v % c = if c ≤ v then v - c else v := by
  by_cases hc : c ≤ v
  · rw [if_pos hc, Nat.mod_eq_sub_mod hc, Nat.mod_eq_of_lt (by omega)]
  · rw [if_neg hc, Nat.mod_eq_of_lt (by omega)]
theorem fst_at (F : Nat → Nat) (n k : Nat) (h : k < n) : (fst F n)[k]? = some (F k) := by simp [fst, h]
theorem al_length (c g p s i : Nat) (O : Bool) : (alL c g p s i O).length = bsN c g p s + (if O = true then i else 0) := by
  cases O <;> simp [alL, fst_length]
theorem rsp_aggL (w : World) : (isAgg 48).run Tryz.prog w = .ok true w := by
  unfold isAgg
  rw [Sem.run_bind, run_underlying Tryz.underlying48 w]
  rfl
theorem rsp_sizeL : (Tryz.prog.info? 48).map (·.size) = some 8 := by kernel_rfl
theorem rsp_loadL {w : World} {k : Nat} {a t l m b c g z : Nat} (h : RowAt w k 48 (spc a t l m b c g z)) : (loadVar 48 ⟨k, 0, none⟩).run Tryz.prog w = .ok (spv a t l m b c g z) w :=
  sub_load h rsp_aggL rsp_sizeL 0 (spc a t l m b c g z).toList rfl fun j v h => by simpa using h
section
variable {t l c g p s k i : Nat}
theorem co_count (O : Bool) (A : Nat) (hA : A + (if O = true then 1 else if i = 0 then 1 else 0) = bsN c g p s + (if O = true then i else 0)) : (coL c g p s i O).length = A := by
  have h := al_length c g p s i O
  unfold coL
  cases O
  · by_cases h0 : i = 0
    · rw [if_pos (.inr h0), List.length_take, h]
      simp [h0] at hA ⊢
      omega
    · rw [if_neg (by simp; exact h0), h]
      simp [h0] at hA ⊢
      omega
  · rw [if_pos (.inl rfl), List.length_take, h]
    simp at hA ⊢
    omega
theorem co_at (c g p s i : Nat) (O : Bool) (y : Nat) (h : y < (coL c g p s i O).length) : (coL c g p s i O)[y]? = (alL c g p s i O)[y]? := by
  unfold coL at h ⊢
  split
  · rename_i hc
    rw [if_pos hc, List.length_take] at h
    rw [List.getElem?_take, if_pos (by omega)]
  · rfl
theorem Ref.column (R : Ref t l c g p s k i) (O : Bool) (A y : Nat) (hA : A + (if O = true then 1 else if i = 0 then 1 else 0) = bsN c g p s + (if O = true then i else 0)) (hy : y < A) : (coL c g p s i O)[y]? = some (colN c g p s y) := by
  rw [co_at c g p s i O y (by rw [co_count O A hA]; exact hy)]
  obtain ⟨h1, h2, h3, h4, h5, h6⟩ := R.times
  have hg := R.g2
  have hc := R.cg
  have hs := R.s3
  have hi := R.ig
  have hF : frN g p s = if p = 0 ∨ s = 3 then 0 else s * g + g := by unfold frN; rw [h2]
  unfold alL colN
  by_cases hyB : y < bsN c g p s
  · rw [List.getElem?_append_left (by rw [fst_length]; exact hyB), fst_at _ _ _ hyB]
    congr 1
    unfold baF
    unfold bsN at hyB
    generalize s * g = x at *
    generalize frN g p s = F at *
    by_cases hp : p = 0
    · rw [if_pos hp] at hyB ⊢
      rw [if_pos (.inl hp)] at hF
      rw [if_neg (by omega)]; omega
    · rw [if_neg hp] at hyB ⊢
      rw [mod_once (by omega)]
      by_cases h3 : s = 3
      · have h4 := h4 h3
        rw [if_pos (.inr h3)] at hF
        rw [if_pos (by omega), if_neg (by omega)]; omega
      · have h6 := h6 (by omega)
        rw [if_neg (by omega)] at hF
        subst hF
        rfl
  · cases O
    · exfalso
      simp at hA
      omega
    · simp at hA
      rw [List.getElem?_append_right (by rw [fst_length]; omega), fst_length, if_pos rfl, fst_at _ _ _ (by omega)]
      congr 1
      unfold bsN at hyB hA ⊢
      generalize s * g = x at *
      generalize frN g p s = F at *
      by_cases hp : p = 0
      · rw [if_pos hp] at hyB hA ⊢
        rw [if_pos (.inl hp)] at hF
        rw [if_neg (by omega)]; omega
      · rw [if_neg hp] at hyB hA ⊢
        by_cases h3 : s = 3
        · have h4 := h4 h3
          rw [if_pos (.inr h3)] at hF
          rw [if_neg (by omega)]; omega
        · have h6 := h6 (by omega)
          rw [if_neg (by omega)] at hF
          rw [if_pos (by omega)]; omega
theorem Ref.cols (R : Ref t l c g p s k i) (hc : c ≤ 400) (O : Bool) (A : Nat) (hA : A + (if O = true then 1 else if i = 0 then 1 else 0) = bsN c g p s + (if O = true then i else 0)) (h2 : p = 0 → s = 0 → O = true ∨ 1 ≤ i) (a b m z : Nat) (w : World) :
    Calls Tryz.prog 81 #[spv a t l m b c g z, .int .i64 (p : Int), .int .i64 (s : Int), .int .i64 (i : Int), .bool O] w fun e w' =>
      ∃ B cp, e = .returned (.slice B A cp) ∧ Reads w' w'.heap.size B (nts (coL c g p s i O)) ∧ Below w.heap.size w w' := by
  have hcg := R.cg
  have hg := R.g2
  have hi := R.ig
  have H := columns_any a t l m b c g z p s i O (by omega) (by omega) hc R.s3 (by omega) (fun h => by
    rw [al_length]
    obtain ⟨t1, t2, t3, t4, t5, t6⟩ := R.times
    have hb : p = 0 → s = 0 → O = true := fun hp hs => by
      rcases h2 hp hs with h2 | h2
      · exact h2
      · rcases h with h | h
        · exact h
        · omega
    have hb2 := R.two
    have : 1 ≤ bsN c g p s + (if O = true then i else 0) := by
      unfold bsN
      by_cases hp : p = 0
      · rw [if_pos hp]
        by_cases hs : s = 0
        · rw [if_pos (hb hp hs)]
          have := hb2 hp hs
          omega
        · have := t5 (by omega)
          omega
      · rw [if_neg hp]
        omega
    exact this) w
  rw [co_count O A hA] at H
  exact H
end
set_option maxHeartbeats 3200000 in
theorem rof_walk (a t l m b c g z p s k i J K L A y C : Nat) (O : Bool) (hl1 : 1 ≤ l) (hK : K < 4294967296) (hJ : J < 4294967296) (hA1 : 1 ≤ A) (hA2 : A ≤ 400)
    (hL : lnN l p s k K = L) (hO : decide (L = k) = O) (hy : piN A J = y) (M : List Nat) (hM : M.length = A) (hC : M[y]? = some C)
    (CC : ∀ w, Calls Tryz.prog 81 #[spv a t l m b c g z, .int .i64 (p : Int), .int .i64 (s : Int), .int .i64 (i : Int), .bool O] w fun e w' => ∃ B cp, e = .returned (.slice B A cp) ∧ Reads w' w'.heap.size B (nts M) ∧ Below w.heap.size w w') (w : World) :
    Calls Tryz.prog 59 #[spv a t l m b c g z, .int .i64 (p : Int), .int .i64 (s : Int), .int .i64 (k : Int), .int .i64 (i : Int), .int .u32 (J : Int), .int .u32 (K : Int)] w fun e w' => e = .returned (.tuple #[.int .i64 (L : Int), .int .i64 (C : Int)]) ∧ Below w.heap.size w w' := by
  have HB := Lib.hid (one_box w (.cells (spc a t l m b c g z) 48))
  have HR := Lib.hid (RowAt.new w 48 (spc a t l m b c g z))
  have CC := Lib.hid CC
  have CP := Lib.hid fun w => calls_sameL (rpick_any A J hA1 (by omega) hJ w)
  rw [hy] at CP
  have hyA : y < A := by rw [← hy]; exact pi_lt hA1
  have HC := Lib.hid (And.intro hM hC)
  obtain ⟨Q, hQ⟩ : ∃ Q, K % l = Q := ⟨_, rfl⟩
  have hQl : Q < l := by rw [← hQ]; exact Nat.mod_lt _ (by omega)
  have l0 : ¬ l = 0 := by omega
  have e1 : Int.tmod (K : Int) (l : Int) = (Q : Int) := by rw [Int.tmod_eq_emod_of_nonneg (by omega), ← hQ]; rfl
  have e2 : (K : Int) % (l : Int) = (Q : Int) := by rw [← hQ]; rfl
  have heq : decide ((L : Int) = (k : Int)) = O := by
    rw [← hO]
    by_cases h : L = k
    · rw [decide_eq_true h, decide_eq_true (by omega)]
    · rw [decide_eq_false h, decide_eq_false (by omega)]
  have hbq : ((L : Int) == (k : Int)) = O := heq
  clear hy hM hC hO
  by_cases h0 : p = 0 ∧ s = 0
  · have hLk : L = k := by rw [← hL, lnN, if_pos h0]
    obtain ⟨rfl, rfl⟩ := h0
    subst hLk
    have hO : O = true := by rw [← heq]; simp
    subst hO
    clear hL hQ heq hbq
    go_enter Tryz.func59, Tryz.ntmps59
    go_wp2_with (refine wpList_load_want rfl 48 _ rfl _ _ rfl (rsp_loadL HR.out) ?_)
    refine (CC.out _).mono ?_
    rintro e w2 ⟨B, cp, rfl, HRD, hb⟩
    obtain ⟨bb, off, rfl, hbb, hv⟩ := HRD y (by rw [nts_length, HC.out.1]; exact hyA)
    have HV : Hid (w2.cell? ⟨bb, off + y, none⟩ = some (.int .i64 (C : Int))) := Lib.hid (by
      rw [hv, nts_at]
      have h1 := HC.out.2
      obtain ⟨h2, h3⟩ := List.getElem?_eq_some_iff.1 h1
      rw [h3])
    have HB2 := Lib.hid (HB.out.trans (hb.mono HB.out.size))
    clear hb CC HB HR HRD hv HC
    go_wp2_with fail
    refine wp_region_text [Is (.int .i64 (L : Int)), Is (.slice (some ⟨bb, off, none⟩) A cp), Is (.slice (some ⟨bb, off, none⟩) A cp), Is (.int .i64 (A : Int)), Is (.int .u32 (J : Int)), Is (.int .i64 (y : Int)), Is (.pointer (some ⟨bb, off + y, none⟩)), Is (.int .i64 (C : Int)), Is (.int .i64 (L : Int)), Is (.int .i64 (C : Int))] (by kernel_rfl) (by kernel_rfl) rfl ⟨stable_is _, stable_is _, stable_is _, stable_is _, stable_is _, stable_is _, stable_is _, stable_is _, stable_is _, stable_is _, trivial⟩ ⟨?_, ?_, ?_, ?_, ?_, ?_, ?_, ?_, ?_, ?_, trivial⟩ ?_
    · intro a w C0
      exact part_on (wanted_free rfl _) (op_move (.inl rfl) (C0.was 16 (by kernel_rfl)))
    · intro a w C0
      exact part_on (wanted_free rfl _) (op_move (.inl rfl) (C0.was 17 (by kernel_rfl)))
    · intro a w C0
      exact part_on (wanted_free rfl _) (op_move (.inl rfl) (C0.was 17 (by kernel_rfl)))
    · intro a w C0
      exact part_on (wanted_free rfl _) (op_len_slice rfl Tryz.underlying141 (C0.on (j := 2) (by kernel_rfl) rfl rfl) rfl)
    · intro a w C0
      exact part_on (wanted_free rfl _) (op_move (.inl rfl) (C0.was 5 (by kernel_rfl)))
    · intro a w C0
      exact part_on (wanted_free rfl _) (op_call2 rfl (reg_enters Tryz.func82 (by kernel_rfl) (by kernel_rfl)) (C0.on (j := 3) (by kernel_rfl) rfl rfl) (C0.on (j := 4) (by kernel_rfl) rfl rfl) (CP.out w))
    · intro a w C0
      exact part_on (wanted_free rfl _) (op_value (ixi_runL rfl (C0.on (j := 1) (by kernel_rfl) rfl rfl) (C0.on (j := 5) (by kernel_rfl) rfl rfl) hyA) rfl)
    · intro a w C0
      exact part_on (wanted_free rfl _) (op_value (int_runS rfl (C0.on (j := 6) (by kernel_rfl) rfl rfl) ((C0.below.cell (p := ⟨bb, off + y, none⟩) hbb).trans HV.out)) rfl)
    · intro a w C0
      exact part_on (wanted_free rfl _) (op_move (.inr rfl) (C0.on (j := 0) (by kernel_rfl) rfl rfl))
    · intro a w C0
      exact part_on (wanted_free rfl _) (op_move (.inr rfl) (C0.on (j := 7) (by kernel_rfl) rfl rfl))
    rintro wF hbF _ rfl _ rfl _ rfl _ rfl _ rfl _ rfl _ rfl _ rfl _ rfl _ rfl
    simp only [Fin, setAt, Exit.then, List.setIfInBounds_toArray, List.set_cons_succ, List.set_cons_zero]
    have HBF := Lib.hid (HB2.out.trans (hbF.mono HB2.out.size))
    clear hbF HB2 HV CP
    go_wp2
    go_ret2
    exact ⟨rfl, HBF.out⟩
  · have hLQ : Q = L := by rw [← hL, lnN, if_neg h0, hQ]
    subst hLQ
    have hz : ((p : Int) == 0 && (s : Int) == 0) = false := by
      rcases (show ¬ p = 0 ∨ ¬ s = 0 by omega) with h | h
      · rw [show ((p : Int) == 0) = false by simp; omega]; rfl
      · rw [show ((s : Int) == 0) = false by simp; omega, Bool.and_false]
    clear hL hQ
    by_cases hp : p = 0
    · have hs : ¬ s = 0 := fun hs => h0 ⟨hp, hs⟩
      subst hp
      clear h0 hz
      go_enter Tryz.func59, Tryz.ntmps59
      go_wp2_with (refine wpList_load_want rfl 48 _ rfl _ _ rfl (rsp_loadL HR.out) ?_)
      refine (CC.out _).mono ?_
      rintro e w2 ⟨B, cp, rfl, HRD, hb⟩
      obtain ⟨bb, off, rfl, hbb, hv⟩ := HRD y (by rw [nts_length, HC.out.1]; exact hyA)
      have HV : Hid (w2.cell? ⟨bb, off + y, none⟩ = some (.int .i64 (C : Int))) := Lib.hid (by
        rw [hv, nts_at]
        have h1 := HC.out.2
        obtain ⟨h2, h3⟩ := List.getElem?_eq_some_iff.1 h1
        rw [h3])
      have HB2 := Lib.hid (HB.out.trans (hb.mono HB.out.size))
      clear hb CC HB HR HRD hv HC
      go_wp2_with fail
      refine wp_region_text [Is (.int .i64 (Q : Int)), Is (.slice (some ⟨bb, off, none⟩) A cp), Is (.slice (some ⟨bb, off, none⟩) A cp), Is (.int .i64 (A : Int)), Is (.int .u32 (J : Int)), Is (.int .i64 (y : Int)), Is (.pointer (some ⟨bb, off + y, none⟩)), Is (.int .i64 (C : Int)), Is (.int .i64 (Q : Int)), Is (.int .i64 (C : Int))] (by kernel_rfl) (by kernel_rfl) rfl ⟨stable_is _, stable_is _, stable_is _, stable_is _, stable_is _, stable_is _, stable_is _, stable_is _, stable_is _, stable_is _, trivial⟩ ⟨?_, ?_, ?_, ?_, ?_, ?_, ?_, ?_, ?_, ?_, trivial⟩ ?_
      · intro a w C0
        exact part_on (wanted_free rfl _) (op_move (.inl rfl) (C0.was 16 (by kernel_rfl)))
      · intro a w C0
        exact part_on (wanted_free rfl _) (op_move (.inl rfl) (C0.was 17 (by kernel_rfl)))
      · intro a w C0
        exact part_on (wanted_free rfl _) (op_move (.inl rfl) (C0.was 17 (by kernel_rfl)))
      · intro a w C0
        exact part_on (wanted_free rfl _) (op_len_slice rfl Tryz.underlying141 (C0.on (j := 2) (by kernel_rfl) rfl rfl) rfl)
      · intro a w C0
        exact part_on (wanted_free rfl _) (op_move (.inl rfl) (C0.was 5 (by kernel_rfl)))
      · intro a w C0
        exact part_on (wanted_free rfl _) (op_call2 rfl (reg_enters Tryz.func82 (by kernel_rfl) (by kernel_rfl)) (C0.on (j := 3) (by kernel_rfl) rfl rfl) (C0.on (j := 4) (by kernel_rfl) rfl rfl) (CP.out w))
      · intro a w C0
        exact part_on (wanted_free rfl _) (op_value (ixi_runL rfl (C0.on (j := 1) (by kernel_rfl) rfl rfl) (C0.on (j := 5) (by kernel_rfl) rfl rfl) hyA) rfl)
      · intro a w C0
        exact part_on (wanted_free rfl _) (op_value (int_runS rfl (C0.on (j := 6) (by kernel_rfl) rfl rfl) ((C0.below.cell (p := ⟨bb, off + y, none⟩) hbb).trans HV.out)) rfl)
      · intro a w C0
        exact part_on (wanted_free rfl _) (op_move (.inr rfl) (C0.on (j := 0) (by kernel_rfl) rfl rfl))
      · intro a w C0
        exact part_on (wanted_free rfl _) (op_move (.inr rfl) (C0.on (j := 7) (by kernel_rfl) rfl rfl))
      rintro wF hbF _ rfl _ rfl _ rfl _ rfl _ rfl _ rfl _ rfl _ rfl _ rfl _ rfl
      simp only [Fin, setAt, Exit.then, List.setIfInBounds_toArray, List.set_cons_succ, List.set_cons_zero]
      have HBF := Lib.hid (HB2.out.trans (hbF.mono HB2.out.size))
      clear hbF HB2 HV CP
      go_wp2
      go_ret2
      exact ⟨rfl, HBF.out⟩
    · clear h0 hz
      go_enter Tryz.func59, Tryz.ntmps59
      go_wp2_with (refine wpList_load_want rfl 48 _ rfl _ _ rfl (rsp_loadL HR.out) ?_)
      refine (CC.out _).mono ?_
      rintro e w2 ⟨B, cp, rfl, HRD, hb⟩
      obtain ⟨bb, off, rfl, hbb, hv⟩ := HRD y (by rw [nts_length, HC.out.1]; exact hyA)
      have HV : Hid (w2.cell? ⟨bb, off + y, none⟩ = some (.int .i64 (C : Int))) := Lib.hid (by
        rw [hv, nts_at]
        have h1 := HC.out.2
        obtain ⟨h2, h3⟩ := List.getElem?_eq_some_iff.1 h1
        rw [h3])
      have HB2 := Lib.hid (HB.out.trans (hb.mono HB.out.size))
      clear hb CC HB HR HRD hv HC
      go_wp2_with fail
      refine wp_region_text [Is (.int .i64 (Q : Int)), Is (.slice (some ⟨bb, off, none⟩) A cp), Is (.slice (some ⟨bb, off, none⟩) A cp), Is (.int .i64 (A : Int)), Is (.int .u32 (J : Int)), Is (.int .i64 (y : Int)), Is (.pointer (some ⟨bb, off + y, none⟩)), Is (.int .i64 (C : Int)), Is (.int .i64 (Q : Int)), Is (.int .i64 (C : Int))] (by kernel_rfl) (by kernel_rfl) rfl ⟨stable_is _, stable_is _, stable_is _, stable_is _, stable_is _, stable_is _, stable_is _, stable_is _, stable_is _, stable_is _, trivial⟩ ⟨?_, ?_, ?_, ?_, ?_, ?_, ?_, ?_, ?_, ?_, trivial⟩ ?_
      · intro a w C0
        exact part_on (wanted_free rfl _) (op_move (.inl rfl) (C0.was 16 (by kernel_rfl)))
      · intro a w C0
        exact part_on (wanted_free rfl _) (op_move (.inl rfl) (C0.was 17 (by kernel_rfl)))
      · intro a w C0
        exact part_on (wanted_free rfl _) (op_move (.inl rfl) (C0.was 17 (by kernel_rfl)))
      · intro a w C0
        exact part_on (wanted_free rfl _) (op_len_slice rfl Tryz.underlying141 (C0.on (j := 2) (by kernel_rfl) rfl rfl) rfl)
      · intro a w C0
        exact part_on (wanted_free rfl _) (op_move (.inl rfl) (C0.was 5 (by kernel_rfl)))
      · intro a w C0
        exact part_on (wanted_free rfl _) (op_call2 rfl (reg_enters Tryz.func82 (by kernel_rfl) (by kernel_rfl)) (C0.on (j := 3) (by kernel_rfl) rfl rfl) (C0.on (j := 4) (by kernel_rfl) rfl rfl) (CP.out w))
      · intro a w C0
        exact part_on (wanted_free rfl _) (op_value (ixi_runL rfl (C0.on (j := 1) (by kernel_rfl) rfl rfl) (C0.on (j := 5) (by kernel_rfl) rfl rfl) hyA) rfl)
      · intro a w C0
        exact part_on (wanted_free rfl _) (op_value (int_runS rfl (C0.on (j := 6) (by kernel_rfl) rfl rfl) ((C0.below.cell (p := ⟨bb, off + y, none⟩) hbb).trans HV.out)) rfl)
      · intro a w C0
        exact part_on (wanted_free rfl _) (op_move (.inr rfl) (C0.on (j := 0) (by kernel_rfl) rfl rfl))
      · intro a w C0
        exact part_on (wanted_free rfl _) (op_move (.inr rfl) (C0.on (j := 7) (by kernel_rfl) rfl rfl))
      rintro wF hbF _ rfl _ rfl _ rfl _ rfl _ rfl _ rfl _ rfl _ rfl _ rfl _ rfl
      simp only [Fin, setAt, Exit.then, List.setIfInBounds_toArray, List.set_cons_succ, List.set_cons_zero]
      have HBF := Lib.hid (HB2.out.trans (hbF.mono HB2.out.size))
      clear hbF HB2 HV CP
      go_wp2
      go_ret2
      exact ⟨rfl, HBF.out⟩
end Go.Proofs.YtfoodaobiknihaaGreatDoor
