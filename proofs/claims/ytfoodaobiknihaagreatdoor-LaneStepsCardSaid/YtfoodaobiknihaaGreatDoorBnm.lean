/- Blocks mixed, by their contracts. Conditions: those typed. -/
import Derived.Test.YtfoodaobiknihaaGreatDoorBnl
import Derived.Test.YtfoodaobiknihaaGreatDoorBnRperm
import Derived.Test.YtfoodaobiknihaaGreatDoorGen
namespace Go.Proofs.YtfoodaobiknihaaGreatDoor
set_option maxRecDepth 50000
open Go.RowKit Rot Bb Bn
structure Zx (w wr : World) (X v : List Nat) (b5 : Nat) : Prop where
  x : Wx w wr X
  v : RowAt wr b5 185 (wq v)
  l : w.heap.size + 2 ≤ b5
section
variable {w wr wr' : World} {X v : List Nat} {b5 : Nat}
theorem Zx.new (h : Wx w wr X) : Zx w (wr.alloc (.cells (wq (List.replicate 16 0)) 185)) X (List.replicate 16 0) wr.heap.size :=
  ⟨h.step ((Below.refl _ wr).alloc (Nat.le_refl _) _), RowAt.new wr _ _, h.lt⟩
theorem Zx.step (h : Zx w wr X v b5) (hb : Below wr.heap.size wr wr') : Zx w wr' X v b5 := ⟨h.x.step hb, h.v.below hb h.v.lt, h.l⟩
theorem Zx.setX (h : Zx w wr X v b5) (i x : Nat) : Zx w (wr.setCell ⟨w.heap.size, i, none⟩ (.int .u64 (x : Int))) (X.set i x) v b5 :=
  have := h.l
  ⟨⟨by rw [← wq_set]; exact h.x.rv.setCell i _, h.x.rz.setOther _ (by simp) _, h.x.below.setCell (by simp) _⟩, h.v.setOther _ (by simp; omega) _, h.l⟩
theorem Zx.setV (h : Zx w wr X v b5) (i x : Nat) : Zx w (wr.setCell ⟨b5, i, none⟩ (.int .u64 (x : Int))) X (v.set i x) b5 :=
  have := h.l
  ⟨⟨h.x.rv.setOther _ (by simp; omega) _, h.x.rz.setOther _ (by simp; omega) _, h.x.below.setCell (by simp; omega) _⟩, by rw [← wq_set]; exact h.v.setCell i _, h.l⟩
theorem Zx.rowV (h : Zx w wr X v b5) (v' : List Nat) : Zx w (wr.setRow b5 (wq v')) X v' b5 :=
  have := h.l
  ⟨⟨h.x.rv.setRowOther _ (by omega) _, h.x.rz.setRowOther _ (by omega) _, below_setRow h.x.below (by omega) _⟩, h.v.setRow _, h.l⟩
end
theorem ats_steps (t i k : Nat) (hi : i < 8) (hk : k < 16) : ∃ h r m n s p : Nat, p = ats t i k ∧ p < 128 ∧ (k : Int).tdiv 2 = (h : Int) ∧ (k : Int).tmod 2 = (r : Int) ∧ (16 : Int) * ((if t = 1 then h else i : Nat) : Int) = (m : Int) ∧ (2 : Int) * ((if t = 1 then i else h : Nat) : Int) = (n : Int) ∧
    (m : Int) + (n : Int) = (s : Int) ∧ (s : Int) + (r : Int) = (p : Int) ∧ h < 8 ∧ r < 2 ∧ m < 128 ∧ n < 16 ∧ s < 144 ∨ 2 ≤ t := by
  by_cases h2 : 2 ≤ t
  · exact ⟨0, 0, 0, 0, 0, 0, .inr h2⟩
  · have e3 : (k : Int).tdiv 2 = ((k / 2 : Nat) : Int) := by rw [Int.tdiv_eq_ediv_of_nonneg (by omega)]; omega
    have e4 : (k : Int).tmod 2 = ((k % 2 : Nat) : Int) := by rw [Int.tmod_eq_emod_of_nonneg (by omega)]; omega
    rcases (show t = 0 ∨ t = 1 by omega) with rfl | rfl
    · refine ⟨k / 2, k % 2, 16 * i, 2 * (k / 2), 16 * i + 2 * (k / 2), ats 0 i k, .inl ⟨rfl, ats_lt 0 i k hi hk, e3, e4, ?_⟩⟩
      have : ats 0 i k = i * 16 + k / 2 * 2 + k % 2 := rfl
      rw [if_neg (by decide), if_neg (by decide)]
      omega
    · refine ⟨k / 2, k % 2, 16 * (k / 2), 2 * i, 16 * (k / 2) + 2 * i, ats 1 i k, .inl ⟨rfl, ats_lt 1 i k hi hk, e3, e4, ?_⟩⟩
      have : ats 1 i k = i * 2 + k / 2 * 16 + k % 2 := rfl
      rw [if_pos rfl, if_pos rfl]
      omega
set_option maxHeartbeats 6400000 in
theorem rwhole_any {B : List Nat} (hB : okb B) (w : World) :
    Calls Tryz.prog 83 #[.agg (wq B)] w fun e w' => e = .returned (.agg (wq (whole B))) ∧ Below w.heap.size w w' := by
  have HB := Lib.hid hB
  have HD := Lib.hid (Wx.new w B)
  have hz := zero_b
  clear hB
  go_enter Tryz.func83, Tryz.ntmps83
  go_wp2
  generalize hW0 : World.alloc _ _ = w0
  have HX0 : Hid (Wx w w0 B) := Lib.hid (by subst hW0; exact HD.out)
  clear hW0 HD
  go_loopw [3] (fun v3 wr => ∃ t : Nat, t ≤ 2 ∧ v3 = .int .i64 (t : Int) ∧ Wx w wr (sides B t)) (fun v3 _ => 2 - (intOf v3).toNat)
  case atStart => exact ⟨0, by omega, rfl, HX0.out⟩
  case round =>
    clear HX0
    obtain ⟨t, ht, rfl, X⟩ := hrel
    have HX := Lib.hid X
    clear X
    by_cases h2 : t < 2
    · have hdt : decide ((t : Int) < 2) = true := by simp; omega
      have HN : Hid (sides B (t + 1) = linTo (sides B t) t 8) := Lib.hid rfl
      have HXO := Lib.hid (sides_okb HB.out t)
      generalize sides B t = X at *
      go_wp2
      obtain ⟨wo, rfl⟩ : ∃ wo : World, wo = wr := ⟨_, rfl⟩
      go_loopw [4] (fun v4 wr => ∃ i : Nat, i ≤ 8 ∧ v4 = .int .i64 (i : Int) ∧ Wx w wr (linTo X t i)) (fun v4 _ => 8 - (intOf v4).toNat)
      case atStart => exact ⟨0, by omega, rfl, HX.out⟩
      case round =>
        clear HX
        obtain ⟨i, hi, rfl, X1⟩ := hrel
        have HX := Lib.hid X1
        clear X1
        by_cases h8 : i < 8
        · have hdk : decide ((i : Int) < 8) = true := by simp; omega
          have HM : Hid (linTo X t (i + 1) = putL (linTo X t i) (perm (takL (linTo X t i) t i 16)) t i 16) := Lib.hid rfl
          have HYO := Lib.hid (linTo_okb HXO.out t i)
          generalize linTo X t i = Y at *
          obtain ⟨b5, hb5⟩ : ∃ b, b = wr.heap.size := ⟨_, rfl⟩
          have HZ0 := Lib.hid (Zx.new HX.out)
          go_wp2
          rw [← hb5] at HZ0 ⊢
          generalize hW1 : World.alloc _ _ = w1
          have HZ1 : Hid (Zx w w1 Y (takL Y t i 0) b5) := Lib.hid (by subst hW1; exact HZ0.out)
          clear hW1 HZ0 HX hb5
          go_loopw [6] (fun v6 wr => ∃ k : Nat, k ≤ 16 ∧ v6 = .int .i64 (k : Int) ∧ Zx w wr Y (takL Y t i k) b5) (fun v6 _ => 16 - (intOf v6).toNat)
          case atStart => exact ⟨0, by omega, rfl, HZ1.out⟩
          case round =>
            clear HZ1
            obtain ⟨k, hk, rfl, X1⟩ := hrel
            have HX := Lib.hid X1
            clear X1
            by_cases h16 : k < 16
            · have hdl : decide ((k : Int) < 16) = true := by simp; omega
              have hk0 : (k : Int) < 16 := by omega
              have HE : Hid (takL Y t i (k + 1) = (takL Y t i k).set k (Y.getD (ats t i k) 0)) := Lib.hid rfl
              have cv := (HX.out.v.cell k).trans (wq_at _ k (by rw [takL_length]; exact h16))
              have fv := HX.out.v.frozen k
              generalize takL Y t i k = v at *
              generalize v.getD k 0 = y0 at *
              obtain ⟨h, r, m, n, s, p, ⟨hp, hp2, e1, e2, e3, e4, e5, e6, b1, b2, b3, b4, b6⟩ | hbad⟩ := ats_steps t i k h8 h16
              case inr => omega
              rw [← hp] at HE
              have cb := (HX.out.x.rv.cell p).trans (wq_at _ p (by rw [HYO.out.1]; exact hp2))
              generalize Y.getD p 0 = y at *
              have hl := HX.out.l
              clear hp
              rcases (show t = 0 ∨ t = 1 by omega) with h01 | h01
              · have hte : ((t : Int) == 1) = false := by simp; omega
                rw [if_neg (by omega)] at e3 e4
                clear h01
                go_wp2
                go_roundw
                case rel => exact ⟨k + 1, by omega, by go_num, by rw [HE.out]; exact HX.out.setV k y⟩
                case measure => simp [intOf]; omega
              · have hte : ((t : Int) == 1) = true := by simp; omega
                rw [if_pos (by omega)] at e3 e4
                clear h01
                go_wp2
                go_roundw
                case rel => exact ⟨k + 1, by omega, by go_num, by rw [HE.out]; exact HX.out.setV k y⟩
                case measure => simp [intOf]; omega
            · obtain rfl : k = 16 := by omega
              have hdl : decide (((16 : Nat) : Int) < 16) = false := by simp
              have HVL := Lib.hid (takL_length Y t i 16)
              have HVO := Lib.hid (takL_ok HYO.out.2 t i 16)
              have HPL := Lib.hid (show (perm (takL Y t i 16)).length = 16 by rw [perm_length]; exact HVL.out)
              have CP := Lib.hid fun w => rpermute_any (takL Y t i 16) HVL.out HVO.out w
              generalize perm (takL Y t i 16) = V at *
              generalize takL Y t i 16 = v at *
              have HSV : Hid ((wq v).size = 16) := Lib.hid (by rw [wq_size]; exact HVL.out)
              have HSP : Hid ((wq V).size = 16) := Lib.hid (by rw [wq_size]; exact HPL.out)
              have RV := Lib.hid HX.out.v
              go_wp2_with (refine wpList_load_row rfl 185 (.tmp 5) rfl b5 rfl 185 (wq v) (0, 0) _ RV.out Tryz.underlying185 rfl (by rw [HSV.out]; exact q_size16N) ?_)
              refine (CP.out _).mono ?_
              rintro e w2 ⟨rfl, hb2⟩
              have HX2 := Lib.hid (HX.out.step hb2)
              have RV2 := Lib.hid HX2.out.v
              have HX3 : Hid (Zx w (w2.setRow b5 (wq V)) (putL Y V t i 0) V b5) := Lib.hid (HX2.out.rowV V)
              clear hb2 HX RV CP
              go_wp2_with (refine wpList_store_row rfl 185 (.tmp 5) (.tmp 45) rfl b5 (wq V) rfl rfl 185 _ RV2.out (by rw [HSP.out]; exact q_size16N) (by rw [HSV.out, HSP.out]) (wq_one _) ?_)
              generalize World.setRow _ _ _ = w3 at *
              clear RV2 HX2 HSV HSP HVL HVO
              go_loopw [9] (fun v9 wr => ∃ k : Nat, k ≤ 16 ∧ v9 = .int .i64 (k : Int) ∧ Zx w wr (putL Y V t i k) V b5) (fun v9 _ => 16 - (intOf v9).toNat)
              case atStart => exact ⟨0, by omega, rfl, HX3.out⟩
              case round =>
                clear HX3
                obtain ⟨k, hk, rfl, X1⟩ := hrel
                have HX := Lib.hid X1
                clear X1
                by_cases h16 : k < 16
                · have hdm : decide ((k : Int) < 16) = true := by simp; omega
                  have hk0 : (k : Int) < 16 := by omega
                  have HE : Hid (putL Y V t i (k + 1) = (putL Y V t i k).set (ats t i k) (V.getD k 0)) := Lib.hid rfl
                  have hul : (putL Y V t i k).length = 128 := by rw [putL_length]; exact HYO.out.1
                  have cv := (HX.out.v.cell k).trans (wq_at _ k (by rw [HPL.out]; exact h16))
                  generalize putL Y V t i k = U at *
                  generalize V.getD k 0 = y at *
                  obtain ⟨h, r, m, n, s, p, ⟨hp, hp2, e1, e2, e3, e4, e5, e6, b1, b2, b3, b4, b6⟩ | hbad⟩ := ats_steps t i k h8 h16
                  case inr => omega
                  rw [← hp] at HE
                  have cb := (HX.out.x.rv.cell p).trans (wq_at _ p (by rw [hul]; exact hp2))
                  have fb := HX.out.x.rv.frozen p
                  generalize U.getD p 0 = y0 at *
                  have hl := HX.out.l
                  clear hp hul
                  rcases (show t = 0 ∨ t = 1 by omega) with h01 | h01
                  · have hte : ((t : Int) == 1) = false := by simp; omega
                    rw [if_neg (by omega)] at e3 e4
                    clear h01
                    go_wp2
                    go_roundw
                    case rel => exact ⟨k + 1, by omega, by go_num, by rw [HE.out]; exact HX.out.setX p y⟩
                    case measure => simp [intOf]; omega
                  · have hte : ((t : Int) == 1) = true := by simp; omega
                    rw [if_pos (by omega)] at e3 e4
                    clear h01
                    go_wp2
                    go_roundw
                    case rel => exact ⟨k + 1, by omega, by go_num, by rw [HE.out]; exact HX.out.setX p y⟩
                    case measure => simp [intOf]; omega
                · obtain rfl : k = 16 := by omega
                  have hdm : decide (((16 : Nat) : Int) < 16) = false := by simp
                  go_wp2
                  go_roundw
                  case rel => exact ⟨i + 1, by omega, by go_num, by rw [HM.out]; exact HX.out.x⟩
                  case measure => simp [intOf]; omega
        · obtain rfl : i = 8 := by omega
          have hdk : decide (((8 : Nat) : Int) < 8) = false := by simp
          go_wp2
          go_roundw
          case rel => exact ⟨t + 1, by omega, by go_num, by rw [HN.out]; exact HX.out⟩
          case measure => simp [intOf]; omega
    · obtain rfl : t = 2 := by omega
      have hdt : decide (((2 : Nat) : Int) < 2) = false := by simp
      have hX8 : Wx w wr (whole B) := HX.out
      have HLL : Hid ((wq (whole B)).size = 128) := Lib.hid (by rw [wq_size]; exact (whole_ok HB.out).1)
      have RV := Lib.hid hX8.rv
      have RZ := Lib.hid hX8.rz
      have HBB := Lib.hid hX8.below
      clear hX8 HX
      obtain ⟨z, hzz⟩ : ∃ z, z = whole B := ⟨_, rfl⟩
      rw [← hzz] at RV HLL
      have HZZ := Lib.hid hzz
      clear hzz
      go_wp2_with (first
        | refine wpList_load_row rfl 83 (.tmp 1) rfl w.heap.size rfl 83 (wq z) (0, 0) _ RV.out Tryz.underlying83 rfl (by rw [HLL.out]; exact b_size) ?_
        | refine wpList_store_row rfl 83 (.tmp 2) (.tmp 70) rfl (w.heap.size + 1) (wq z) rfl rfl 83 _ RZ.out (by rw [HLL.out]; exact b_size) (by rw [HLL.out]; rfl) (wq_one _) ?_)
      have hR := RowAt.setRow RZ.out (wq z)
      refine bodyPost_ret (v := .agg (wq z)) (results_cell_row rfl _ _ (w.heap.size + 1) 83 (wq z) (0, 0) _ rfl hR Tryz.underlying83 rfl (by rw [HLL.out]; exact b_size)) rfl ⟨by rw [HZZ.out], ?_⟩
      exact below_setRow HBB.out (by omega) _
open Go.RowKit Rot Bb Bn
theorem bcs_twoN (x y : List Nat) : bcs [x, y] = u64s x ++ u64s y := by simp [bcs]
theorem bcs_consN (x : List Nat) (l : List (List Nat)) : bcs (x :: l) = u64s x ++ bcs l := by simp [bcs]
theorem build_twoN (w : World) {x y : List Nat} (hx : x.length = 128) (hy : y.length = 128) : (Instr.buildSlice 91 2 #[(0, .agg (wq x)), (1, .agg (wq y))]).run Tryz.prog w = .ok (.slice (some ⟨w.heap.size, 0, none⟩) 2 2) (w.alloc (.cells (bcs [x, y]).toArray 83)) := by
  obtain ⟨i, hi, hz, hs, hby⟩ := b_parts
  refine run_buildSlice w _ _ 2 _ (bcs [x, y]).toArray i _ Tryz.underlying91 hi hz (by rw [hs]; decide) (by rw [hs]; decide) ?_
  have hsx : (wq x).size = 128 := by rw [wq_size]; exact hx
  have hsy : (wq y).size = 128 := by rw [wq_size]; exact hy
  have ex : (Value.agg (wq x)).cells = wq x := rfl
  have ey : (Value.agg (wq y)).cells = wq y := rfl
  have hf : ∀ (l : List Value) (o n : Nat) (cs : Array Value), (l.zipIdx n).foldl (fun (cs : Array Value) (x : Value × Nat) => cs.setIfInBounds (o + x.2) x.1) cs = (l.zipIdx (o + n)).foldl (fun (cs : Array Value) (x : Value × Nat) => cs.setIfInBounds x.2 x.1) cs := by
    intro l o
    induction l with
    | nil => intro n cs; rfl
    | cons y l ih => intro n cs; rw [List.zipIdx_cons, List.zipIdx_cons, List.foldl_cons, List.foldl_cons, ih (n + 1)]; rfl
  have hx2 : (wq x).toList = u64s x := rfl
  have hy2 : (wq y).toList = u64s y := rfl
  have hlx : (u64s x).length = 128 := by rw [u64s_length]; exact hx
  have hly : (u64s y).length = 128 := by rw [u64s_length]; exact hy
  simp only [Instr.fill, hs, ex, ey, hsx, hsy, Nat.zero_mul, Nat.one_mul, ne_eq, not_true_eq_false]
  have hr : ((Array.range (2 * 128)).map ((Value.agg (wq zb)).cells[· % (Value.agg (wq zb)).cells.size]!)).size = 256 := by simp
  generalize Array.map _ (Array.range (2 * 128)) = Z at *
  have hz2 : Z.toList.length = 256 := by rw [Array.length_toList]; exact hr
  have h1 : (wq x).zipIdx.foldl (fun (cs : Array Value) (x : Value × Nat) => cs.setIfInBounds (0 + x.2) x.1) Z = (u64s x ++ Z.toList.drop 128).toArray := by
    rw [← Array.foldl_toList, Array.toList_zipIdx, hf _ 0 0, fold_cells _ _ _ (by simp [hsx]; omega), hx2, hlx]
    simp
  have h2 : (wq y).zipIdx.foldl (fun (cs : Array Value) (x : Value × Nat) => cs.setIfInBounds (128 + x.2) x.1) (u64s x ++ Z.toList.drop 128).toArray = (bcs [x, y]).toArray := by
    rw [← Array.foldl_toList, Array.toList_zipIdx, hf _ 128 0, fold_cells _ _ _ (by simp [hsy, hlx]; omega), hy2, hly, bcs_twoN]
    simp only [Nat.add_zero]
    rw [List.take_left' hlx, List.drop_of_length_le (by simp [hlx]; omega), List.append_nil]
  rw [h1, h2, if_neg (by simp [hr]), if_neg (by simp [hlx]; omega)]
theorem build_two_runN {w : World} {ev : Operand → Value} {p q : Operand} {o : Oper} {x y : List Nat} (hx : x.length = 128) (hy : y.length = 128) (hop : o.op = .buildSlice 91 2 #[(0, p), (1, q)]) (hp : ev p = .agg (wq x)) (hq : ev q = .agg (wq y)) : (execOp ev o).run Tryz.prog w = .ok (.value (.slice (some ⟨w.heap.size, 0, none⟩) 2 2)) (w.alloc (.cells (bcs [x, y]).toArray 83)) := by
  simp only [execOp, hop, List.map_toArray, List.map_cons, List.map_nil, hp, hq, Sem.run_bind, build_twoN w hx hy, Result.andThen_ok, Sem.run_pure]
theorem wpList_madeN {P : Program} {ops : Array Oper} {rest : List Oper} {o : Oper} {a : Act} {w : World} {Q : Exit → Act → World → Prop} (hgd : o.guard = none) (v : Value) (w' : World) (hr : (execOp a.eval o).run P w = .ok (.value v) w') (h : wpList P ops Q rest (a.put o.dst v) w') : wpList P ops Q (o :: rest) a w := wpList_plain hgd fun _ hK => by
  unfold Oper.wp
  rw [hr]
  exact hK _ _ h
theorem rd_row {w : World} {g : Nat} {t : TypeId} {l : List Value} (h : RowAt w g t l.toArray) : Reads w w.heap.size (some ⟨g, 0, none⟩) l := fun k hk => by
  refine ⟨g, 0, rfl, h.lt, ?_⟩
  rw [Nat.zero_add, h.cell k]
  simp
theorem two_rd {w : World} {g : Nat} {x y : List Nat} (h : RowAt w g 83 (bcs [x, y]).toArray) : RdB [x, y] (.slice (some ⟨g, 0, none⟩) 2 2) w := ⟨_, _, rfl, rd_row h⟩
theorem one_rd {w : World} {g : Nat} {x : List Nat} (h : RowAt w g 83 (wq x)) : RdB [x] (.slice (some ⟨g, 0, none⟩) 1 1) w := ⟨_, _, rfl, by rw [bcs_z]; exact rd_row h⟩
theorem app_one {w : World} {g : Nat} {z : List Nat} (hz' : okb z) (hg : RowAt w g 83 (wq z)) {A : Option Addr} {c B : Nat} {l : List (List Nat)} (ho : ∀ b ∈ l, okb b) (hr : Reads w B A (bcs l)) (hl : l.length ≤ 1000000) (ty : TypeId) :
    ∃ v' w', (Builtin.append_ #[91, 91] ty #[.slice (some ⟨g, 0, none⟩) 1 1, .slice A l.length c]).run Tryz.prog w = .ok v' w' ∧ RdB (z :: l) v' w' ∧ Below w.heap.size w w' := by
  obtain ⟨i, hi, hz, hs, hby⟩ := b_parts
  by_cases h0 : l.length = 0
  · have e : l = [] := List.eq_nil_of_length_eq_zero h0
    subst e
    refine ⟨.slice (some ⟨g, 0, none⟩) 1 1, w, ?_, one_rd hg, Below.refl _ _⟩
    cases A <;> simp [Builtin.append_, run_underlying Tryz.underlying91, sizeOf, typeInfo, hi, Builtin.lenOf, Builtin.firstCells, loadCells, loadCellsFrom, storeCells]
  · have hbl := bcs_length ho
    obtain ⟨b, off, e, _, _⟩ := hr 0 (by omega)
    subst e
    have hzl : (u64s z).length = 128 := by rw [u64s_length]; exact hz'.1
    have hg1 := run_append_grow (P := Tryz.prog) w 91 ty 83 i _ Tryz.underlying91 hi hz ⟨g, 0, none⟩ 1 1 (u64s z) (by rw [hs, hzl]) (fun j u hj => by
        rw [Go.WideShapes.add_plain, Nat.zero_add, hg.cell j]
        simpa [wq] using hj) ⟨b, off, none⟩ l.length c (bcs l) (by rw [hs]; exact hbl)
      (fun j u hj => by
        obtain ⟨hj', rfl⟩ := List.getElem?_eq_some_iff.1 hj
        obtain ⟨b', off', e, _, hc⟩ := hr j hj'
        cases e
        rw [Go.WideShapes.add_plain]; exact hc) (by omega) (by omega) (by rw [hby]; exact growslice_fits (by omega) (by omega))
    refine ⟨_, _, hg1, ?_, (Below.refl _ w).drew.alloc (Nat.le_refl _) _⟩
    rw [show 1 + l.length = (z :: l).length by simp [Nat.add_comm]]
    refine ⟨_, _, rfl, fun k hk => ⟨_, 0, rfl, by simp, ?_⟩⟩
    have hk' := hk
    rw [bcs_consN] at hk'
    have hR := RowAt.new w.drew 83 ((u64s z).toArray ++ (bcs l).toArray ++ Builtin.zeroCells (Value.agg (wq zb)).cells (grownCap w (z :: l).length 1 83 - (z :: l).length))
    have hc := hR.cell k
    rw [Nat.zero_add]
    refine hc.trans ?_
    rw [Array.getElem?_append_left (by simpa using hk'), List.append_toArray, List.getElem?_toArray, List.getElem?_eq_getElem hk']
    simp [bcs_consN]
theorem xor_rd {l : List (List Nat)} (ho : ∀ b ∈ l, okb b) (hl : l.length ≤ 1000000) {v : Value} {w : World} (h : RdB l v w) : Calls Tryz.prog 94 #[v] w fun e w' => ∃ x, e = .returned x ∧ Is (.agg (wq (xB l))) x w' ∧ Below w.heap.size w w' := by
  obtain ⟨A, c, rfl, hr⟩ := h
  exact (xor_any ho A c w hr hl).mono fun e w' h => ⟨_, h.1, rfl, h.2⟩
theorem rxor_rd {l : List (List Nat)} (ho : ∀ b ∈ l, okb b) (hl : l.length ≤ 1000000) {v : Value} {w : World} (h : RdB l v w) : Calls Tryz.prog 61 #[v] w fun e w' => ∃ x, e = .returned x ∧ Is (.agg (wq (xB l))) x w' ∧ Below w.heap.size w w' := by
  obtain ⟨A, c, rfl, hr⟩ := h
  exact (rxor_any ho A c w hr hl).mono fun e w' h => ⟨_, h.1, rfl, h.2⟩
theorem three_new (w : World) (x y z : List Nat) : RowAt (((w.alloc (.cells (wq x) 83)).alloc (.cells (wq y) 83)).alloc (.cells (wq z) 83)) w.heap.size 83 (wq x) ∧
    RowAt (((w.alloc (.cells (wq x) 83)).alloc (.cells (wq y) 83)).alloc (.cells (wq z) 83)) (w.heap.size + 1) 83 (wq y) ∧
    RowAt (((w.alloc (.cells (wq x) 83)).alloc (.cells (wq y) 83)).alloc (.cells (wq z) 83)) (w.heap.size + 1 + 1) 83 (wq z) ∧
    Below w.heap.size w (((w.alloc (.cells (wq x) 83)).alloc (.cells (wq y) 83)).alloc (.cells (wq z) 83)) := by
  refine ⟨((RowAt.new w _ _).alloc _).alloc _, ?_, ?_, (((Below.refl _ w).alloc (Nat.le_refl _) _).alloc (by simp) _).alloc (by simp; omega) _⟩
  · have h := (RowAt.new (w.alloc (.cells (wq x) 83)) 83 (wq y)).alloc (.cells (wq z) 83)
    rw [World.size_alloc] at h; exact h
  · have h := RowAt.new ((w.alloc (.cells (wq x) 83)).alloc (.cells (wq y) 83)) 83 (wq z)
    rw [World.size_alloc, World.size_alloc] at h; exact h
set_option maxHeartbeats 3200000 in
theorem mix_any {x y : List Nat} (hx : okb x) (hy : okb y) (w : World) (ht : TAt w) : Calls Tryz.prog 95 #[.agg (wq x), .agg (wq y)] w fun e w' => e = .returned (.agg (wq (mix x y))) ∧ Below w.heap.size w w' := by
  have HXO := Lib.hid hx
  have HYO := Lib.hid hy
  have HSX : Hid ((wq x).size = 128) := Lib.hid (by rw [wq_size]; exact hx.1)
  have HSY : Hid ((wq y).size = 128) := Lib.hid (by rw [wq_size]; exact hy.1)
  have H3 := Lib.hid (three_new w x y zb)
  have hz := zero_b
  have HT2 := Lib.hid (two_ok hx hy)
  have HRO := Lib.hid (xB_ok _ (two_ok hx hy))
  have HM : Hid (mix x y = xB [whole (xB [x, y]), xB [x, y]]) := Lib.hid rfl
  have HTT := Lib.hid ht
  clear hx hy ht
  go_enter Tryz.func95, Tryz.ntmps95
  go_wp2_with (first
    | refine wpList_value_want rfl _ (bload_run rfl rfl H3.out.1 HSX.out) ?_
    | refine wpList_value_want rfl _ (bload_run rfl rfl H3.out.2.1 HSY.out) ?_
    | refine wpList_madeN rfl _ _ (build_two_runN HXO.out.1 HYO.out.1 rfl rfl rfl) ?_)
  generalize hW0 : World.alloc (World.alloc (World.alloc w _) _) _ = w0 at *
  have hsz : w0.heap.size = w.heap.size + 1 + 1 + 1 := by subst hW0; simp
  have H4 : Hid (RowAt (w0.alloc (.cells (bcs [x, y]).toArray 83)) (w.heap.size + 1 + 1 + 1) 83 (bcs [x, y]).toArray) := Lib.hid (by rw [← hsz]; exact RowAt.new w0 _ _)
  have HB4 := Lib.hid ((Below.refl _ w0).alloc (Nat.le_refl _) (.cells (bcs [x, y]).toArray 83))
  have CX := Lib.hid (xor_rd HT2.out (by simp) (two_rd H4.out))
  clear hW0 hsz
  refine CX.out.mono ?_
  rintro e w2 ⟨_, rfl, rfl, hb2⟩
  have HB2 := Lib.hid (H3.out.2.2.2.trans ((below_step HB4.out hb2).mono H3.out.2.2.2.size))
  have HZ2 := Lib.hid (H3.out.2.2.1.below (below_step HB4.out hb2) H3.out.2.2.1.lt)
  clear hb2 H4 HB4 CX H3 HSX HSY
  generalize hr : xB [x, y] = r at *
  have HSR : Hid ((wq r).size = 128) := Lib.hid (by rw [wq_size]; exact HRO.out.1)
  have HN := Lib.hid (newb w2 r)
  have HZ3 := Lib.hid (HZ2.out.below HN.out.2 HZ2.out.lt)
  have HB3 := Lib.hid (HB2.out.trans (HN.out.2.mono HB2.out.size))
  have HLT : Hid (w.heap.size + 1 + 1 < w2.heap.size) := Lib.hid HZ2.out.lt
  obtain ⟨g, hg⟩ : ∃ g, g = w2.heap.size := ⟨_, rfl⟩
  go_wp2_with (refine wpList_store_row rfl 83 (.tmp 5) (.tmp 9) rfl w2.heap.size (wq r) rfl rfl 83 _ (RowAt.new _ _ _) (by rw [HSR.out]; exact b_size) (by rw [HSR.out]; rfl) (wq_one _) ?_)
  rw [← hg] at HN HZ3 HB3 HLT ⊢
  generalize World.setRow _ _ _ = w3 at *
  clear HZ2 HB2 hg hr
  have CW : Hid (∀ w' : World, Below w3.heap.size w3 w' → Calls Tryz.prog 109 #[.agg (wq r)] w' fun e w2 => ∃ v, e = .returned v ∧ Is (.agg (wq (whole r))) v w2 ∧ Below w'.heap.size w' w2) := Lib.hid fun w' hb => (whole_anyN HRO.out w' (HTT.out.next (HB3.out.trans (hb.mono HB3.out.size)))).mono fun e w2 h => ⟨_, h.1, rfl, h.2⟩
  have HWO := Lib.hid (whole_ok HRO.out)
  generalize whole r = q at *
  have HT4 : Hid (∀ b ∈ [q, r], okb b) := Lib.hid (two_ok HWO.out HRO.out)
  simp only [Act.put]
  refine wp_region_last 5 _ [Is (.agg (wq r)), Is (.agg (wq q)), Is (.agg (wq r)), RdB [q, r], Is (.agg (wq (xB [q, r])))] rfl rfl (by kernel_rfl) rfl (by kernel_rfl) rfl ⟨stable_is _, stable_is _, stable_is _, stable_rdb _, stable_is _, trivial⟩ ?_ ?_
  · simp only [List.take_succ_cons, List.take_zero]
    refine ⟨?_, ?_, ?_, ?_, ?_, trivial⟩
    · intro a w' C
      exact ⟨rfl, op_value (bload_run rfl (C.was 5 (by kernel_rfl)) (HN.out.1.below C.below HN.out.1.lt) HSR.out) rfl⟩
    · intro a w' C
      exact ⟨rfl, op_call1 rfl (reg_enters Tryz.func109 (by kernel_rfl) (by kernel_rfl)) (C.on (j := 0) (by kernel_rfl) rfl rfl) (CW.out w' C.below)⟩
    · intro a w' C
      exact ⟨rfl, op_value (bload_run rfl (C.was 5 (by kernel_rfl)) (HN.out.1.below C.below HN.out.1.lt) HSR.out) rfl⟩
    · intro a w' C
      exact ⟨rfl, op_made (build_two_runN HWO.out.1 HRO.out.1 rfl (C.on (j := 1) (by kernel_rfl) rfl rfl) (C.on (j := 2) (by kernel_rfl) rfl rfl)) (two_rd (RowAt.new _ _ _)) ((Below.refl _ _).alloc (Nat.le_refl _) _)⟩
    · intro a w' C
      exact ⟨rfl, op_call1 rfl (reg_enters Tryz.func94 (by kernel_rfl) (by kernel_rfl)) rfl (xor_rd HT4.out (by simp) (C.on (j := 3) (by kernel_rfl) rfl rfl))⟩
  simp only [List.take_succ_cons, List.take_zero]
  rintro wF hbF _ rfl _ rfl _ rfl x3 hx3 _ rfl
  simp only [setAt, Fin, List.setIfInBounds_toArray, List.set_cons_succ, List.set_cons_zero]
  have HZ5 := Lib.hid (HZ3.out.below hbF HZ3.out.lt)
  have HB5 := Lib.hid (HB3.out.trans (hbF.mono HB3.out.size))
  clear hbF HZ3 HB3 CW HN
  obtain ⟨z, hzz⟩ : ∃ z, z = xB [q, r] := ⟨_, rfl⟩
  have HSZ : Hid ((wq z).size = 128) := Lib.hid (by rw [wq_size, hzz]; exact (xB_ok _ HT4.out).1)
  rw [← hzz]
  have HZZ := Lib.hid hzz
  clear hzz
  go_wp2_with (refine wpList_store_row rfl 83 (.tmp 4) (.tmp 14) rfl (w.heap.size + 1 + 1) (wq z) rfl rfl 83 _ HZ5.out (by rw [HSZ.out]; exact b_size) (by rw [HSZ.out]; rfl) (wq_one _) ?_)
  have hR := RowAt.setRow HZ5.out (wq z)
  refine bodyPost_ret (v := .agg (wq z)) (results_cell_row rfl _ _ (w.heap.size + 1 + 1) 83 (wq z) (0, 0) _ rfl hR Tryz.underlying83 rfl (by rw [HSZ.out]; exact b_size)) rfl ⟨by rw [HM.out, HZZ.out], ?_⟩
  exact below_setRow HB5.out (by omega) _
set_option maxHeartbeats 3200000 in
theorem rmix_any {x y : List Nat} (hx : okb x) (hy : okb y) (w : World) : Calls Tryz.prog 60 #[.agg (wq x), .agg (wq y)] w fun e w' => e = .returned (.agg (wq (mix x y))) ∧ Below w.heap.size w w' := by
  have HXO := Lib.hid hx
  have HYO := Lib.hid hy
  have HSX : Hid ((wq x).size = 128) := Lib.hid (by rw [wq_size]; exact hx.1)
  have HSY : Hid ((wq y).size = 128) := Lib.hid (by rw [wq_size]; exact hy.1)
  have H3 := Lib.hid (three_new w x y zb)
  have hz := zero_b
  have HT2 := Lib.hid (two_ok hx hy)
  have HRO := Lib.hid (xB_ok _ (two_ok hx hy))
  have HM : Hid (mix x y = xB [xB [x, y], whole (xB [x, y])]) := Lib.hid (mix_ref x y)
  clear hx hy
  go_enter Tryz.func60, Tryz.ntmps60
  go_wp2_with (first
    | refine wpList_value_want rfl _ (bload_run rfl rfl H3.out.1 HSX.out) ?_
    | refine wpList_value_want rfl _ (bload_run rfl rfl H3.out.2.1 HSY.out) ?_
    | refine wpList_madeN rfl _ _ (build_two_runN HXO.out.1 HYO.out.1 rfl rfl rfl) ?_)
  generalize hW0 : World.alloc (World.alloc (World.alloc w _) _) _ = w0 at *
  have hsz : w0.heap.size = w.heap.size + 1 + 1 + 1 := by subst hW0; simp
  have H4 : Hid (RowAt (w0.alloc (.cells (bcs [x, y]).toArray 83)) (w.heap.size + 1 + 1 + 1) 83 (bcs [x, y]).toArray) := Lib.hid (by rw [← hsz]; exact RowAt.new w0 _ _)
  have HB4 := Lib.hid ((Below.refl _ w0).alloc (Nat.le_refl _) (.cells (bcs [x, y]).toArray 83))
  have CX := Lib.hid (rxor_rd HT2.out (by simp) (two_rd H4.out))
  clear hW0 hsz
  refine CX.out.mono ?_
  rintro e w2 ⟨_, rfl, rfl, hb2⟩
  have HB2 := Lib.hid (H3.out.2.2.2.trans ((below_step HB4.out hb2).mono H3.out.2.2.2.size))
  have HZ2 := Lib.hid (H3.out.2.2.1.below (below_step HB4.out hb2) H3.out.2.2.1.lt)
  clear hb2 H4 HB4 CX H3 HSX HSY
  generalize hr : xB [x, y] = r at *
  have HSR : Hid ((wq r).size = 128) := Lib.hid (by rw [wq_size]; exact HRO.out.1)
  have HN := Lib.hid (newb w2 r)
  have HZ3 := Lib.hid (HZ2.out.below HN.out.2 HZ2.out.lt)
  have HB3 := Lib.hid (HB2.out.trans (HN.out.2.mono HB2.out.size))
  have HLT : Hid (w.heap.size + 1 + 1 < w2.heap.size) := Lib.hid HZ2.out.lt
  obtain ⟨g, hg⟩ : ∃ g, g = w2.heap.size := ⟨_, rfl⟩
  go_wp2_with (refine wpList_store_row rfl 83 (.tmp 5) (.tmp 9) rfl w2.heap.size (wq r) rfl rfl 83 _ (RowAt.new _ _ _) (by rw [HSR.out]; exact b_size) (by rw [HSR.out]; rfl) (wq_one _) ?_)
  rw [← hg] at HN HZ3 HB3 HLT ⊢
  generalize World.setRow _ _ _ = w3 at *
  clear HZ2 HB2 hg hr
  have CW : Hid (∀ w' : World, Below w3.heap.size w3 w' → Calls Tryz.prog 83 #[.agg (wq r)] w' fun e w2 => ∃ v, e = .returned v ∧ Is (.agg (wq (whole r))) v w2 ∧ Below w'.heap.size w' w2) := Lib.hid fun w' _ => (rwhole_any HRO.out w').mono fun e w2 h => ⟨_, h.1, rfl, h.2⟩
  have HWO := Lib.hid (whole_ok HRO.out)
  generalize whole r = q at *
  have HT4 : Hid (∀ b ∈ [r, q], okb b) := Lib.hid (two_ok HRO.out HWO.out)
  simp only [Act.put]
  refine wp_region_last 5 _ [Is (.agg (wq r)), Is (.agg (wq r)), Is (.agg (wq q)), RdB [r, q], Is (.agg (wq (xB [r, q])))] rfl rfl (by kernel_rfl) rfl (by kernel_rfl) rfl ⟨stable_is _, stable_is _, stable_is _, stable_rdb _, stable_is _, trivial⟩ ?_ ?_
  · simp only [List.take_succ_cons, List.take_zero]
    refine ⟨?_, ?_, ?_, ?_, ?_, trivial⟩
    · intro a w' C
      exact ⟨rfl, op_value (bload_run rfl (C.was 5 (by kernel_rfl)) (HN.out.1.below C.below HN.out.1.lt) HSR.out) rfl⟩
    · intro a w' C
      exact ⟨rfl, op_value (bload_run rfl (C.was 5 (by kernel_rfl)) (HN.out.1.below C.below HN.out.1.lt) HSR.out) rfl⟩
    · intro a w' C
      exact ⟨rfl, op_call1 rfl (reg_enters Tryz.func83 (by kernel_rfl) (by kernel_rfl)) (C.on (j := 1) (by kernel_rfl) rfl rfl) (CW.out w' C.below)⟩
    · intro a w' C
      exact ⟨rfl, op_made (build_two_runN HRO.out.1 HWO.out.1 rfl (C.on (j := 0) (by kernel_rfl) rfl rfl) (C.on (j := 2) (by kernel_rfl) rfl rfl)) (two_rd (RowAt.new _ _ _)) ((Below.refl _ _).alloc (Nat.le_refl _) _)⟩
    · intro a w' C
      exact ⟨rfl, op_call1 rfl (reg_enters Tryz.func61 (by kernel_rfl) (by kernel_rfl)) rfl (rxor_rd HT4.out (by simp) (C.on (j := 3) (by kernel_rfl) rfl rfl))⟩
  simp only [List.take_succ_cons, List.take_zero]
  rintro wF hbF _ rfl _ rfl _ rfl x3 hx3 _ rfl
  simp only [setAt, Fin, List.setIfInBounds_toArray, List.set_cons_succ, List.set_cons_zero]
  have HZ5 := Lib.hid (HZ3.out.below hbF HZ3.out.lt)
  have HB5 := Lib.hid (HB3.out.trans (hbF.mono HB3.out.size))
  clear hbF HZ3 HB3 CW HN
  obtain ⟨z, hzz⟩ : ∃ z, z = xB [r, q] := ⟨_, rfl⟩
  have HSZ : Hid ((wq z).size = 128) := Lib.hid (by rw [wq_size, hzz]; exact (xB_ok _ HT4.out).1)
  rw [← hzz]
  have HZZ := Lib.hid hzz
  clear hzz
  go_wp2_with (refine wpList_store_row rfl 83 (.tmp 4) (.tmp 14) rfl (w.heap.size + 1 + 1) (wq z) rfl rfl 83 _ HZ5.out (by rw [HSZ.out]; exact b_size) (by rw [HSZ.out]; rfl) (wq_one _) ?_)
  have hR := RowAt.setRow HZ5.out (wq z)
  refine bodyPost_ret (v := .agg (wq z)) (results_cell_row rfl _ _ (w.heap.size + 1 + 1) 83 (wq z) (0, 0) _ rfl hR Tryz.underlying83 rfl (by rw [HSZ.out]; exact b_size)) rfl ⟨by rw [HM.out, HZZ.out], ?_⟩
  exact below_setRow HB5.out (by omega) _
open Go.RowKit Rot Bb Bn
set_option maxHeartbeats 3200000 in
theorem over_any {x y : List Nat} (hx : okb x) (hy : okb y) {l : List (List Nat)} (ho : ∀ b ∈ l, okb b) (A : Option Addr) (c : Nat) (w : World) (hr : Reads w w.heap.size A (bcs l)) (hl : l.length ≤ 900000) (ht : TAt w) :
    Calls Tryz.prog 67 #[.agg (wq x), .agg (wq y), .slice A l.length c] w fun e w' => e = .returned (.agg (wq (xB (mix x y :: l)))) ∧ Below w.heap.size w w' := by
  have HSX : Hid ((wq x).size = 128) := Lib.hid (by rw [wq_size]; exact hx.1)
  have HSY : Hid ((wq y).size = 128) := Lib.hid (by rw [wq_size]; exact hy.1)
  have H3 := Lib.hid (three_new w x y zb)
  have hz := zero_b
  have HMO := Lib.hid (mix_ok hx hy)
  have HLO := Lib.hid ho
  have HR := Lib.hid hr
  have HTT := Lib.hid ht
  have CM := Lib.hid fun w (ht : TAt w) => mix_any hx hy w ht
  clear hx hy ho hr ht
  go_enter Tryz.func67, Tryz.ntmps67
  go_wp2_with (first
    | refine wpList_value_want rfl _ (bload_run rfl rfl H3.out.1 HSX.out) ?_
    | refine wpList_value_want rfl _ (bload_run rfl rfl H3.out.2.1 HSY.out) ?_)
  generalize hW0 : World.alloc (World.alloc (World.alloc w _) _) _ = w0 at *
  clear hW0
  refine (CM.out _ (HTT.out.next H3.out.2.2.2)).mono ?_
  rintro e w2 ⟨rfl, hb2⟩
  have HB2 := Lib.hid (H3.out.2.2.2.trans (hb2.mono H3.out.2.2.2.size))
  have HZ2 := Lib.hid (H3.out.2.2.1.below hb2 H3.out.2.2.1.lt)
  clear hb2 H3 HSX HSY CM HTT
  obtain ⟨m, hm⟩ : ∃ m, m = mix x y := ⟨_, rfl⟩
  rw [← hm] at HMO ⊢
  have HMM := Lib.hid hm
  clear hm
  have HN := Lib.hid (RowAt.new w2 83 (wq m))
  have HNB := Lib.hid ((Below.refl _ w2).alloc (Nat.le_refl _) (.cells (wq m) 83))
  have hl' : l.length ≤ 1000000 := by omega
  have hrr := (HR.out.below HB2.out).below (HNB.out.mono HB2.out.size)
  obtain ⟨v3, w3, hrun, hrd, hb3⟩ := app_one (c := c) HMO.out HN.out HLO.out hrr hl' 91
  have HRUN := Lib.hid hrun
  have HRD := Lib.hid hrd
  have HB3 := Lib.hid (HB2.out.trans ((below_step HNB.out hb3).mono HB2.out.size))
  have HZ3 := Lib.hid (HZ2.out.below (below_step HNB.out hb3) HZ2.out.lt)
  clear hrun hrd hb3 HB2 HZ2 HN HNB hrr hl'
  go_wp2_with (first
    | refine wpList_madeN rfl _ _ (build_one_run HMO.out.1 rfl rfl) ?_
    | refine wpList_madeN rfl _ _ (op_append rfl rfl rfl HRUN.out) ?_)
  have HLL : Hid (∀ b ∈ m :: l, okb b) := Lib.hid fun b hb => by
    rcases List.mem_cons.1 hb with rfl | hb
    · exact HMO.out
    · exact HLO.out b hb
  refine (xor_rd HLL.out (by simp; omega) HRD.out).mono ?_
  rintro e w4 ⟨_, rfl, rfl, hb4⟩
  have HZ5 := Lib.hid (HZ3.out.below hb4 HZ3.out.lt)
  have HB5 := Lib.hid (HB3.out.trans (hb4.mono HB3.out.size))
  clear hb4 HZ3 HB3 HRUN HRD
  obtain ⟨z, hzz⟩ : ∃ z, z = xB (m :: l) := ⟨_, rfl⟩
  have HSZ : Hid ((wq z).size = 128) := Lib.hid (by rw [wq_size, hzz]; exact (xB_ok _ HLL.out).1)
  rw [← hzz]
  have HZZ := Lib.hid hzz
  clear hzz
  go_wp2_with (refine wpList_store_row rfl 83 (.tmp 6) (.tmp 13) rfl (w.heap.size + 1 + 1) (wq z) rfl rfl 83 _ HZ5.out (by rw [HSZ.out]; exact b_size) (by rw [HSZ.out]; rfl) (wq_one _) ?_)
  have hR := RowAt.setRow HZ5.out (wq z)
  refine bodyPost_ret (v := .agg (wq z)) (results_cell_row rfl _ _ (w.heap.size + 1 + 1) 83 (wq z) (0, 0) _ rfl hR Tryz.underlying83 rfl (by rw [HSZ.out]; exact b_size)) rfl ⟨by rw [HZZ.out, HMM.out], ?_⟩
  exact below_setRow HB5.out (by omega) _
end Go.Proofs.YtfoodaobiknihaaGreatDoor
