/- The document's Mix by its contract. Conditions: those typed. -/
import Derived.Test.YtlifpplhinmajaaGreatDoorSf
import Derived.Test.YtlifpplhinmajaaGreatDoorRl
import Derived.Test.YtlifpplhinmajaaGreatDoorFh
import Derived.Great.BuildSlice
import Derived.Deep.LoopGhost
import Derived.WalkMore
import Derived.Maps.AppendAt
import Derived.Deep.Onto
namespace Go.Proofs.YtlifpplhinmajaaGreatDoor
set_option maxRecDepth 50000
open Go.RowKit Rot Sl Sf

/-- the first k words put to their places -/
def setTo (ws : List Nat) : Nat → List Nat
  | 0 => List.replicate 16 0
  | k + 1 => (setTo ws k).set k (ws.getD k 0)
theorem setTo_length (ws : List Nat) : ∀ k, (setTo ws k).length = 16
  | 0 => by simp [setTo]
  | k + 1 => by rw [setTo, List.length_set, setTo_length ws k]
theorem setTo_all (ws : List Nat) (h : ws.length = 16) : setTo ws 16 = ws := by
  match ws, h with
  | [_, _, _, _, _, _, _, _, _, _, _, _, _, _, _, _], _ => rfl

theorem w16_info : (Tryz.prog.info? 128).map (fun i => (i.zero, i.size, i.bytes)) = some (some (.agg (wd (List.replicate 16 0))), 16, 64) := by kernel_rfl
theorem ru32_info : (Tryz.prog.info? 36).map (fun i => (i.zero, i.size, i.bytes)) = some (some (.int .u32 0), 1, 4) := by kernel_rfl
theorem z16_cells : (Value.agg (wd (List.replicate 16 0))).cells.size = 16 := by simp [Value.cells, wd_size]
theorem fold_cells : ∀ (l : List Value) (off : Nat) (cs : Array Value), off + l.length ≤ cs.size → (l.zipIdx off).foldl (fun (cs : Array Value) (x : Value × Nat) => cs.setIfInBounds x.2 x.1) cs = (cs.toList.take off ++ l ++ cs.toList.drop (off + l.length)).toArray
  | [], off, cs, _ => by simp
  | x :: l, off, cs, h => by
    rw [List.zipIdx_cons, List.foldl_cons, fold_cells l (off + 1) _ (by simp at h ⊢; omega)]
    simp only [List.length_cons] at h
    congr 1
    rw [Array.toList_setIfInBounds]
    have h1 : (cs.toList.set off x).take (off + 1) = cs.toList.take off ++ [x] := by
      rw [List.take_add_one, List.getElem?_set_self (by simp; omega), List.take_set_of_le (Nat.le_refl _)]; rfl
    have h2 : (cs.toList.set off x).drop (off + 1 + l.length) = cs.toList.drop (off + (x :: l).length) := by
      rw [List.drop_set_of_lt (by omega), List.length_cons, show off + 1 + l.length = off + (l.length + 1) by omega]
    rw [h1, h2]
    simp
theorem fill_one {x : List Nat} (hx : x.length = 16) (cs : Array Value) (hcs : cs.size = 16) : Instr.fill (fun i => some (i * 16, 16)) cs [(0, .agg (wd x))] = some (wd x) := by
  have hsz : (wd x).size = 16 := by rw [wd_size]; exact hx
  have e : (Value.agg (wd x)).cells = wd x := rfl
  simp only [Instr.fill, e, hsz, Nat.zero_mul, Nat.zero_add]
  rw [if_neg (by simp; omega)]
  congr 1
  have := fold_cells (wd x).toList 0 cs (by simp [hsz]; omega)
  rw [← Array.foldl_toList, Array.toList_zipIdx, this]
  rw [List.take_zero, List.nil_append, List.drop_of_length_le (by simp [hsz, hcs]), List.append_nil, Array.toArray_toList]

theorem build_one {x : List Nat} (hx : x.length = 16) (w : World) : (Instr.buildSlice 129 1 #[(0, .agg (wd x))]).run Tryz.prog w = .ok (.slice (some ⟨w.heap.size, 0, none⟩) 1 1) (w.alloc (.cells (wd x) 128)) := by
  obtain ⟨i, hi, hz, hs, hby⟩ := info_parts w16_info
  refine run_buildSlice w _ _ 1 _ (wd x) i _ Tryz.underlying129 hi hz (by rw [hs]; decide) (by rw [hs]; decide) ?_
  rw [hs]
  exact fill_one hx _ (by simp)
theorem u32s_app (l k : List Nat) : u32s (l ++ k) = u32s l ++ u32s k := by unfold u32s; rw [List.map_append]
theorem take_next (y : List Nat) (k : Nat) (hk : k < y.length) : y.take (k + 1) = y.take k ++ [y.getD k 0] := by
  rw [List.take_add_one, List.getElem?_eq_getElem hk, List.getD_eq_getElem?_getD, List.getElem?_eq_getElem hk]; rfl
/-- a row of arrays, by its cells -/
theorem own_cells16 {w : World} {N : Nat} {A : Option Addr} {i c : Nat} {e : TypeId} {L : List Nat} (h : w.ownsRow N e 16 (.slice A i c) i (u32s L)) (hi : 0 < i) (hl : L.length = 16 * i) :
    ∃ g, A = some ⟨g, 0, none⟩ ∧ g < w.heap.size ∧ ∀ q, q < 16 * i → w.cell? ⟨g, q, none⟩ = some (.int .u32 (L.getD q 0 : Nat)) := by
  have h' := h
  rcases h.2 with ⟨_, h0⟩ | ⟨g, cap, cur, e, _, hg, _⟩
  · omega
  · cases e
    refine ⟨g, rfl, (Array.getElem?_eq_some_iff.1 hg).1, fun q hq => ?_⟩
    rw [h'.cellAt q (by omega), List.getElem?_eq_getElem (by rw [u32s_length]; omega), u32_at, List.getD_eq_getElem?_getD, List.getElem?_eq_getElem (by omega)]
    rfl
theorem own_slice {w : World} {base : Nat} {e : TypeId} {size : Nat} {v : Value} {n : Nat} {xs : List Value} (h : w.ownsRow base e size v n xs) : ∃ A c, v = .slice A n c := by
  rcases h.2 with ⟨rfl, rfl⟩ | ⟨g, cap, cur, rfl, _⟩
  · exact ⟨_, _, rfl⟩
  · exact ⟨_, _, rfl⟩
/-- a list of one, whatever it is -/
theorem wpList_build_of {P : Program} {ops : Array Oper} {rest : List Oper} {o : Oper} {a : Act} {w w' : World} {Q : Exit → Act → World → Prop} (hgd : o.guard = none) (t : TypeId) (x : Operand) (ho : o.op = .buildSlice t 1 #[(0, x)]) (vx v : Value) (hx : a.eval x = vx)
    (hr : (Instr.buildSlice t 1 #[(0, vx)]).run P w = .ok v w') (h : wpList P ops Q rest (a.put o.dst v) w') : wpList P ops Q (o :: rest) a w := wpList_plain hgd fun _ hK => by
  unfold Oper.wp execOp
  simp only [ho, List.map_toArray, List.map_cons, List.map_nil, hx, Sem.run_bind, hr, Result.andThen_ok]
  exact hK _ _ h
/-- what is owned stays so below a call -/
theorem own_under {w w' : World} {base : Nat} {e : TypeId} {size : Nat} {v : Value} {n : Nat} {xs : List Value} (h : w.ownsRow base e size v n xs) (hb : Below w.heap.size w w') : w'.ownsRow base e size v n xs := by
  obtain ⟨h1, h2⟩ := h
  refine ⟨h1, ?_⟩
  rcases h2 with h2 | ⟨g', cap, cur, hv, hg', hh, r⟩
  · exact Or.inl h2
  · exact Or.inr ⟨g', cap, cur, hv, hg', (hb.block g' (Array.getElem?_eq_some_iff.1 hh).1).trans hh, r⟩
/-- what is owned above stays so while a row below is put -/
theorem own_setRow_below {w : World} {base : Nat} {e : TypeId} {size : Nat} {v : Value} {n : Nat} {xs : List Value} (h : w.ownsRow base e size v n xs) {g : Nat} (hg : g < base) (C : Array Value) : (w.setRow g C).ownsRow base e size v n xs := by
  obtain ⟨h1, h2⟩ := h
  refine ⟨h1, ?_⟩
  rcases h2 with h2 | ⟨g', cap, cur, hv, hg', hh, r⟩
  · exact Or.inl h2
  · exact Or.inr ⟨g', cap, cur, hv, hg', by rw [setRow_other _ _ _ _ (by omega)]; exact hh, r⟩

set_option maxHeartbeats 6400000 in
theorem rmix_any (r : Nat) (h1 : 1 ≤ r) (h2 : r ≤ 512) (A : Option Addr) (n c : Nat) (l : List Nat) (hl : l.length = n) (hn : n = 32 * r) (ho : okw l) (w : World) (hr : Reads w w.heap.size A (u32s l)) :
    Calls Tryz.prog 55 #[.int .i64 (r : Int), .slice A n c] w fun e w' => ∃ v, e = .returned v ∧ w'.ownsRow w.heap.size 36 1 v n (u32s (ot l r (2 * r))) ∧ Below w.heap.size w w' := by
  obtain ⟨b, hb⟩ : ∃ b, 2 * r = b := ⟨_, rfl⟩
  have HB := Lib.hid hb
  have HN := Lib.hid hn
  have HO := Lib.hid ho
  obtain ⟨g, o, rfl, hg, hc⟩ := reads_words hr (by omega)
  have HC : Hid (∀ wr, Below w.heap.size w wr → ∀ k, k < n → wr.cell? ⟨g, o + k, none⟩ = some (.int .u32 (l.getD k 0 : Nat))) := Lib.hid fun wr hb k hk => (hb.cell (p := ⟨g, o + k, none⟩) hg).trans (hc k (by omega))
  have HSL := Lib.hid (st_length l (by omega))
  have HSO := Lib.hid fun i => st_ok ho i
  have HLL := Lib.hid hl
  have hbb : b ≤ 1024 := by omega
  have hnb : n ≤ 16384 := by omega
  have hn16 : n = 16 * b := by omega
  have HN16 := Lib.hid hn16
  obtain ⟨m, hm⟩ : ∃ m, n = m + 16 := ⟨n - 16, by omega⟩
  have HM := Lib.hid hm
  have em : (n : Int) - 16 = (m : Int) := by omega
  have e2r : (2 : Int) * (r : Int) = (b : Int) := by omega
  have H2 := Lib.hid h2
  obtain ⟨iu, hiu, hzu, hsu, hbu⟩ := info_parts ru32_info
  have HR1 := Lib.hid h1
  obtain ⟨i16, hi16, hz16, hs16, hb16⟩ := info_parts w16_info
  have hmb : m ≤ 16384 := by omega
  have HR := Lib.hid (RowAt.new w 128 (wd (List.replicate 16 0)))
  have HBW := Lib.hid ((Below.refl _ w).alloc (Nat.le_refl _) (.cells (wd (List.replicate 16 0)) 128))
  rw [hb]
  clear hr hc hg ho hl hn hb h1 hn16 hm h2
  go_enter Tryz.func55, Tryz.ntmps55
  go_wp2
  obtain ⟨X, hX⟩ : ∃ X, X = w.heap.size := ⟨_, rfl⟩
  rw [← hX] at HR HBW HC ⊢
  generalize hW : World.alloc _ _ = w1
  have HX1 : Hid (RowAt w1 X 128 (wd (setTo (lst l) 0)) ∧ Below X w w1) := Lib.hid (by subst hW; exact ⟨HR.out, HBW.out⟩)
  clear hW HR HBW
  have HXW := Lib.hid hX
  clear hX
  go_loopw [6] (fun v6 wr => ∃ k : Nat, k ≤ 16 ∧ v6 = .int .i64 (k : Int) ∧ RowAt wr X 128 (wd (setTo (lst l) k)) ∧ Below X w wr) (fun v6 _ => 16 - (intOf v6).toNat)
  case atStart => exact ⟨0, by omega, rfl, HX1.out⟩
  case round =>
    clear HX1
    obtain ⟨k, hk, rfl, R, hb⟩ := hrel
    have HX := Lib.hid (And.intro R hb)
    by_cases h6 : k < 16
    · have hd : decide ((k : Int) < 16) = true := by simp; omega
      have hsl := setTo_length (lst l) k
      have dj := HC.out wr hb (m + k) (by have := HM.out; omega)
      have cj := (R.cell k).trans (wd_at _ k (by omega))
      have fj := R.frozen k
      have hel : l.getD (m + k) 0 = (lst l).getD k 0 := by
        rw [lst_at, HLL.out, show n - 16 = m by have := HM.out; omega]
      have HF : Hid (setTo (lst l) (k + 1) = (setTo (lst l) k).set k (l.getD (m + k) 0)) := Lib.hid (by rw [hel]; rfl)
      have e1 : (m : Int) + (k : Int) = ((m + k : Nat) : Int) := by omega
      have hq : m + k < n := by have := HM.out; omega
      generalize l.getD (m + k) 0 = v at *
      generalize setTo (lst l) k = z at *
      generalize z.getD k 0 = u at *
      generalize m + k = q at *
      have hj0 : (0 : Int) ≤ (k : Int) := by omega
      have hj6 : (k : Int) < 16 := by omega
      have hq0 : (0 : Int) ≤ (q : Int) := by omega
      have hq6 : (q : Int) < (n : Int) := by omega
      have hqb : q ≤ 20000 := by omega
      clear R hb hsl hel
      go_wp2
      go_roundw
      case rel => exact ⟨k + 1, by omega, by go_num, by rw [HF.out, ← wd_set]; exact HX.out.1.setCell k _, HX.out.2.setCell (Nat.le_refl _) _⟩
      case measure => simp [intOf]; omega
    · obtain rfl : k = 16 := by omega
      have hd : decide (((16 : Nat) : Int) < 16) = false := by simp
      rw [setTo_all (lst l) (HSL.out 0)] at R
      have HX2 := Lib.hid (show RowAt wr X 128 (wd (st l 0)) ∧ Below X w wr from ⟨R, hb⟩)
      clear R hb HX
      go_wp2
      clear em
      rw [show ((16 : Nat) : Int) = 16 from rfl]
      go_loopg [7, 8, 9] b (fun gh v7 v8 _ wq => ∃ (i c : Nat) (A : Option Addr), i + gh = b ∧ v8 = .int .i64 (i : Int) ∧ v7 = .slice A i c ∧ RowAt wq X 128 (wd (st l i)) ∧ wq.ownsRow (X + 1) 128 16 (.slice A i c) i (u32s (al l i)) ∧ Below X w wq)
      case atStart => exact ⟨0, 0, none, by omega, rfl, rfl, HX2.out.1, World.ownsRow_nil _ _ _ _, HX2.out.2⟩
      case round =>
        clear HX2
        obtain ⟨i, c2, A2, hig, rfl, rfl, R, hown, hb⟩ := hrel
        by_cases h : i < b
        · obtain ⟨g2, rfl⟩ : ∃ g2, gk = g2 + 1 := ⟨gk - 1, by omega⟩
          have hdt : decide ((i : Int) < (b : Int)) = true := by simp; omega
          have HN1 : Hid (st l (i + 1) = core (xr (st l i) l (16 * i) 16) 4) := Lib.hid rfl
          have HA1 : Hid (al l (i + 1) = al l i ++ st l (i + 1)) := Lib.hid rfl
          have HXL := Lib.hid (HSL.out i)
          have HYL := Lib.hid (HSL.out (i + 1))
          have HXO := Lib.hid (HSO.out i)
          have HX := Lib.hid (And.intro R (And.intro hown hb))
          generalize al l i = L at *
          generalize st l i = x at *
          have HIG := Lib.hid hig
          clear R hown hb hig
          go_wp2
          go_loopw [9] (fun v9 wr => ∃ k : Nat, k ≤ 16 ∧ v9 = .int .i64 (k : Int) ∧ RowAt wr X 128 (wd (xr x l (16 * i) k)) ∧ wr.ownsRow (X + 1) 128 16 (.slice A2 i c2) i (u32s L) ∧ Below X w wr) (fun v9 _ => 16 - (intOf v9).toNat)
          case atStart => exact ⟨0, by omega, rfl, HX.out⟩
          case round =>
            clear HX
            obtain ⟨k, hk, rfl, R, hown, hb⟩ := hrel
            have HX := Lib.hid (And.intro R (And.intro hown hb))
            by_cases h6 : k < 16
            · have hd : decide ((k : Int) < 16) = true := by simp; omega
              have cj := (R.cell k).trans (wd_at _ k (by rw [xr_length, HXL.out]; exact h6))
              rw [xr_at x l (16 * i) k k (Nat.le_refl _)] at cj
              have dj := HC.out wr hb (16 * i + k) (by have := HN16.out; omega)
              have HF : Hid (xr x l (16 * i) (k + 1) = (xr x l (16 * i) k).set k (x.getD k 0 ^^^ l.getD (16 * i + k) 0)) := Lib.hid rfl
              have hv := xor32 (x.getD k 0) (l.getD (16 * i + k) 0) (HXO.out.at_ _) (HO.out.at_ _)
              have e1 : 16 * (i : Int) = ((16 * i : Nat) : Int) := by omega
              have e2 : ((16 * i : Nat) : Int) + (k : Int) = ((16 * i + k : Nat) : Int) := by omega
              have hq : 16 * i + k < n := by have := HN16.out; omega
              generalize x.getD k 0 = u at *
              generalize l.getD (16 * i + k) 0 = v at *
              generalize u ^^^ v = s at *
              generalize xr x l (16 * i) k = z at *
              generalize 16 * i + k = q at *
              obtain ⟨f, hf⟩ : ∃ f, 16 * i = f := ⟨_, rfl⟩
              rw [hf] at e1 e2 HF
              have HFE := Lib.hid hf
              clear hf
              have hj0 : (0 : Int) ≤ (k : Int) := by omega
              have hj6 : (k : Int) < 16 := by omega
              have hq0 : (0 : Int) ≤ (q : Int) := by omega
              have hq6 : (q : Int) < (n : Int) := by omega
              have hfb : f ≤ 100000 := by omega
              have hwf : IntKind.i64.wrap (f : Int) = (f : Int) := IntWalk.i64_in _ (by omega)
              have hwq : IntKind.i64.wrap (q : Int) = (q : Int) := IntWalk.i64_in _ (by omega)
              have k1 : ∀ tp d os out, (World.mk wr.heap tp d os out).cell? ⟨X, k, none⟩ = some (.int .u32 (u : Int)) := fun _ _ _ _ => cj
              have k2 : ∀ tp d os out, (World.mk wr.heap tp d os out).cell? ⟨g, o + q, none⟩ = some (.int .u32 (v : Int)) := fun _ _ _ _ => dj
              clear cj dj R hown hb
              go_wp2
              refine wp_region_still_tail 13 (by kernel_rfl) (by kernel_rfl) ?_
              simp only [List.take_succ_cons, List.take_zero, List.drop_succ_cons, List.drop_zero]
              repeat still_step
              refine wpStill_nil ?_
              change wpList _ _ _ _ _ wr.drew
              have HD := Lib.hid (And.intro HX.out.1.drew (And.intro HX.out.2.1.drew HX.out.2.2.drew))
              have fk : wr.drew.frozen? ⟨X, k, none⟩ = false := HX.out.1.drew.frozen k
              have ck : wr.drew.cell? ⟨X, k, none⟩ = some (.int .u32 (u : Int)) := k1 _ _ _ _
              clear k1 k2 HX
              generalize wr.drew = w4 at *
              go_wp2
              go_roundw
              case rel =>
                obtain ⟨R, hown, hb⟩ := HD.out
                refine ⟨k + 1, by omega, by go_num, ?_, ownsRow_setCell_below (a := ⟨X, k, none⟩) hown (Nat.lt_succ_self X) _, hb.setCell (Nat.le_refl _) _⟩
                rw [HFE.out, HF.out, ← wd_set]
                exact R.setCell k _
              case measure => simp [intOf]; omega
            · obtain rfl : k = 16 := by omega
              have hd : decide (((16 : Nat) : Int) < 16) = false := by simp
              have hzl : (xr x l (16 * i) 16).length = 16 := by rw [xr_length]; exact HXL.out
              have CE := Lib.hid (rcore_any (xr x l (16 * i) 16) hzl (xr_ok HXO.out HO.out _ _) 4 (by decide) wr)
              rw [← HN1.out] at CE
              generalize xr x l (16 * i) 16 = z at *
              obtain ⟨y, hy⟩ : ∃ y, st l (i + 1) = y := ⟨_, rfl⟩
              have HY := Lib.hid hy
              rw [hy] at CE HYL HA1
              have HZS := Lib.hid (show (wd z).size = 16 by rw [wd_size]; exact hzl)
              have HYS := Lib.hid (show (wd y).size = 16 by rw [wd_size]; exact HYL.out)
              clear hzl hy R hown hb
              go_wp2_with (refine wpList_load_row rfl 128 (.tmp 5) rfl X rfl 128 (wd z) (0, 0) _ HX.out.1 Tryz.underlying128 rfl (by rw [HZS.out]; exact size_16) ?_)
              refine CE.out.mono ?_
              rintro e w2 ⟨rfl, hb⟩
              have HX2 := Lib.hid (And.intro (HX.out.1.below hb HX.out.1.lt) (And.intro (own_under HX.out.2.1 hb) (HX.out.2.2.trans (hb.mono (Nat.le_of_lt HX.out.1.lt)))))
              clear hb HX CE
              have RY := Lib.hid (HX2.out.1.setRow (wd y))
              have BY := Lib.hid (HX2.out.2.2.trans (below_setRow (Below.refl X w2) (Nat.le_refl _) (wd y)))
              have OY := Lib.hid (own_setRow_below HX2.out.2.1 (Nat.lt_succ_self X) (wd y))
              have OZ := Lib.hid (World.ownsRow.alloc OY.out (.cells (wd y) 128))
              have NZ := Lib.hid (RowAt.new (w2.setRow X (wd y)) 128 (wd y))
              have BZ := Lib.hid (BY.out.alloc (by rw [setRow_size]; exact Nat.le_of_lt HX2.out.1.lt) (.cells (wd y) 128))
              have RZ := Lib.hid (RY.out.alloc (.cells (wd y) 128))
              have HIB := Lib.hid h
              have hib : i ≤ 1024 := by omega
              clear h hdt hd
              go_wp2_with (first
                | refine wpList_store_row rfl 128 (.tmp 5) (.tmp 52) rfl X (wd y) rfl rfl 128 _ HX2.out.1 (by rw [HYS.out]; exact size_16) (by rw [HYS.out, HZS.out]) (wd_one _) ?_
                | (refine wpList_load_row rfl 128 (.tmp 5) rfl X rfl 128 (wd y) (0, 0) _ RY.out Tryz.underlying128 rfl (by rw [HYS.out]; exact size_16) ?_; refine wpList_build_of rfl 129 (.tmp 54) rfl (.agg (wd y)) _ rfl (build_one HYL.out _) ?_; refine wpList_append_own_at _ rfl (.tmp 53) (.tmp 55) 129 rfl (X + 1) 128 i16 _ 16 64 Tryz.underlying129 hi16 hz16 hs16 hb16 z16_cells (by decide) _ _ _ rfl OZ.out ⟨_, 0, none⟩ 1 1 (u32s y) rfl ?d1 ?d2 ?d3 ?d4 ?d5 ?d6 ?_))
              case d1 => rw [u32s_length, HYL.out]
              case d2 =>
                intro j u hj
                have hadd : ∀ N, (⟨N, 0, none⟩ : Addr).add j = ⟨N, j, none⟩ := fun N => by unfold Addr.add; split <;> simp_all
                rw [hadd, NZ.out.cell j]
                simpa [wd] using hj
              case d3 =>
                intro u hu
                simp only [u32s, List.mem_map] at hu
                obtain ⟨x, _, rfl⟩ := hu
                rfl
              case d4 => unfold maxLen; omega
              case d5 => omega
              case d6 => exact RZ.out.lt
              intro v' w5 hown5 hgr _ _
              rw [← u32s_app, ← HA1.out] at hown5
              have hb5 := (Below.refl (X + 1) _).grown hgr RZ.out.lt (fun k hk => (OZ.out.lt k hk).1)
              obtain ⟨A5, c5, rfl⟩ := own_slice hown5
              have HX5 := Lib.hid (And.intro (RZ.out.below hb5 (Nat.lt_succ_self X)) (And.intro hown5 (BZ.out.trans (hb5.mono (Nat.le_succ X)))))
              clear hown5 hgr hb5 OZ NZ BZ RZ RY BY OY HX2
              go_wp2
              go_roundg g2
              case measure => have := HIG.out; omega
              case rel =>
                obtain ⟨e1, e2, e3⟩ := HX5.out
                refine ⟨i + 1, c5, A5, by have := HIG.out; omega, by go_num, rfl, ?_, e2, e3⟩
                rw [HY.out]; exact e1
        · obtain rfl : i = b := by omega
          have hdt : decide ((i : Int) < (i : Int)) = false := by simp
          obtain ⟨GA, rfl, hga, hal⟩ := own_cells16 hown (by have := HB.out; have := HR1.out; omega) (al_length l (by have := HLL.out; have := HM.out; omega) i)
          have HBX := Lib.hid hb
          have HAL : Hid (∀ wq, Below wr.heap.size wr wq → ∀ j k, j < i → k < 16 → wq.cell? ⟨GA, j * 16 + k, none⟩ = some (.int .u32 ((st l (j + 1)).getD k 0 : Nat))) := Lib.hid fun wq hq j k hj hk => by
            rw [← al_at l (by have := HLL.out; have := HM.out; omega) j k hk i hj, Nat.mul_comm j 16, ← hal (16 * j + k) (by omega)]
            exact hq.cell (p := ⟨GA, 16 * j + k, none⟩) hga
          clear R hown hb hal hga e2r
          obtain ⟨N, hN⟩ : ∃ N, N = wr.heap.size := ⟨_, rfl⟩
          have HNW := Lib.hid hN
          clear hN
          have e2r : (2 : Int) * (r : Int) = (i : Int) := by have := HB.out; omega
          have HX : Hid (N ≤ wr.heap.size) := Lib.hid (by have := HNW.out; omega)
          obtain ⟨wP, hwP⟩ : ∃ wP, wP = wr := ⟨_, rfl⟩
          subst hwP
          go_wp2
          go_loopg [10, 11, 12, 13] 2 (fun gh v10 v11 _ _ wq => ∃ (d n' c' : Nat) (A' : Option Addr), d + gh = 2 ∧ v11 = .int .i64 (d : Int) ∧ v10 = .slice A' n' c' ∧ n' = 16 * (d * r) ∧ wq.ownsRow N 36 1 (.slice A' n' c') n' (u32s (ot l r (d * r))) ∧ Below N wP wq)
          case atStart => exact ⟨0, 0, 0, none, by omega, rfl, rfl, by omega, by rw [Nat.zero_mul]; exact World.ownsRow_nil _ _ _ _, Below.refl _ _⟩
          case round =>
            obtain ⟨d, n1, c1, A1, hdg, rfl, rfl, hn1, hown, hb⟩ := hrel
            by_cases h : d < 2
            · obtain ⟨g2, rfl⟩ : ∃ g2, gk = g2 + 1 := ⟨gk - 1, by omega⟩
              have hdl : decide ((d : Int) < 2) = true := by simp; omega
              have HDG := Lib.hid (And.intro hdg h)
              have HST := Lib.hid (And.intro hn1 (And.intro hown hb))
              clear hdg hn1 hown hb
              go_wp2
              go_loopg [10, 12, 13] r (fun gh v10 v12 _ wq => ∃ (j n' c' : Nat) (A' : Option Addr), j + gh = r ∧ v12 = .int .i64 ((2 * j + d : Nat) : Int) ∧ v10 = .slice A' n' c' ∧ n' = 16 * (d * r + j) ∧ wq.ownsRow N 36 1 (.slice A' n' c') n' (u32s (ot l r (d * r + j))) ∧ Below N wP wq)
              case atStart => exact ⟨0, n1, c1, A1, by omega, by rw [Nat.mul_zero, Nat.zero_add], rfl, HST.out.1, HST.out.2.1, HST.out.2.2⟩
              case round =>
                clear HST
                obtain ⟨j, n2, c2, A2, hjg, rfl, rfl, hn2, hown, hb⟩ := hrel
                by_cases hj : j < r
                · obtain ⟨g3, rfl⟩ : ∃ g3, gk = g3 + 1 := ⟨gk - 1, by omega⟩
                  obtain ⟨q, hq⟩ : ∃ q, 2 * j + d = q := ⟨_, rfl⟩
                  rw [hq]
                  have hqi : q < i := by have := HB.out; have := HDG.out; omega
                  have hqd : decide ((q : Int) < (i : Int)) = true := by simp; omega
                  have HQ := Lib.hid hq
                  have HJ := Lib.hid (And.intro hjg (And.intro hj hqi))
                  have HS : Hid (ot l r (d * r + j + 1) = ot l r (d * r + j) ++ st l (q + 1)) := Lib.hid (by
                    rw [ot, show src r (d * r + j) = q by
                      have hd := HDG.out.2
                      unfold src
                      rcases (show d = 0 ∨ d = 1 by omega) with e | e <;> subst e <;> split <;> omega])
                  have HYL := Lib.hid (HSL.out (q + 1))
                  have HYO := Lib.hid (HSO.out (q + 1))
                  have HCY := Lib.hid fun wq hw k hk => HAL.out wq hw q k hqi hk
                  have HST := Lib.hid (And.intro hn2 (And.intro hown hb))
                  have hnb2 : n2 ≤ 16 * 1024 := by
                    have h1 : d * r ≤ 1 * r := Nat.mul_le_mul_right r (by have := HDG.out; omega)
                    have := H2.out; omega
                  have HNB := Lib.hid hnb2
                  have HN2 := Lib.hid hn2
                  obtain ⟨y, hy⟩ : ∃ y, st l (q + 1) = y := ⟨_, rfl⟩
                  rw [hy] at HS HYL HYO HCY
                  clear hq hjg hown hb hn2 hj hnb2 hy
                  go_wp2
                  go_loopg [10, 13] 16 (fun gh v10 v13 wq => ∃ (k n' c' : Nat) (A' : Option Addr), k + gh = 16 ∧ v13 = .int .i64 (k : Int) ∧ v10 = .slice A' n' c' ∧ n' = n2 + k ∧ wq.ownsRow N 36 1 (.slice A' n' c') n' (u32s (ot l r (d * r + j) ++ y.take k)) ∧ Below N wP wq)
                  case atStart => exact ⟨0, n2, c2, A2, by omega, rfl, rfl, by omega, by rw [List.take_zero, List.append_nil]; exact HST.out.2.1, HST.out.2.2⟩
                  case round =>
                    clear HST
                    obtain ⟨k, n3, c3, A3, hkg, rfl, rfl, hn3, hown, hb⟩ := hrel
                    by_cases hk : k < 16
                    · obtain ⟨g4, rfl⟩ : ∃ g4, gk = g4 + 1 := ⟨gk - 1, by omega⟩
                      have hkd : decide ((k : Int) < 16) = true := by simp; omega
                      have ck := HCY.out wr (by have := HNW.out; rw [← this]; exact hb) k hk
                      have hx := HYO.out.at_ k
                      have HT := Lib.hid (take_next y k (by rw [HYL.out]; exact hk))
                      have HST := Lib.hid (And.intro hn3 (And.intro hown hb))
                      have HKG := Lib.hid hkg
                      generalize y.getD k 0 = x at *
                      have hq0 : (0 : Int) ≤ (q : Int) := by omega
                      have hq1 : (q : Int) < (i : Int) := by omega
                      have hk0 : (0 : Int) ≤ (k : Int) := by omega
                      have hk1 : (k : Int) < 16 := by omega
                      have hn3b : n3 ≤ 20000 := by have := HNB.out; omega
                      clear hown hb hkg hn3
                      have hN2 : N ≤ wr.heap.size := by have := HNW.out; have := HST.out.2.2.size; omega
                      have OA := Lib.hid (World.ownsRow.alloc HST.out.2.1 (.cells #[.int .u32 (x : Int)] 36))
                      have BA := Lib.hid (HST.out.2.2.alloc hN2 (.cells #[.int .u32 (x : Int)] 36))
                      have hN3 : N ≤ (wr.alloc (.cells #[.int .u32 (x : Int)] 36)).heap.size := by rw [World.size_alloc]; omega
                      have HN3 := Lib.hid hN3
                      clear hN2 hN3
                      go_wp2_with (at_builtin; refine wpList_append_own _ rfl (.tmp 72) (.tmp 79) 63 rfl N 36 iu (.int .u32 0) 1 4 Tryz.underlying63 hiu hzu hsu hbu rfl (by decide) _ _ _ rfl OA.out ⟨wr.heap.size, 0, none⟩ 1 1 [.int .u32 (x : Int)] rfl rfl ?d1 ?d2 ?d3 ?d4 ?d5 ?_)
                      case d1 => exact cell_one_new _ _ _
                      case d2 =>
                        intro u hu
                        obtain rfl := List.mem_singleton.1 hu
                        rfl
                      case d3 => unfold maxLen; omega
                      case d4 => omega
                      case d5 => exact HN3.out
                      intro v' w6 hown6 hgr _
                      have hb6 := BA.out.grown hgr HN3.out (fun k hk => (OA.out.lt k hk).1)
                      have e6 : u32s (ot l r (d * r + j) ++ y.take k) ++ [.int .u32 (x : Int)] = u32s (ot l r (d * r + j) ++ y.take (k + 1)) := by
                        rw [HT.out, ← List.append_assoc, u32s_app _ [x]]; rfl
                      rw [e6] at hown6
                      obtain ⟨A6, c6, rfl⟩ := own_slice hown6
                      have HX6 := Lib.hid (And.intro hown6 hb6)
                      clear hown6 hgr hb6 e6 OA BA
                      go_wp2
                      go_roundg g4
                      case measure => have := HKG.out; omega
                      case rel => exact ⟨k + 1, n3 + 1, c6, A6, by have := HKG.out; omega, by go_num, rfl, by have := HST.out.1; omega, HX6.out.1, HX6.out.2⟩
                    · obtain rfl : k = 16 := by omega
                      have hkd : decide (((16 : Nat) : Int) < 16) = false := by simp
                      rw [List.take_of_length_le (by rw [HYL.out]; exact Nat.le_refl 16), ← HS.out] at hown
                      have HX6 := Lib.hid (And.intro hn3 (And.intro hown hb))
                      clear hown hb hkg hn3
                      obtain ⟨q2, hq2⟩ : ∃ q2, q + 2 = q2 := ⟨_, rfl⟩
                      have e12 : (q : Int) + 2 = (q2 : Int) := by omega
                      have HQ2 := Lib.hid hq2
                      have hqb2 : q2 ≤ 5000 := by omega
                      clear hq2
                      go_wp2
                      go_roundg g3
                      case measure => have := HJ.out; omega
                      case rel =>
                        have h1 := HJ.out
                        have h2 := HQ.out
                        have h3 := HQ2.out
                        have h4 := HN2.out
                        have h5 := HX6.out.1
                        refine ⟨j + 1, n3, c3, A3, by omega, ?_, rfl, by omega, HX6.out.2.1, HX6.out.2.2⟩
                        rw [show 2 * (j + 1) + d = q2 by omega]
                · obtain rfl : j = r := by omega
                  obtain ⟨q, hq⟩ : ∃ q, 2 * j + d = q := ⟨_, rfl⟩
                  rw [hq]
                  have hqd : decide ((q : Int) < (i : Int)) = false := by have := HB.out; simp; omega
                  have hqn : i ≤ q := by have := HB.out; omega
                  have hqb2 : q ≤ 5000 := by have := HDG.out; have := H2.out; omega
                  have HX6 := Lib.hid (And.intro hn2 (And.intro hown hb))
                  clear hq hn2 hown hb hjg hj
                  go_wp2
                  go_roundg g2
                  case measure => have := HDG.out; omega
                  case rel =>
                    obtain ⟨x1, x2, x3⟩ := HX6.out
                    exact ⟨d + 1, n2, c2, A2, by have := HDG.out; omega, by go_num, rfl, by rw [Nat.add_mul, Nat.one_mul]; exact x1, by rw [Nat.add_mul, Nat.one_mul]; exact x2, x3⟩
            · obtain rfl : d = 2 := by omega
              have hdl : decide (((2 : Nat) : Int) < 2) = false := by simp
              have hb2 := HB.out
              rw [hb2] at hn1 hown
              obtain rfl : n1 = n := by have := HN16.out; omega
              have HX6 := Lib.hid (And.intro hown hb)
              clear hn1 hown hb hdg hb2
              go_wp2
              go_ret
              have x0 := HXW.out
              have x1 := HNW.out
              have x2 := HBX.out.size
              refine ⟨_, rfl, World.ownsRow.mono HX6.out.1 (by omega), ?_⟩
              rw [← x0]
              exact HBX.out.trans (HX6.out.2.mono (by omega))
end Go.Proofs.YtlifpplhinmajaaGreatDoor
