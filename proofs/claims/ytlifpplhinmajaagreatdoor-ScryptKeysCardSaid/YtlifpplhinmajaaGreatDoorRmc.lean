/- Mix of package romix, by its contract: a row is mixed by way of others, or it is told why not. Conditions: those typed. Lists of rows of words: a list of one's own, put behind, stored into, read. Conditions: those typed. -/
import Derived.Test.YtlifpplhinmajaaGreatDoorRmb
import Derived.Maps.AppendAt
namespace Go.Proofs.YtlifpplhinmajaaGreatDoor
set_option maxRecDepth 50000
open Go.RowKit Bb Sl Sf Rm

section
variable {w wr w' : World} {s p a g n r G : Nat} {M : Nat → Prop} {X Y : List (List Nat)} {x : List Nat}
theorem QAt.kept (h : QAt w) (hk : Kept M w w') (hM : ¬ M 2) (hl : 2 < w.heap.size) : QAt w' :=
  ⟨Nat.lt_of_lt_of_le h.1 hk.size, fun i hi => (World.cell?_of_block (w := w) (a := ⟨2, i, none⟩) (hk.block _ hl hM)).trans (h.2 i hi)⟩
theorem QAt.lt (h : QAt w) : 2 < w.heap.size := h.1
theorem St.tab (h : St w s p a g n r X) (hq : QAt w) (hX : 0 < X.length) : ¬ 2 = g := fun e => by
  have hs := h.spot hX (i := 0) (by have := h.m1; omega)
  obtain ⟨W, h1, hW, h2⟩ := h.mem
  have c1 := hq.2 0 (by decide)
  have c2 := RowAt.cell hW 0
  rw [wq_at W 0 (by omega), ← e] at c2
  rw [c2] at c1
  simp at c1

/-- rows in a store, and one beside them -/
structure Mx (w wr : World) (s p a g n r G : Nat) (Y : List (List Nat)) (x : List Nat) : Prop where
  st : St wr s p a g n r Y
  row : RowAt wr G 36 (wd x)
  kept : Kept (fun b => b = g) w wr
  at_ : w.heap.size ≤ G
  tab : QAt wr
  off : ¬ 2 = g
theorem Mx.ne (h : Mx w wr s p a g n r G Y x) : G ≠ g := by
  obtain ⟨W, _, hW, _⟩ := h.st.mem
  exact RowAt.unlike h.row hW rfl
theorem Mx.step (h : Mx w wr s p a g n r G Y x) (hb : Below wr.heap.size wr w') : Mx w w' s p a g n r G Y x :=
  ⟨h.st.step hb, h.row.below hb h.row.lt, h.kept.trans (Kept.of_below (M := fun b => b = g) hb) fun _ _ e => e, h.at_, h.tab.next hb, h.off⟩
theorem Mx.write (h : Mx w wr s p a g n r G Y x) (k : Nat) (hk : k < Y.length) (hl : x.length = 32 * r) (ho : okw x) : Calls Tryz.prog 47 #[.pointer (some ⟨s, 0, none⟩), .int .i64 (k : Int), .slice (some ⟨G, 0, none⟩) (32 * r) (32 * r)] wr fun e w' => e = .returned (.tuple #[]) ∧ Mx w w' s p a g n r G (Y.set k x) x := by
  refine (write_any h.st k hk G 0 (32 * r) x hl ho h.ne h.row.lt fun i hi => ?_).mono ?_
  · rw [Nat.zero_add, h.row.cell i]; exact wd_at x i (by omega)
  · rintro e w' ⟨rfl, S, K⟩
    exact ⟨rfl, S, RowAt.kept h.row K h.ne, h.kept.trans K fun _ _ e => e, h.at_, h.tab.kept K h.off h.tab.lt, h.off⟩
theorem Mx.mixed (h : Mx w wr s p a g n r G Y x) (hl : x.length = 32 * r) (ho : okw x) : Calls Tryz.prog 48 #[.pointer (some ⟨s, 0, none⟩), .slice (some ⟨G, 0, none⟩) (32 * r) (32 * r)] wr fun e w' => ∃ G', e = .returned (.slice (some ⟨G', 0, none⟩) (32 * r) (32 * r)) ∧ Mx w w' s p a g n r G' Y (mxr r x) := by
  refine (mixed_any h.st.row h.st.r1 h.st.r2 h.tab G (32 * r) x hl ho (Nat.le_refl _) h.row).mono ?_
  rintro e w' ⟨G', rfl, R, hG, hb⟩
  have H := h.step hb
  exact ⟨G', rfl, H.st, R, H.kept, Nat.le_trans h.kept.size hG, H.tab, H.off⟩
theorem Mx.pick (h : Mx w wr s p a g n r G Y x) (N : Nat) (hN : 1 ≤ N) (hN2 : N ≤ 4611686018427387904) (hl : x.length = 32 * r) (ho : okw x) : Calls Tryz.prog 49 #[.pointer (some ⟨s, 0, none⟩), .int .i64 (N : Int), .slice (some ⟨G, 0, none⟩) (32 * r) (32 * r)] wr fun e w' => e = .returned (.int .i64 ((pk N x inN : Nat) : Int)) ∧ Mx w w' s p a g n r G Y x :=
  (pick_any h.st.row h.st.r1 h.st.r2 N hN hN2 G (32 * r) x hl ho (Nat.le_refl _) h.row).mono fun _ _ H => ⟨H.1, h.step H.2⟩
/-- one more row, that was read -/
structure Mx2 (w wr : World) (s p a g n r G G2 : Nat) (Y : List (List Nat)) (x y : List Nat) : Prop where
  mx : Mx w wr s p a g n r G Y x
  row : RowAt wr G2 36 (wd y)
  ne : G ≠ G2
theorem Mx.read (h : Mx w wr s p a g n r G Y x) (j : Nat) (hj : j < Y.length) : Calls Tryz.prog 46 #[.pointer (some ⟨s, 0, none⟩), .int .i64 (j : Int)] wr fun e w' => ∃ G2, e = .returned (.slice (some ⟨G2, 0, none⟩) (32 * r) (32 * r)) ∧ Mx2 w w' s p a g n r G G2 Y x (Y.getD j []) := by
  refine (read_any h.st j hj).mono ?_
  rintro e w' ⟨G2, rfl, R, hG, hb⟩
  exact ⟨G2, rfl, h.step hb, R, by have := h.row.lt; omega⟩
theorem Mx2.set {y : List Nat} {G2 : Nat} (h : Mx2 w wr s p a g n r G G2 Y x y) (i z : Nat) : Mx2 w (wr.setCell ⟨G, i, none⟩ (.int .u32 (z : Int))) s p a g n r G G2 Y (x.set i z) y := by
  have K : Kept (fun b => b = G) wr (wr.setCell ⟨G, i, none⟩ (.int .u32 (z : Int))) := (Kept.refl (fun b => b = G) wr).set (p := ⟨G, i, none⟩) (.inl rfl) _
  obtain ⟨W, _, hW, _⟩ := h.mx.st.mem
  have c1 : ¬ 2 = G := fun e => by
    have c1 := h.mx.tab.2 0 (by decide)
    have c2 := h.mx.row.cell 0
    rw [← e, c1] at c2
    by_cases hx : 0 < x.length
    · rw [wd_at x 0 hx] at c2; simp at c2
    · rw [show x = [] from List.eq_nil_of_length_eq_zero (by omega)] at c2; exact absurd c2 (by simp [wd, u32s])
  refine ⟨⟨h.mx.st.kept K (RowAt.unlike h.mx.st.row h.mx.row rfl) (RowAt.unlike h.mx.st.pce h.mx.row rfl) (RowAt.unlike hW h.mx.row rfl), by rw [← wd_set]; exact h.mx.row.setCell i _, h.mx.kept.set (.inr h.mx.at_) _, h.mx.at_, h.mx.tab.kept K c1 h.mx.tab.lt, h.mx.off⟩, h.row.setOther _ h.ne _, h.ne⟩

theorem smix_bad_way (z : Int) (hz : z ≠ 0) (S : Option Addr) (k log first : Int) (w : World) (C : Calls Tryz.prog 45 #[.pointer S, .int .i64 k, .int .i64 log, .int .i64 first] w fun e w' => e = .returned (.int .i64 z) ∧ Below w.heap.size w w') :
    Calls Tryz.prog 28 #[.pointer S, .int .i64 k, .int .i64 log, .int .i64 first] w fun e w' => e = .returned (.int .i64 z) ∧ Below w.heap.size w w' := by
  have C := Lib.hid C
  have d1 : (z != 0) = true := by simpa using hz
  have d2 : (z == 0) = false := by simpa using hz
  clear hz
  go_enter Tryz.func28, Tryz.ntmps28
  go_wp2_with fail
  refine C.out.mono ?_; rintro e w2 ⟨rfl, H⟩
  have H := Lib.hid H
  go_wp2
  go_ret
  exact ⟨rfl, H.out⟩

set_option maxHeartbeats 6400000 in
theorem smix_in (hS : St w s p a g n r X) (hq : QAt w) (k lg first : Nat) (hk : k < X.length) (hlg : lg ≤ 62) (hf : first + 2 ^ lg ≤ X.length) (h0 : whyN X.length k lg first = 0) :
    Calls Tryz.prog 28 #[.pointer (some ⟨s, 0, none⟩), .int .i64 (k : Int), .int .i64 (lg : Int), .int .i64 (first : Int)] w fun e w' => e = .returned (.int .i64 0) ∧ St w' s p a g n r (mixX r k (2 ^ lg) first inN X) ∧ Kept (fun b => b = g) w w' ∧ QAt w' := by
  have C1 := unmix_any hS k lg first
  rw [h0] at C1
  have C1 := Lib.hid C1
  have hoff := hS.tab hq (by omega)
  obtain ⟨p1, p2⟩ := pow_ge lg hlg
  have hR : X.length ≤ 1073741824 := by have := hS.rows; have := hS.n1; omega
  have hv := hS.rok k hk
  -- the pieces of the walk, by their contracts
  have HR := Lib.hid fun (w2 : World) (hb : Below w.heap.size w w2) => (read_any (hS.step hb) k hk).mono (R' := fun e w' => ∃ G, e = .returned (.slice (some ⟨G, 0, none⟩) (32 * r) (32 * r)) ∧ Mx w w' s p a g n r G (F r (X.getD k []) first X 0) (V r (X.getD k []) 0)) (by
    rintro e w' ⟨G, rfl, R, hG, hb2⟩
    have hb3 := hb.trans (hb2.mono hb.size)
    exact ⟨G, rfl, hS.step hb3, R, Kept.of_below hb3, Nat.le_trans hb.size hG, hq.next hb3, hoff⟩)
  have HVg := Lib.hid (V_good (v := X.getD k []) hS.r1 hv.1 hv.2)
  have hFl := F_length r (X.getD k []) first X
  have hFg := F_good (first := first) hS.r1 hv.1 hv.2 hS.rok
  have hZg := Z_good (first := first) (g := inN) hS.r1 (HVg.out (2 ^ lg)).1 (HVg.out (2 ^ lg)).2 (hFg (2 ^ lg)) p1 (by rw [hFl]; exact hf)
  have HF0 : Hid (∀ i, F r (X.getD k []) first X (i + 1) = (F r (X.getD k []) first X i).set (first + i) (V r (X.getD k []) i)) := Lib.hid fun _ => rfl
  have HV0 : Hid (∀ i, V r (X.getD k []) (i + 1) = mxr r (V r (X.getD k []) i)) := Lib.hid fun _ => rfl
  have HZ0 : Hid (∀ i, Z r (2 ^ lg) first inN (F r (X.getD k []) first X (2 ^ lg)) (V r (X.getD k []) (2 ^ lg)) (i + 1) = mxr r (xr (Z r (2 ^ lg) first inN (F r (X.getD k []) first X (2 ^ lg)) (V r (X.getD k []) (2 ^ lg)) i) ((F r (X.getD k []) first X (2 ^ lg)).getD (first + pk (2 ^ lg) (Z r (2 ^ lg) first inN (F r (X.getD k []) first X (2 ^ lg)) (V r (X.getD k []) (2 ^ lg)) i) inN) []) 0 (32 * r))) := Lib.hid fun _ => rfl
  have HZZ : Hid (Z r (2 ^ lg) first inN (F r (X.getD k []) first X (2 ^ lg)) (V r (X.getD k []) (2 ^ lg)) 0 = V r (X.getD k []) (2 ^ lg)) := Lib.hid rfl
  have HMX : Hid (mixX r k (2 ^ lg) first inN X = (F r (X.getD k []) first X (2 ^ lg)).set k (Z r (2 ^ lg) first inN (F r (X.getD k []) first X (2 ^ lg)) (V r (X.getD k []) (2 ^ lg)) (2 ^ lg))) := Lib.hid rfl
  rw [HMX.out]
  have hsh : IntKind.i64.wrap (1 * 2 ^ lg) = ((2 ^ lg : Nat) : Int) := by rw [show (1 : Int) * 2 ^ lg = ((2 ^ lg : Nat) : Int) by simp, IntKind.wrap_i64]; omega
  have hsh2 : IntKind.i64.wrap (2 ^ lg) = ((2 ^ lg : Nat) : Int) := by rw [show (2 : Int) ^ lg = ((2 ^ lg : Nat) : Int) by simp, IntKind.wrap_i64]; omega
  have hmin : min lg 64 = lg := by omega
  obtain ⟨hm1, hm2⟩ := hS.m1
  clear hv HMX
  generalize V r (X.getD k []) = vf at *
  generalize F r (X.getD k []) first X = ff at *
  generalize Z r (2 ^ lg) first inN (ff (2 ^ lg)) (vf (2 ^ lg)) = zf at *
  obtain ⟨N, hN⟩ : ∃ N, 2 ^ lg = N := ⟨_, rfl⟩
  rw [hN] at p1 p2 hf hsh hsh2 HZ0 HZZ ⊢
  clear hN h0
  obtain ⟨Y, hY⟩ : ∃ Y, ff N = Y := ⟨_, rfl⟩
  rw [hY] at HZ0 ⊢
  have hYl : Y.length = X.length := by rw [← hY]; exact hFl N
  have hYg : Rok Y (32 * r) := by rw [← hY]; exact hFg N
  obtain ⟨m, hm⟩ : ∃ m, 32 * r = m := ⟨_, rfl⟩
  have W1 := Lib.hid fun (wr : World) (G i : Nat) (hi : i < N) (h : Mx w wr s p a g n r G (ff i) (vf i)) => h.write (first + i) (by rw [hFl]; omega) (HVg.out i).1 (HVg.out i).2
  have W2 := Lib.hid fun (wr : World) (G i : Nat) (h : Mx w wr s p a g n r G (ff (i + 1)) (vf i)) => h.mixed (HVg.out i).1 (HVg.out i).2
  have W3 := Lib.hid fun (wr : World) (G i : Nat) (h : Mx w wr s p a g n r G Y (zf i)) => h.pick N p1 p2 (hZg i).1 (hZg i).2
  have W4 := Lib.hid fun (wr : World) (G j : Nat) (x : List Nat) (hj : j < N) (h : Mx w wr s p a g n r G Y x) => h.read (first + j) (by rw [hYl]; omega)
  have HZl := Lib.hid fun i => (hZg i).1
  have HZo := Lib.hid fun i => (hZg i).2
  have HYo := Lib.hid fun j (hj : j < N) => (hYg (first + j) (by rw [hYl]; omega)).2
  have HYl2 := Lib.hid fun j (hj : j < N) => (hYg (first + j) (by rw [hYl]; omega)).1
  have W5 := Lib.hid fun (wr : World) (G j i : Nat) (hj : j < N) (h : Mx w wr s p a g n r G Y (xr (zf i) (Y.getD (first + j) []) 0 m)) => h.mixed (by rw [xr_length]; exact HZl.out i) (xr_ok (HZo.out i) (HYo.out j hj) 0 m)
  have W6 := Lib.hid fun (wr : World) (G : Nat) (h : Mx w wr s p a g n r G Y (zf N)) => h.write k (by rw [hYl]; exact hk) (hZg N).1 (hZg N).2
  have HPK := Lib.hid fun i => pk_lt (zf i) inN p1
  have hNR : N ≤ 1073741824 := by omega
  have hfR : first ≤ 1073741824 := by omega
  rw [hm] at W1 W2 W3 W4 W5 W6 HR hm1 hm2 HZ0 HZl HYl2
  have HY := Lib.hid hY
  clear hS hq hk hf hFl hFg hZg hYl hYg hY hm hoff HVg hR
  go_enter Tryz.func28, Tryz.ntmps28
  go_wp2_with fail
  refine C1.out.mono ?_; rintro e w1 ⟨rfl, hb1⟩
  have HR1 := Lib.hid (HR.out w1 hb1)
  clear C1 hb1 HR
  go_wp2_with fail
  refine HR1.out.mono ?_; rintro e w2 ⟨G, rfl, H⟩
  have HX := Lib.hid H
  clear H HR1
  go_wp2
  go_loopw [11, 12, 29] (fun v11 _ v29 wr => ∃ i G : Nat, i ≤ N ∧ v29 = .int .i64 (i : Int) ∧ v11 = .slice (some ⟨G, 0, none⟩) m m ∧ Mx w wr s p a g n r G (ff i) (vf i)) (fun _ _ v29 _ => N - (intOf v29).toNat)
  case atStart => exact ⟨0, G, by omega, rfl, rfl, HX.out⟩
  case round =>
    clear HX
    obtain ⟨i, G, hi, rfl, rfl, Y1⟩ := hrel
    have HX := Lib.hid Y1
    clear Y1
    by_cases h : i < N
    · have hd : decide ((i : Int) < (N : Int)) = true := by simp; omega
      have CW := Lib.hid (W1.out wr G i h HX.out)
      rw [← HF0.out] at CW
      have e1 : (first : Int) + (i : Int) = ((first + i : Nat) : Int) := by omega
      have hwj : IntKind.i64.wrap ((first + i : Nat) : Int) = ((first + i : Nat) : Int) := IntWalk.i64_in _ (by omega)
      generalize first + i = j at *
      clear HX
      go_wp2_with fail
      refine CW.out.mono ?_; rintro e w3 ⟨rfl, H⟩
      have CM := Lib.hid (W2.out w3 G i H)
      rw [← HV0.out] at CM
      clear H CW
      go_wp2_with fail
      refine CM.out.mono ?_; rintro e w4 ⟨G2, rfl, H⟩
      have HX := Lib.hid H
      clear H CM
      go_wp2
      go_roundw
      case rel => exact ⟨i + 1, G2, by omega, by go_num, rfl, HX.out⟩
      case measure => simp [intOf]; omega
    · obtain rfl : i = N := by omega
      have hd : decide ((i : Int) < (i : Int)) = false := by simp
      have HX2 := Lib.hid HX.out
      rw [HY.out, ← HZZ.out] at HX2
      clear HX W1 W2 HF0 HV0 HY
      go_wp2
      go_loopw [11, 13, 14, 43] (fun v11 _ _ v43 wr => ∃ q G : Nat, q ≤ i ∧ v43 = .int .i64 (q : Int) ∧ v11 = .slice (some ⟨G, 0, none⟩) m m ∧ Mx w wr s p a g n r G Y (zf q)) (fun _ _ _ v43 _ => i - (intOf v43).toNat)
      case atStart => exact ⟨0, G, by omega, rfl, rfl, HX2.out⟩
      case round =>
        clear HX2
        obtain ⟨q, G, hq, rfl, rfl, Y1⟩ := hrel
        have HX := Lib.hid Y1
        clear Y1
        by_cases h2 : q < i
        · have hd2 : decide ((q : Int) < (i : Int)) = true := by simp; omega
          have CP := Lib.hid (W3.out wr G q HX.out)
          have hj := HPK.out q
          have HZq := Lib.hid (HZ0.out q)
          have hlq := Lib.hid (HZl.out q)
          have hoq := Lib.hid (HZo.out q)
          have C4 := Lib.hid fun (wr : World) (h : Mx w wr s p a g n r G Y (zf q)) => W4.out wr G (pk i (zf q) inN) (zf q) hj h
          have C5 := Lib.hid fun (wr : World) (h : Mx w wr s p a g n r G Y (xr (zf q) (Y.getD (first + pk i (zf q) inN) []) 0 m)) => W5.out wr G (pk i (zf q) inN) q hj h
          have hyl := Lib.hid (HYl2.out _ hj)
          have hyo := Lib.hid (HYo.out _ hj)
          rw [← HZq.out] at C5
          generalize pk i (zf q) inN = j at *
          obtain ⟨z1, hz1⟩ : ∃ z1, zf (q + 1) = z1 := ⟨_, rfl⟩
          have HZ1 := Lib.hid hz1
          rw [hz1] at C5
          clear hz1
          obtain ⟨z, hz⟩ : ∃ z, zf q = z := ⟨_, rfl⟩
          rw [hz] at CP C4 C5 hlq hoq
          clear hz
          have e1 : (first : Int) + (j : Int) = ((first + j : Nat) : Int) := by omega
          have hwj : IntKind.i64.wrap ((first + j : Nat) : Int) = ((first + j : Nat) : Int) := IntWalk.i64_in _ (by omega)
          generalize Y.getD (first + j) [] = y at *
          generalize first + j = jj at *
          clear HX HZq
          go_wp2_with fail
          refine CP.out.mono ?_; rintro e w3 ⟨rfl, H⟩
          have CR := Lib.hid (C4.out w3 H)
          clear H CP C4
          go_wp2_with fail
          refine CR.out.mono ?_; rintro e w4 ⟨G2, rfl, H⟩
          have HX : Hid (Mx2 w w4 s p a g n r G G2 Y (xr z y 0 0) y) := Lib.hid H
          clear H CR
          go_wp2
          go_loopw [13, 14, 54] (fun _ _ v54 wr => ∃ c : Nat, c ≤ m ∧ v54 = .int .i64 (c : Int) ∧ Mx2 w wr s p a g n r G G2 Y (xr z y 0 c) y) (fun _ _ v54 _ => m - (intOf v54).toNat)
          case atStart => exact ⟨0, by omega, rfl, HX.out⟩
          case round =>
            clear HX
            obtain ⟨c, hc, rfl, Y1⟩ := hrel
            have HX := Lib.hid Y1
            clear Y1
            by_cases h3 : c < m
            · have hd3 : decide ((c : Int) < (m : Int)) = true := by simp; omega
              have ck : wr.cell? ⟨G, c, none⟩ = some (.int .u32 ((z.getD c 0 : Nat) : Int)) := by
                rw [HX.out.mx.row.cell c, wd_at _ c (by rw [xr_length, hlq.out]; exact h3), xr_at z y 0 c c (Nat.le_refl _)]
              have dk : wr.cell? ⟨G2, c, none⟩ = some (.int .u32 ((y.getD c 0 : Nat) : Int)) := by
                rw [HX.out.row.cell c, wd_at _ c (by rw [hyl.out]; exact h3)]
              have fk : wr.frozen? ⟨G, c, none⟩ = false := HX.out.mx.row.frozen c
              have HS := HX.out.set c (z.getD c 0 ^^^ y.getD (0 + c) 0)
              have HS := Lib.hid (show Mx2 w (wr.setCell ⟨G, c, none⟩ (.int .u32 ((z.getD c 0 ^^^ y.getD (0 + c) 0 : Nat) : Int))) s p a g n r G G2 Y (xr z y 0 (c + 1)) y from HS)
              rw [Nat.zero_add] at HS
              have hv := xor32 (z.getD c 0) (y.getD c 0) (hoq.out.at_ _) (hyo.out.at_ _)
              generalize z.getD c 0 = u at *
              generalize y.getD c 0 = v at *
              generalize u ^^^ v = t at *
              have hp0 : (0 : Int) ≤ (c : Int) := by omega
              have hp1 : (c : Int) < (m : Int) := by omega
              clear HX
              go_wp2
              go_roundw
              case rel => exact ⟨c + 1, by omega, by go_num, HS.out⟩
              case measure => simp [intOf]; omega
            · obtain rfl : c = m := by omega
              have hd3 : decide ((c : Int) < (c : Int)) = false := by simp
              have C6 := Lib.hid (C5.out wr HX.out.mx)
              clear C5 HX
              go_wp2_with fail
              refine C6.out.mono ?_; rintro e w5 ⟨G3, rfl, H⟩
              have HX := Lib.hid H
              clear H C6
              go_wp2
              go_roundw
              case rel => exact ⟨q + 1, G3, by omega, by go_num, rfl, by rw [HZ1.out]; exact HX.out⟩
              case measure => simp [intOf]; omega
        · obtain rfl : q = i := by omega
          have hd2 : decide ((q : Int) < (q : Int)) = false := by simp
          have C6 := Lib.hid (W6.out wr G HX.out)
          clear HX W3 W4 W5 W6 HZ0 HPK
          go_wp2_with fail
          refine C6.out.mono ?_; rintro e w5 ⟨rfl, H⟩
          have H := Lib.hid H
          go_wp2
          go_ret
          exact ⟨rfl, H.out.st, H.out.kept, H.out.tab⟩
end
end Go.Proofs.YtlifpplhinmajaaGreatDoor

namespace Go.Proofs.YtlifpplhinmajaaGreatDoor
set_option maxRecDepth 50000
open Go.RowKit Bb Sl Sf Rm

theorem own_unlike {w : World} {N s n b : Nat} {e t : TypeId} {v : Value} {xs : List Value} {C : Array Value} (h : w.ownsRow N e s v n xs) (hr : RowAt w b t C) (ht : (e == t) = false) : v.ownBlock ≠ some b := by
  rcases h.2 with ⟨rfl, _⟩ | ⟨g, cap, cur, rfl, _, hg, _⟩
  · simp [Value.ownBlock]
  · intro e'
    simp only [Value.ownBlock, Option.some.injEq] at e'
    exact RowAt.unlike hg hr ht e'
theorem own_apart {w : World} {N N' s s' n n' b : Nat} {e t : TypeId} {v v' : Value} {xs xs' : List Value} (h : w.ownsRow N e s v n xs) (h' : w.ownsRow N' t s' v' n' xs') (ht : (e == t) = false) (hb : v'.ownBlock = some b) : v.ownBlock ≠ some b := by
  rcases h'.2 with ⟨rfl, _⟩ | ⟨g, cap, cur, rfl, _, hg, _⟩
  · simp [Value.ownBlock] at hb
  · simp only [Value.ownBlock, Option.some.injEq] at hb
    subst hb
    exact own_unlike h (show RowAt w g t cur from hg) ht
theorem wpList_append_of {P : Program} {ops : Array Oper} {rest : List Oper} {o : Oper} {a : Act} {w w' : World} {Q : Exit → Act → World → Prop} (hgd : o.guard = none) (x y : Operand) (t : TypeId) (ho : o.op = .call { callee := .builtin .append, args := #[x, y], argTypes := #[t, t] }) (vx vy v' : Value) (hx : a.eval x = vx) (hy : a.eval y = vy)
    (hr : (Builtin.append_ #[t, t] o.type #[vx, vy]).run P w = .ok v' w') (h : wpList P ops Q rest (a.put o.dst v') w') : wpList P ops Q (o :: rest) a w := wpList_plain hgd fun _ hK => by
  unfold Oper.wp execOp
  simp only [ho, resolve, invoke, builtin, Sem.run_bind, Sem.run_pure, Result.andThen_ok, List.map_toArray, List.map_cons, List.map_nil, hx, hy, hr]
  exact hK _ _ h
theorem append_empty {P : Program} (w : World) (base : Nat) (t ty e : TypeId) (i : TypeInfo) (size : Nat) (ht : P.underlying t = some (.slice e)) (hi : P.info? e = some i)
    (v : Value) (n : Nat) (xs : List Value) (hown : w.ownsRow base e size v n xs) (A : Option Addr) (c : Nat) :
    (Builtin.append_ #[t, t] ty #[v, .slice A 0 c]).run P w = .ok v w := by
  rcases hown.2 with ⟨rfl, rfl⟩ | ⟨g, cap, cur, rfl, _, _, hnc, _⟩
  · cases A <;> simp [Builtin.append_, run_underlying ht, sizeOf, typeInfo, hi, Builtin.lenOf, Builtin.firstCells, loadCells, loadCellsFrom]
  · cases A <;> simp [Builtin.append_, run_underlying ht, sizeOf, typeInfo, hi, Builtin.lenOf, Builtin.firstCells, hnc, storeCells, loadCells, loadCellsFrom]

theorem sl_info : (Tryz.prog.info? 63).map (fun i => (i.zero, i.size, i.bytes)) = some (some (.slice none 0 0), 1, 24) := by kernel_rfl

/-- a list that reads as rows of words, all of it below block B -/
def Rws (w : World) (B : Nat) (v : Value) (X : List (List Nat)) : Prop := ∃ A c, v = .slice A X.length c ∧ ∀ i, i < X.length → ∃ b off a c', A = some ⟨b, off, none⟩ ∧ b < B ∧ w.cell? ⟨b, off + i, none⟩ = some (.slice a (X.getD i []).length c') ∧ Reads w B a (u32s (X.getD i []))
/-- a list of one's own, of rows of words -/
structure Lst (w : World) (N B : Nat) (v : Value) (X : List (List Nat)) (cs : List Value) : Prop where
  own : w.ownsRow N 63 1 v X.length cs
  lt : ∀ b, v.ownBlock = some b → b < B
  row : ∀ i, i < X.length → ∃ a c, cs[i]? = some (.slice a (X.getD i []).length c) ∧ Reads w B a (u32s (X.getD i [])) ∧ ∀ b o, a = some ⟨b, o, none⟩ → 0 < (X.getD i []).length → v.ownBlock ≠ some b
section
variable {w w' : World} {N B B' : Nat} {v : Value} {X : List (List Nat)} {cs : List Value}
theorem Rws.below (h : Rws w B v X) (hb : Below B w w') : Rws w' B v X := by
  obtain ⟨A, c, rfl, H⟩ := h
  refine ⟨A, c, rfl, fun i hi => ?_⟩
  obtain ⟨b, off, a, c', e, hl, hc, hr⟩ := H i hi
  exact ⟨b, off, a, c', e, hl, (hb.cell (p := ⟨b, off + i, none⟩) hl).trans hc, hr.below hb⟩
theorem Rws.more (h : Rws w B v X) (hB : B ≤ B') : Rws w B' v X := by
  obtain ⟨A, c, rfl, H⟩ := h
  refine ⟨A, c, rfl, fun i hi => ?_⟩
  obtain ⟨b, off, a, c', e, hl, hc, hr⟩ := H i hi
  exact ⟨b, off, a, c', e, by omega, hc, hr.more hB⟩
theorem Lst.nil (w : World) (N B : Nat) : Lst w N B (.slice none 0 0) [] [] := ⟨World.ownsRow_nil _ _ _ _, fun b h => by simp [Value.ownBlock] at h, fun i hi => absurd hi (by simp)⟩
theorem Lst.below (h : Lst w N B v X cs) (hb : Below B w w') : Lst w' N B v X cs := by
  refine ⟨?_, h.lt, fun i hi => ?_⟩
  · refine ⟨h.own.1, ?_⟩
    have hl := h.lt
    rcases h.own.2 with hn | ⟨g, cap, cur, rfl, hN, hg, rest⟩
    · exact .inl hn
    · exact .inr ⟨g, cap, cur, rfl, hN, (hb.block g (hl g rfl)).trans hg, rest⟩
  · obtain ⟨a, c, e, hr, hn⟩ := h.row i hi
    exact ⟨a, c, e, hr.below hb, hn⟩
theorem Lst.more (h : Lst w N B v X cs) (hB : B ≤ B') : Lst w N B' v X cs :=
  ⟨h.own, fun b hb => Nat.lt_of_lt_of_le (h.lt b hb) hB, fun i hi => by
    obtain ⟨a, c, e, hr, hn⟩ := h.row i hi
    exact ⟨a, c, e, hr.more hB, hn⟩⟩
theorem Lst.form (h : Lst w N B v X cs) : ∃ A c, v = .slice A X.length c ∧ cs.length = X.length ∧ (0 < X.length → ∃ g, A = some ⟨g, 0, none⟩ ∧ N ≤ g ∧ g < B) := by
  obtain ⟨A, c, e, hl, hA, _⟩ := own_form h.own
  refine ⟨A, c, e, hl.symm, fun h0 => ?_⟩
  obtain ⟨g, rfl, hg⟩ := hA h0
  exact ⟨g, rfl, hg, h.lt g (by rw [e]; rfl)⟩
theorem Lst.reads (h : Lst w N B v X cs) : Rws w B v X := by
  obtain ⟨A, c, rfl, hl, hA⟩ := h.form
  refine ⟨A, c, rfl, fun i hi => ?_⟩
  obtain ⟨g, rfl, hN, hg⟩ := hA (by omega)
  obtain ⟨a, c', e, hr, hn⟩ := h.row i hi
  exact ⟨g, 0, a, c', rfl, hg, by rw [Nat.zero_add, h.own.cellAt i (by omega)]; exact e, hr⟩
/-- one row is put behind -/
theorem Lst.app (h : Lst w N B v X cs) (hN : N ≤ w.heap.size) (hB : B ≤ w.heap.size) {g : Nat} {a : Option Addr} {l : List Nat} {c : Nat} (hg : RowAt w g 63 #[.slice a l.length c]) (hr : Reads w w.heap.size a (u32s l)) (hne : ∀ b o, a = some ⟨b, o, none⟩ → v.ownBlock ≠ some b) (hX : X.length ≤ 1000000) (ty : TypeId) :
    ∃ v' w', (Builtin.append_ #[66, 66] ty #[v, .slice (some ⟨g, 0, none⟩) 1 1]).run Tryz.prog w = .ok v' w' ∧ Lst w' N w'.heap.size v' (X ++ [l]) (cs ++ [.slice a l.length c]) ∧ w.grownBy w' v.ownBlock := by
  obtain ⟨i, hi, hz, hs, hby⟩ := info_parts sl_info
  obtain ⟨v', w', hrun, ho, hgr, _, hb⟩ := run_append_own_at (P := Tryz.prog) w N 66 ty 63 i _ 1 24 Tryz.underlying66 hi hz hs hby rfl (by decide) v X.length cs h.own ⟨g, 0, none⟩ 1 1 [.slice a l.length c] rfl
    (fun j u hj => by
      rw [Go.WideShapes.add_plain, Nat.zero_add, hg.cell j]
      simpa using hj) (fun u hu => by simp at hu; subst hu; rfl) (by unfold maxLen; omega) (by omega) hN
  have hlt := ho.lt
  have hcs : cs.length = X.length := by have := h.own.1; omega
  have hkeep : ∀ {a : Option Addr} {ys : List Nat} {B : Nat}, B ≤ w.heap.size → Reads w B a (u32s ys) → (∀ b o, a = some ⟨b, o, none⟩ → 0 < ys.length → v.ownBlock ≠ some b) → Reads w' w'.heap.size a (u32s ys) ∧ ∀ b o, a = some ⟨b, o, none⟩ → 0 < ys.length → v'.ownBlock ≠ some b := fun {a ys B} hB hr hn => by
    refine ⟨fun k hk => ?_, fun b o e h0 => ?_⟩
    · obtain ⟨b, o, e, hl, hc⟩ := hr k hk
      have hk' : k < ys.length := by rwa [u32s_length] at hk
      exact ⟨b, o, e, by have := hgr.size; omega, (World.cell?_of_block (w := w) (a := ⟨b, o + k, none⟩) (hgr.block b (by omega) (fun e2 => hn b o e (by omega) e2.symm))).trans hc⟩
    · obtain ⟨b', o', e', hl, _⟩ := hr 0 (by rw [u32s_length]; exact h0)
      rw [e] at e'
      cases e'
      rcases hb with hb | hb
      · rw [hb]; exact hn b o e h0
      · rw [hb]; simp; omega
  refine ⟨v', w', hrun, ⟨by rw [List.length_append]; exact ho, fun b hb => (hlt b hb).2, fun i hi => ?_⟩, hgr⟩
  rw [List.length_append, List.length_singleton] at hi
  by_cases h1 : i < X.length
  · obtain ⟨a', c', e, hr', hn⟩ := h.row i h1
    have eX : (X ++ [l]).getD i [] = X.getD i [] := by rw [List.getD_eq_getElem?_getD, List.getElem?_append_left h1, ← List.getD_eq_getElem?_getD]
    rw [eX]
    obtain ⟨k1, k2⟩ := hkeep hB hr' hn
    exact ⟨a', c', by rw [List.getElem?_append_left (by omega)]; exact e, k1, k2⟩
  · obtain rfl : i = X.length := by omega
    have eX : (X ++ [l]).getD X.length [] = l := by rw [List.getD_eq_getElem?_getD, List.getElem?_append_right (Nat.le_refl _)]; simp
    rw [eX]
    obtain ⟨k1, k2⟩ := hkeep (Nat.le_refl _) hr fun b o e _ => hne b o e
    exact ⟨a, c, by rw [List.getElem?_append_right (by omega), hcs]; simp, k1, k2⟩
/-- one row is stored -/
theorem Lst.set {g n c : Nat} (h : Lst w N B (.slice (some ⟨g, 0, none⟩) n c) X cs) (hB : B ≤ B') {a : Option Addr} {l : List Nat} {c' : Nat} (hr : Reads w B' a (u32s l)) (hne : ∀ b o, a = some ⟨b, o, none⟩ → 0 < l.length → g ≠ b) (j : Nat) (hj : j < X.length) :
    Lst (w.setCell ⟨g, j, none⟩ (.slice a l.length c')) N B' (.slice (some ⟨g, 0, none⟩) n c) (X.set j l) (cs.set j (.slice a l.length c')) := by
  have hn : n = X.length := by
    obtain ⟨A, c, e, _⟩ := h.form
    injection e
  subst hn
  have hcs : cs.length = X.length := by have := h.own.1; omega
  have hkeep : ∀ {x : Option Addr} {ys : List Nat} {B : Nat}, Reads w B x (u32s ys) → (∀ b o, x = some ⟨b, o, none⟩ → 0 < ys.length → g ≠ b) → Reads (w.setCell ⟨g, j, none⟩ (.slice a l.length c')) B x (u32s ys) := fun {x ys B} hr hn k hk => by
    obtain ⟨b, o, e, hl, hc⟩ := hr k hk
    have hk' : k < ys.length := by rwa [u32s_length] at hk
    exact ⟨b, o, e, hl, by
      rw [World.cell?_of_block (w := w) (a := ⟨b, o + k, none⟩) (Below.heap_setCell _ _ _ _ fun e2 => hn b o e (by omega) e2.symm)]
      exact hc⟩
  refine ⟨by rw [List.length_set]; exact (h.own.stored j _).1, fun b hb => Nat.lt_of_lt_of_le (h.lt b hb) hB, fun i hi => ?_⟩
  rw [List.length_set] at hi
  rw [setl_at _ _ _ _ _ hj]
  by_cases e : j = i
  · subst e
    rw [if_pos rfl]
    exact ⟨a, c', by rw [List.getElem?_set_self (by omega)], hkeep hr hne, fun b o e h0 => by simp only [Value.ownBlock, ne_eq, Option.some.injEq]; exact hne b o e h0⟩
  · rw [if_neg e]
    obtain ⟨a2, c2, e2, hr2, hn2⟩ := h.row i hi
    exact ⟨a2, c2, by rw [List.getElem?_set_ne e]; exact e2, (hkeep hr2 fun b o e h0 => by have := hn2 b o e h0; simpa [Value.ownBlock] using this).more hB, hn2⟩
/-- a row that is copied -/
theorem app_copy {A : Option Addr} {l : List Nat} {c : Nat} (hr : Reads w w.heap.size A (u32s l)) (hl : l.length ≤ 1000000) (ty : TypeId) :
    ∃ v' w', (Builtin.append_ #[63, 63] ty #[.slice (some ⟨w.heap.size, 0, none⟩) 0 0, .slice A l.length c]).run Tryz.prog (w.alloc (.cells #[] 36)) = .ok v' w' ∧ w'.ownsRow w.heap.size 36 1 v' l.length (u32s l) ∧ Below w.heap.size w w' := by
  obtain ⟨i, hi, hz, hs, hby⟩ := info_parts u32_info
  have hb1 := (Below.refl w.heap.size w).alloc (Nat.le_refl _) (.cells #[] 36)
  have h0 : (w.alloc (.cells #[] 36)).ownsRow w.heap.size 36 1 (.slice (some ⟨w.heap.size, 0, none⟩) 0 0) 0 [] := ⟨rfl, .inr ⟨_, 0, #[], rfl, Nat.le_refl _, heap_alloc_last w _, Nat.le_refl _, Nat.zero_le _, rfl, rfl⟩⟩
  cases l with
  | nil => exact ⟨_, _, append_empty _ _ _ _ _ _ 1 Tryz.underlying63 hi _ 0 [] h0 A c, h0, hb1⟩
  | cons y ys =>
    obtain ⟨b, o, e, hlt, _⟩ := hr 0 (by simp [u32s])
    subst e
    obtain ⟨v', w', hrun, ho, hgr, _, _⟩ := run_append_own_at (P := Tryz.prog) (w.alloc (.cells #[] 36)) w.heap.size 63 ty 36 i _ 1 4 Tryz.underlying63 hi hz hs hby rfl (by decide) _ 0 [] h0 ⟨b, o, none⟩ (y :: ys).length c (u32s (y :: ys)) (by rw [u32s_length, Nat.mul_one])
      (fun j u hj => by
        obtain ⟨hj', rfl⟩ := List.getElem?_eq_some_iff.1 hj
        obtain ⟨b', o', e', hl', hc⟩ := hr j hj'
        cases e'
        rw [Go.WideShapes.add_plain]
        exact (hb1.cell (p := ⟨b, o + j, none⟩) hl').trans hc) (fun u hu => by simp only [u32s, List.mem_map] at hu; obtain ⟨x, _, rfl⟩ := hu; rfl) (by unfold maxLen; omega) (by omega) (by simp)
    rw [Nat.zero_add, List.nil_append] at ho
    exact ⟨v', w', hrun, ho, hb1.grown hgr (by simp) (by simp [Value.ownBlock])⟩
end
end Go.Proofs.YtlifpplhinmajaaGreatDoor
