/- Mix of package romix, by its contract: a row is mixed by way of others, or it is told why not. Conditions: those typed. -/
import Derived.Test.YtohmkhmanidljaaDoorRmWhy
namespace Go.Proofs.YtohmkhmanidljaaDoor
set_option maxRecDepth 50000
open Go.RowKit Bb Sl Sf Rm

section
variable {w wr w' : World} {s p a g n r G : Nat} {M : Nat → Prop} {X Y : List (List Nat)} {x : List Nat}
theorem QAt.kept (h : QAt w) (hk : Kept M w w') (hM : ¬ M 0) (hl : 0 < w.heap.size) : QAt w' :=
  ⟨Nat.lt_of_lt_of_le h.1 hk.size, fun i hi => (World.cell?_of_block (w := w) (a := ⟨0, i, none⟩) (hk.block _ hl hM)).trans (h.2 i hi)⟩
theorem QAt.lt (h : QAt w) : 0 < w.heap.size := h.1
theorem St.tab (h : St w s p a g n r X) (hq : QAt w) (hX : 0 < X.length) : ¬ 0 = g := fun e => by
  have hs := h.spot hX (i := 0) (by have := h.m1; omega)
  obtain ⟨W, h1, hW, h2⟩ := h.mem
  have c1 := hq.2 0 (by decide)
  have c2 := RowAt.cell hW 0
  rw [wq_at W 0 (by omega), ← e] at c2
  rw [c2] at c1
  simp at c1

/-- rows in a store, and one beside them -/
structure Mx (w wr : World) (s p a g n r G : Nat) (Y : List (List Nat)) (x : List Nat) : Prop where
  st : St wr s p a g n r Y
  row : RowAt wr G 50 (wd x)
  kept : Kept (fun b => b = g) w wr
  at_ : w.heap.size ≤ G
  tab : QAt wr
  off : ¬ 0 = g
theorem Mx.ne (h : Mx w wr s p a g n r G Y x) : G ≠ g := by
  obtain ⟨W, _, hW, _⟩ := h.st.mem
  exact RowAt.unlike h.row hW rfl
theorem Mx.step (h : Mx w wr s p a g n r G Y x) (hb : Below wr.heap.size wr w') : Mx w w' s p a g n r G Y x :=
  ⟨h.st.step hb, h.row.below hb h.row.lt, h.kept.trans (Kept.of_below (M := fun b => b = g) hb) fun _ _ e => e, h.at_, h.tab.next hb, h.off⟩
theorem Mx.write (h : Mx w wr s p a g n r G Y x) (k : Nat) (hk : k < Y.length) (hl : x.length = 32 * r) (ho : okw x) : Calls Tryd.prog 23 #[.pointer (some ⟨s, 0, none⟩), .int .i64 (k : Int), .slice (some ⟨G, 0, none⟩) (32 * r) (32 * r)] wr fun e w' => e = .returned (.tuple #[]) ∧ Mx w w' s p a g n r G (Y.set k x) x := by
  refine (write_any h.st k hk G 0 (32 * r) x hl ho h.ne h.row.lt fun i hi => ?_).mono ?_
  · rw [Nat.zero_add, h.row.cell i]; exact wd_at x i (by omega)
  · rintro e w' ⟨rfl, S, K⟩
    exact ⟨rfl, S, RowAt.kept h.row K h.ne, h.kept.trans K fun _ _ e => e, h.at_, h.tab.kept K h.off h.tab.lt, h.off⟩
theorem Mx.mixed (h : Mx w wr s p a g n r G Y x) (hl : x.length = 32 * r) (ho : okw x) : Calls Tryd.prog 24 #[.pointer (some ⟨s, 0, none⟩), .slice (some ⟨G, 0, none⟩) (32 * r) (32 * r)] wr fun e w' => ∃ G', e = .returned (.slice (some ⟨G', 0, none⟩) (32 * r) (32 * r)) ∧ Mx w w' s p a g n r G' Y (mxr r x) := by
  refine (mixed_any h.st.row h.st.r1 h.st.r2 h.tab G (32 * r) x hl ho (Nat.le_refl _) h.row).mono ?_
  rintro e w' ⟨G', rfl, R, hG, hb⟩
  have H := h.step hb
  exact ⟨G', rfl, H.st, R, H.kept, Nat.le_trans h.kept.size hG, H.tab, H.off⟩
theorem Mx.pick (h : Mx w wr s p a g n r G Y x) (N : Nat) (hN : 1 ≤ N) (hN2 : N ≤ 4611686018427387904) (hl : x.length = 32 * r) (ho : okw x) : Calls Tryd.prog 25 #[.pointer (some ⟨s, 0, none⟩), .int .i64 (N : Int), .slice (some ⟨G, 0, none⟩) (32 * r) (32 * r)] wr fun e w' => e = .returned (.int .i64 ((pk N x inN : Nat) : Int)) ∧ Mx w w' s p a g n r G Y x :=
  (pick_any h.st.row h.st.r1 h.st.r2 N hN hN2 G (32 * r) x hl ho (Nat.le_refl _) h.row).mono fun _ _ H => ⟨H.1, h.step H.2⟩
/-- one more row, that was read -/
structure Mx2 (w wr : World) (s p a g n r G G2 : Nat) (Y : List (List Nat)) (x y : List Nat) : Prop where
  mx : Mx w wr s p a g n r G Y x
  row : RowAt wr G2 50 (wd y)
  ne : G ≠ G2
theorem Mx.read (h : Mx w wr s p a g n r G Y x) (j : Nat) (hj : j < Y.length) : Calls Tryd.prog 22 #[.pointer (some ⟨s, 0, none⟩), .int .i64 (j : Int)] wr fun e w' => ∃ G2, e = .returned (.slice (some ⟨G2, 0, none⟩) (32 * r) (32 * r)) ∧ Mx2 w w' s p a g n r G G2 Y x (Y.getD j []) := by
  refine (read_any h.st j hj).mono ?_
  rintro e w' ⟨G2, rfl, R, hG, hb⟩
  exact ⟨G2, rfl, h.step hb, R, by have := h.row.lt; omega⟩
theorem Mx2.set {y : List Nat} {G2 : Nat} (h : Mx2 w wr s p a g n r G G2 Y x y) (i z : Nat) : Mx2 w (wr.setCell ⟨G, i, none⟩ (.int .u32 (z : Int))) s p a g n r G G2 Y (x.set i z) y := by
  have K : Kept (fun b => b = G) wr (wr.setCell ⟨G, i, none⟩ (.int .u32 (z : Int))) := (Kept.refl (fun b => b = G) wr).set (p := ⟨G, i, none⟩) (.inl rfl) _
  obtain ⟨W, _, hW, _⟩ := h.mx.st.mem
  have c1 : ¬ 0 = G := fun e => by
    have c1 := h.mx.tab.2 0 (by decide)
    have c2 := h.mx.row.cell 0
    rw [← e, c1] at c2
    by_cases hx : 0 < x.length
    · rw [wd_at x 0 hx] at c2; simp at c2
    · rw [show x = [] from List.eq_nil_of_length_eq_zero (by omega)] at c2; exact absurd c2 (by simp [wd, u32s])
  refine ⟨⟨h.mx.st.kept K (RowAt.unlike h.mx.st.row h.mx.row rfl) (RowAt.unlike h.mx.st.pce h.mx.row rfl) (RowAt.unlike hW h.mx.row rfl), by rw [← wd_set]; exact h.mx.row.setCell i _, h.mx.kept.set (.inr h.mx.at_) _, h.mx.at_, h.mx.tab.kept K c1 h.mx.tab.lt, h.mx.off⟩, h.row.setOther _ h.ne _, h.ne⟩

theorem smix_bad_way (z : Int) (hz : z ≠ 0) (S : Option Addr) (k log first : Int) (w : World) (C : Calls Tryd.prog 21 #[.pointer S, .int .i64 k, .int .i64 log, .int .i64 first] w fun e w' => e = .returned (.int .i64 z) ∧ Below w.heap.size w w') :
    Calls Tryd.prog 9 #[.pointer S, .int .i64 k, .int .i64 log, .int .i64 first] w fun e w' => e = .returned (.int .i64 z) ∧ Below w.heap.size w w' := by
  have C := Lib.hid C
  have d1 : (z != 0) = true := by simpa using hz
  have d2 : (z == 0) = false := by simpa using hz
  clear hz
  go_enter Tryd.func9, Tryd.ntmps9
  go_wp2_with fail
  refine C.out.mono ?_; rintro e w2 ⟨rfl, H⟩
  have H := Lib.hid H
  go_wp2
  go_ret
  exact ⟨rfl, H.out⟩

set_option maxHeartbeats 6400000 in
theorem smix_in (hS : St w s p a g n r X) (hq : QAt w) (k lg first : Nat) (hk : k < X.length) (hlg : lg ≤ 62) (hf : first + 2 ^ lg ≤ X.length) (h0 : whyN X.length k lg first = 0) :
    Calls Tryd.prog 9 #[.pointer (some ⟨s, 0, none⟩), .int .i64 (k : Int), .int .i64 (lg : Int), .int .i64 (first : Int)] w fun e w' => e = .returned (.int .i64 0) ∧ St w' s p a g n r (mixX r k (2 ^ lg) first inN X) ∧ Kept (fun b => b = g) w w' ∧ QAt w' := by
  have C1 := unmix_any hS k lg first
  rw [h0] at C1
  have C1 := Lib.hid C1
  have hoff := hS.tab hq (by omega)
  obtain ⟨p1, p2⟩ := pow_ge lg hlg
  have hR : X.length ≤ 1073741824 := by have := hS.rows; have := hS.n1; omega
  have hv := hS.rok k hk
  -- the pieces of the walk, by their contracts
  have HR := Lib.hid fun (w2 : World) (hb : Below w.heap.size w w2) => (read_any (hS.step hb) k hk).mono (R' := fun e w' => ∃ G, e = .returned (.slice (some ⟨G, 0, none⟩) (32 * r) (32 * r)) ∧ Mx w w' s p a g n r G (F r (X.getD k []) first X 0) (V r (X.getD k []) 0)) (by
    rintro e w' ⟨G, rfl, R, hG, hb2⟩
    have hb3 := hb.trans (hb2.mono hb.size)
    exact ⟨G, rfl, hS.step hb3, R, Kept.of_below hb3, Nat.le_trans hb.size hG, hq.next hb3, hoff⟩)
  have HVg := Lib.hid (V_good (v := X.getD k []) hS.r1 hv.1 hv.2)
  have hFl := F_length r (X.getD k []) first X
  have hFg := F_good (first := first) hS.r1 hv.1 hv.2 hS.rok
  have hZg := Z_good (first := first) (g := inN) hS.r1 (HVg.out (2 ^ lg)).1 (HVg.out (2 ^ lg)).2 (hFg (2 ^ lg)) p1 (by rw [hFl]; exact hf)
  have HF0 : Hid (∀ i, F r (X.getD k []) first X (i + 1) = (F r (X.getD k []) first X i).set (first + i) (V r (X.getD k []) i)) := Lib.hid fun _ => rfl
  have HV0 : Hid (∀ i, V r (X.getD k []) (i + 1) = mxr r (V r (X.getD k []) i)) := Lib.hid fun _ => rfl
  have HZ0 : Hid (∀ i, Z r (2 ^ lg) first inN (F r (X.getD k []) first X (2 ^ lg)) (V r (X.getD k []) (2 ^ lg)) (i + 1) = mxr r (xr (Z r (2 ^ lg) first inN (F r (X.getD k []) first X (2 ^ lg)) (V r (X.getD k []) (2 ^ lg)) i) ((F r (X.getD k []) first X (2 ^ lg)).getD (first + pk (2 ^ lg) (Z r (2 ^ lg) first inN (F r (X.getD k []) first X (2 ^ lg)) (V r (X.getD k []) (2 ^ lg)) i) inN) []) 0 (32 * r))) := Lib.hid fun _ => rfl
  have HZZ : Hid (Z r (2 ^ lg) first inN (F r (X.getD k []) first X (2 ^ lg)) (V r (X.getD k []) (2 ^ lg)) 0 = V r (X.getD k []) (2 ^ lg)) := Lib.hid rfl
  have HMX : Hid (mixX r k (2 ^ lg) first inN X = (F r (X.getD k []) first X (2 ^ lg)).set k (Z r (2 ^ lg) first inN (F r (X.getD k []) first X (2 ^ lg)) (V r (X.getD k []) (2 ^ lg)) (2 ^ lg))) := Lib.hid rfl
  rw [HMX.out]
  have hsh : IntKind.i64.wrap (1 * 2 ^ lg) = ((2 ^ lg : Nat) : Int) := by rw [show (1 : Int) * 2 ^ lg = ((2 ^ lg : Nat) : Int) by simp, IntKind.wrap_i64]; omega
  have hsh2 : IntKind.i64.wrap (2 ^ lg) = ((2 ^ lg : Nat) : Int) := by rw [show (2 : Int) ^ lg = ((2 ^ lg : Nat) : Int) by simp, IntKind.wrap_i64]; omega
  have hmin : min lg 64 = lg := by omega
  obtain ⟨hm1, hm2⟩ := hS.m1
  clear hv HMX
  generalize V r (X.getD k []) = vf at *
  generalize F r (X.getD k []) first X = ff at *
  generalize Z r (2 ^ lg) first inN (ff (2 ^ lg)) (vf (2 ^ lg)) = zf at *
  obtain ⟨N, hN⟩ : ∃ N, 2 ^ lg = N := ⟨_, rfl⟩
  rw [hN] at p1 p2 hf hsh hsh2 HZ0 HZZ ⊢
  clear hN h0
  obtain ⟨Y, hY⟩ : ∃ Y, ff N = Y := ⟨_, rfl⟩
  rw [hY] at HZ0 ⊢
  have hYl : Y.length = X.length := by rw [← hY]; exact hFl N
  have hYg : Rok Y (32 * r) := by rw [← hY]; exact hFg N
  obtain ⟨m, hm⟩ : ∃ m, 32 * r = m := ⟨_, rfl⟩
  have W1 := Lib.hid fun (wr : World) (G i : Nat) (hi : i < N) (h : Mx w wr s p a g n r G (ff i) (vf i)) => h.write (first + i) (by rw [hFl]; omega) (HVg.out i).1 (HVg.out i).2
  have W2 := Lib.hid fun (wr : World) (G i : Nat) (h : Mx w wr s p a g n r G (ff (i + 1)) (vf i)) => h.mixed (HVg.out i).1 (HVg.out i).2
  have W3 := Lib.hid fun (wr : World) (G i : Nat) (h : Mx w wr s p a g n r G Y (zf i)) => h.pick N p1 p2 (hZg i).1 (hZg i).2
  have W4 := Lib.hid fun (wr : World) (G j : Nat) (x : List Nat) (hj : j < N) (h : Mx w wr s p a g n r G Y x) => h.read (first + j) (by rw [hYl]; omega)
  have HZl := Lib.hid fun i => (hZg i).1
  have HZo := Lib.hid fun i => (hZg i).2
  have HYo := Lib.hid fun j (hj : j < N) => (hYg (first + j) (by rw [hYl]; omega)).2
  have HYl2 := Lib.hid fun j (hj : j < N) => (hYg (first + j) (by rw [hYl]; omega)).1
  have W5 := Lib.hid fun (wr : World) (G j i : Nat) (hj : j < N) (h : Mx w wr s p a g n r G Y (xr (zf i) (Y.getD (first + j) []) 0 m)) => h.mixed (by rw [xr_length]; exact HZl.out i) (xr_ok (HZo.out i) (HYo.out j hj) 0 m)
  have W6 := Lib.hid fun (wr : World) (G : Nat) (h : Mx w wr s p a g n r G Y (zf N)) => h.write k (by rw [hYl]; exact hk) (hZg N).1 (hZg N).2
  have HPK := Lib.hid fun i => pk_lt (zf i) inN p1
  have hNR : N ≤ 1073741824 := by omega
  have hfR : first ≤ 1073741824 := by omega
  rw [hm] at W1 W2 W3 W4 W5 W6 HR hm1 hm2 HZ0 HZl HYl2
  have HY := Lib.hid hY
  clear hS hq hk hf hFl hFg hZg hYl hYg hY hm hoff HVg hR
  go_enter Tryd.func9, Tryd.ntmps9
  go_wp2_with fail
  refine C1.out.mono ?_; rintro e w1 ⟨rfl, hb1⟩
  have HR1 := Lib.hid (HR.out w1 hb1)
  clear C1 hb1 HR
  go_wp2_with fail
  refine HR1.out.mono ?_; rintro e w2 ⟨G, rfl, H⟩
  have HX := Lib.hid H
  clear H HR1
  go_wp2
  go_loopw [11, 12, 29] (fun v11 _ v29 wr => ∃ i G : Nat, i ≤ N ∧ v29 = .int .i64 (i : Int) ∧ v11 = .slice (some ⟨G, 0, none⟩) m m ∧ Mx w wr s p a g n r G (ff i) (vf i)) (fun _ _ v29 _ => N - (intOf v29).toNat)
  case atStart => exact ⟨0, G, by omega, rfl, rfl, HX.out⟩
  case round =>
    clear HX
    obtain ⟨i, G, hi, rfl, rfl, Y1⟩ := hrel
    have HX := Lib.hid Y1
    clear Y1
    by_cases h : i < N
    · have hd : decide ((i : Int) < (N : Int)) = true := by simp; omega
      have CW := Lib.hid (W1.out wr G i h HX.out)
      rw [← HF0.out] at CW
      have e1 : (first : Int) + (i : Int) = ((first + i : Nat) : Int) := by omega
      have hwj : IntKind.i64.wrap ((first + i : Nat) : Int) = ((first + i : Nat) : Int) := IntWalk.i64_in _ (by omega)
      generalize first + i = j at *
      clear HX
      go_wp2_with fail
      refine CW.out.mono ?_; rintro e w3 ⟨rfl, H⟩
      have CM := Lib.hid (W2.out w3 G i H)
      rw [← HV0.out] at CM
      clear H CW
      go_wp2_with fail
      refine CM.out.mono ?_; rintro e w4 ⟨G2, rfl, H⟩
      have HX := Lib.hid H
      clear H CM
      go_wp2
      go_roundw
      case rel => exact ⟨i + 1, G2, by omega, by go_num, rfl, HX.out⟩
      case measure => simp [intOf]; omega
    · obtain rfl : i = N := by omega
      have hd : decide ((i : Int) < (i : Int)) = false := by simp
      have HX2 := Lib.hid HX.out
      rw [HY.out, ← HZZ.out] at HX2
      clear HX W1 W2 HF0 HV0 HY
      go_wp2
      go_loopw [11, 13, 14, 43] (fun v11 _ _ v43 wr => ∃ q G : Nat, q ≤ i ∧ v43 = .int .i64 (q : Int) ∧ v11 = .slice (some ⟨G, 0, none⟩) m m ∧ Mx w wr s p a g n r G Y (zf q)) (fun _ _ _ v43 _ => i - (intOf v43).toNat)
      case atStart => exact ⟨0, G, by omega, rfl, rfl, HX2.out⟩
      case round =>
        clear HX2
        obtain ⟨q, G, hq, rfl, rfl, Y1⟩ := hrel
        have HX := Lib.hid Y1
        clear Y1
        by_cases h2 : q < i
        · have hd2 : decide ((q : Int) < (i : Int)) = true := by simp; omega
          have CP := Lib.hid (W3.out wr G q HX.out)
          have hj := HPK.out q
          have HZq := Lib.hid (HZ0.out q)
          have hlq := Lib.hid (HZl.out q)
          have hoq := Lib.hid (HZo.out q)
          have C4 := Lib.hid fun (wr : World) (h : Mx w wr s p a g n r G Y (zf q)) => W4.out wr G (pk i (zf q) inN) (zf q) hj h
          have C5 := Lib.hid fun (wr : World) (h : Mx w wr s p a g n r G Y (xr (zf q) (Y.getD (first + pk i (zf q) inN) []) 0 m)) => W5.out wr G (pk i (zf q) inN) q hj h
          have hyl := Lib.hid (HYl2.out _ hj)
          have hyo := Lib.hid (HYo.out _ hj)
          rw [← HZq.out] at C5
          generalize pk i (zf q) inN = j at *
          obtain ⟨z1, hz1⟩ : ∃ z1, zf (q + 1) = z1 := ⟨_, rfl⟩
          have HZ1 := Lib.hid hz1
          rw [hz1] at C5
          clear hz1
          obtain ⟨z, hz⟩ : ∃ z, zf q = z := ⟨_, rfl⟩
          rw [hz] at CP C4 C5 hlq hoq
          clear hz
          have e1 : (first : Int) + (j : Int) = ((first + j : Nat) : Int) := by omega
          have hwj : IntKind.i64.wrap ((first + j : Nat) : Int) = ((first + j : Nat) : Int) := IntWalk.i64_in _ (by omega)
          generalize Y.getD (first + j) [] = y at *
          generalize first + j = jj at *
          clear HX HZq
          go_wp2_with fail
          refine CP.out.mono ?_; rintro e w3 ⟨rfl, H⟩
          have CR := Lib.hid (C4.out w3 H)
          clear H CP C4
          go_wp2_with fail
          refine CR.out.mono ?_; rintro e w4 ⟨G2, rfl, H⟩
          have HX : Hid (Mx2 w w4 s p a g n r G G2 Y (xr z y 0 0) y) := Lib.hid H
          clear H CR
          go_wp2
          go_loopw [13, 14, 54] (fun _ _ v54 wr => ∃ c : Nat, c ≤ m ∧ v54 = .int .i64 (c : Int) ∧ Mx2 w wr s p a g n r G G2 Y (xr z y 0 c) y) (fun _ _ v54 _ => m - (intOf v54).toNat)
          case atStart => exact ⟨0, by omega, rfl, HX.out⟩
          case round =>
            clear HX
            obtain ⟨c, hc, rfl, Y1⟩ := hrel
            have HX := Lib.hid Y1
            clear Y1
            by_cases h3 : c < m
            · have hd3 : decide ((c : Int) < (m : Int)) = true := by simp; omega
              have ck : wr.cell? ⟨G, c, none⟩ = some (.int .u32 ((z.getD c 0 : Nat) : Int)) := by
                rw [HX.out.mx.row.cell c, wd_at _ c (by rw [xr_length, hlq.out]; exact h3), xr_at z y 0 c c (Nat.le_refl _)]
              have dk : wr.cell? ⟨G2, c, none⟩ = some (.int .u32 ((y.getD c 0 : Nat) : Int)) := by
                rw [HX.out.row.cell c, wd_at _ c (by rw [hyl.out]; exact h3)]
              have fk : wr.frozen? ⟨G, c, none⟩ = false := HX.out.mx.row.frozen c
              have HS := HX.out.set c (z.getD c 0 ^^^ y.getD (0 + c) 0)
              have HS := Lib.hid (show Mx2 w (wr.setCell ⟨G, c, none⟩ (.int .u32 ((z.getD c 0 ^^^ y.getD (0 + c) 0 : Nat) : Int))) s p a g n r G G2 Y (xr z y 0 (c + 1)) y from HS)
              rw [Nat.zero_add] at HS
              have hv := xor32 (z.getD c 0) (y.getD c 0) (hoq.out.at_ _) (hyo.out.at_ _)
              generalize z.getD c 0 = u at *
              generalize y.getD c 0 = v at *
              generalize u ^^^ v = t at *
              have hp0 : (0 : Int) ≤ (c : Int) := by omega
              have hp1 : (c : Int) < (m : Int) := by omega
              clear HX
              go_wp2
              go_roundw
              case rel => exact ⟨c + 1, by omega, by go_num, HS.out⟩
              case measure => simp [intOf]; omega
            · obtain rfl : c = m := by omega
              have hd3 : decide ((c : Int) < (c : Int)) = false := by simp
              have C6 := Lib.hid (C5.out wr HX.out.mx)
              clear C5 HX
              go_wp2_with fail
              refine C6.out.mono ?_; rintro e w5 ⟨G3, rfl, H⟩
              have HX := Lib.hid H
              clear H C6
              go_wp2
              go_roundw
              case rel => exact ⟨q + 1, G3, by omega, by go_num, rfl, by rw [HZ1.out]; exact HX.out⟩
              case measure => simp [intOf]; omega
        · obtain rfl : q = i := by omega
          have hd2 : decide ((q : Int) < (q : Int)) = false := by simp
          have C6 := Lib.hid (W6.out wr G HX.out)
          clear HX W3 W4 W5 W6 HZ0 HPK
          go_wp2_with fail
          refine C6.out.mono ?_; rintro e w5 ⟨rfl, H⟩
          have H := Lib.hid H
          go_wp2
          go_ret
          exact ⟨rfl, H.out.st, H.out.kept, H.out.tab⟩
end
end Go.Proofs.YtohmkhmanidljaaDoor
