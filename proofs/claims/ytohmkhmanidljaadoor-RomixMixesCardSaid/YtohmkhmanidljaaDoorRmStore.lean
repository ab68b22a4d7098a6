/- store of the law, by its contract: a store of a new piece, its rows filled with words. Conditions: those typed. -/
import Derived.Test.YtohmkhmanidljaaDoorRmSame
namespace Go.Proofs.YtohmkhmanidljaaDoor
set_option maxRecDepth 50000
open Go.RowKit Bb Sl Sf Rm

/-- a store, and a row beside it that is filled -/
structure Sx (w wr : World) (s p a g n r G : Nat) (X : List (List Nat)) (L : List Nat) : Prop where
  st : St wr s p a g n r X
  row : RowAt wr G 50 (wd L)
  below : Below w.heap.size w wr
  at_ : w.heap.size ≤ G
  len : L.length = 32 * r
  ok : okw L
section
variable {w wr w' : World} {s p a g n r G : Nat} {X : List (List Nat)} {L : List Nat}
theorem Sx.set (h : Sx w wr s p a g n r G X L) (i z : Nat) (hz : z < 4294967296) : Sx w (wr.setCell ⟨G, i, none⟩ (.int .u32 (z : Int))) s p a g n r G X (L.set i z) := by
  have K : Kept (fun b => b = G) wr (wr.setCell ⟨G, i, none⟩ (.int .u32 (z : Int))) := (Kept.refl (fun b => b = G) wr).set (p := ⟨G, i, none⟩) (.inl rfl) _
  obtain ⟨W, _, hW, _⟩ := h.st.mem
  exact ⟨h.st.kept K (RowAt.unlike h.st.row h.row rfl) (RowAt.unlike h.st.pce h.row rfl) (RowAt.unlike hW h.row rfl), by rw [← wd_set]; exact h.row.setCell i _, h.below.setCell h.at_ _, h.at_, by rw [List.length_set]; exact h.len, h.ok.set _ _ hz⟩
theorem Sx.put (h : Sx w wr s p a g n r G X L) (hg : w.heap.size ≤ g) (k : Nat) (hk : k < X.length) : Calls Tryd.prog 15 #[.pointer (some ⟨s, 0, none⟩), .int .i64 (k : Int), .slice (some ⟨G, 0, none⟩) (32 * r) (32 * r)] wr fun e w' => e = .returned (.int .i64 0) ∧ St w' s p a g n r (X.set k L) ∧ Below w.heap.size w w' := by
  obtain ⟨W, _, hW, _⟩ := h.st.mem
  refine (put_in h.st k hk G 0 (32 * r) L h.len h.ok (RowAt.unlike h.row hW rfl) h.row.lt fun i hi => ?_).mono ?_
  · rw [Nat.zero_add, h.row.cell i]; exact wd_at L i (by rw [h.len]; exact hi)
  · rintro e w' ⟨rfl, S, K⟩
    exact ⟨rfl, S, h.below.trans (K.below h.below.size fun x e => by rw [e]; exact hg)⟩
end

theorem mod_two (x y : Nat) (h : 0 < y) : ∃ q : Nat, (x : Int) % (y : Int) = (q : Int) ∧ (x : Int).tmod (y : Int) = (q : Int) ∧ q < y := ⟨x % y, rfl, rfl, Nat.mod_lt _ h⟩

section
variable {w : World} {n r : Nat} {ws : List Nat} {A : Option Addr} {c : Nat}
set_option maxHeartbeats 6400000 in
theorem store_any (hn : n ≤ 12) (h1 : 1 ≤ r) (h2 : r ≤ 512) (hw : Reads w w.heap.size A (u32s ws)) (hwl : ws.length ≤ 1000000) (hwo : okw ws) : Calls Tryd.prog 6 #[.int .i64 (n : Int), .int .i64 (r : Int), .slice A ws.length c] w fun e w' => ∃ s p a g X, e = .returned (.tuple #[.pointer (some ⟨s, 0, none⟩), .int .i64 0]) ∧ St w' s p a g n r X ∧ w.heap.size ≤ g ∧ Below w.heap.size w w' := by
  obtain ⟨i0, hi0, hz0, hz1, hz2⟩ := info_parts u32_info
  have C1 := Lib.hid (anew_any n (by omega) w)
  have HWR := Lib.hid fun (wr : World) (hb : Below w.heap.size w wr) (j : Nat) (hj : j < ws.length) => rd_word (hw.below hb) j hj
  have HWO := Lib.hid hwo
  have hm1 : 1 ≤ 32 * r := by omega
  have hm2 : 32 * r ≤ 16384 := by omega
  have H12 := Lib.hid (And.intro h1 h2)
  have HNN := Lib.hid hn
  clear hw hwo
  go_enter Tryd.func6, Tryd.ntmps6
  go_wp2_with fail
  refine C1.out.mono ?_
  rintro e w1 ⟨rfl, A1, b1⟩
  have C2 := Lib.hid (ares_any A1 n (by omega) (by omega) (by omega))
  have HB1 := Lib.hid (And.intro b1 A1.lt)
  clear C1 A1 b1
  go_wp2_with fail
  refine C2.out.mono ?_
  rintro e w2 ⟨⟨p, g, rfl, LP, hp, hg⟩, A2, K2⟩
  have b2 : Below w.heap.size w w2 := HB1.out.1.trans (K2.below HB1.out.1.size fun x e => by rw [e]; exact Nat.le_refl _)
  have hg2 : w.heap.size ≤ g := Nat.le_trans HB1.out.1.size hg
  have C3 := Lib.hid (rnew_any p r h1 h2 w2)
  have HL := Lib.hid (And.intro LP (And.intro b2 hg2))
  clear C2 HB1 LP A2 K2 b2 hg2 hp hg
  go_wp2_with fail
  refine C3.out.mono ?_
  rintro e w3 ⟨rfl, R3, b3⟩
  have S3 := St.new R3 ⟨HL.out.1.row.below b3 HL.out.1.row.lt, RowAt.below HL.out.1.blk b3 (RowAt.lt HL.out.1.blk), HL.out.1.ok⟩ h1 h2 (by omega)
  have b4 : Below w.heap.size w w3 := HL.out.2.1.trans (b3.mono HL.out.2.1.size)
  have hg := HL.out.2.2
  generalize List.replicate (n * 256 / (32 * r)) (List.replicate (32 * r) 0) = X0 at S3
  have HS := Lib.hid (And.intro S3 b4)
  have hR := S3.rows
  have CR := rows_any S3.row S3.pce S3.r1 S3.r2 S3.n1
  rw [← S3.len] at CR
  have CR := Lib.hid CR
  generalize hs : w2.heap.size = s at *
  have HG := Lib.hid hg
  clear C3 HL R3 b3 S3 b4 hg hs
  obtain ⟨m, hm⟩ : ∃ m, 32 * r = m := ⟨_, rfl⟩
  rw [hm] at hm1 hm2
  have HM := Lib.hid hm
  have e1 : (32 : Int) * (r : Int) = (m : Int) := by omega
  have hwm : IntKind.i64.wrap (m : Int) = (m : Int) := IntWalk.i64_in _ (by omega)
  obtain ⟨R, hRR⟩ : ∃ R, X0.length = R := ⟨_, rfl⟩
  rw [hRR] at hR CR
  have HR := Lib.hid hRR
  clear hm hRR h1 h2
  go_wp2_with fail
  refine CR.out.mono ?_; rintro e w' ⟨rfl, hw⟩; obtain rfl := hw.symm; clear hw CR
  go_wp2
  go_loopw [14, 15, 16, 39] (fun _ _ _ v39 wr => ∃ k X, k ≤ R ∧ v39 = .int .i64 ((k : Nat) : Int) ∧ X.length = R ∧ St wr s p w.heap.size g n r X ∧ Below w.heap.size w wr) (fun _ _ _ v39 _ => R - (intOf v39).toNat)
  case atStart => exact ⟨0, X0, by omega, rfl, HR.out, HS.out⟩
  case round =>
    clear HS HR
    obtain ⟨k, X, hk, rfl, hXl, S1, b1⟩ := hrel
    by_cases h : k < R
    · have hd : decide ((k : Int) < (R : Int)) = true := by simp; omega
      have HS := Lib.hid (And.intro S1 b1)
      have HX := Lib.hid hXl
      clear S1 b1 hXl
      go_wp2_with (at_make; refine wpList_make_full _ rfl _ _ 22 rfl wr.heap.size 50 i0 (.int .u32 0) 1 Tryd.underlying22 hi0 hz0 hz1 _ _ _ _ m rfl rfl ?c0 ?c00 ?c1 ?c2 ?c3 ?_)
      case c0 => rfl
      case c00 => rfl
      case c1 => rw [hz2]; omega
      case c2 => unfold maxLen; omega
      case c3 => exact Nat.le_refl _
      intro w2 hown hgr
      have e0 : (madeCells #[.int .u32 0] m).toList = u32s (List.replicate m 0) := by
        rw [toList_madeCells_one]; unfold u32s; rw [List.map_replicate]; rfl
      rw [e0] at hown
      have b2 := (Below.refl wr.heap.size _).grown hgr (Nat.le_refl _) (by simp)
      have HY : Hid (Sx w w2 s p w.heap.size g n r wr.heap.size X (List.replicate m 0)) := Lib.hid ⟨HS.out.1.step b2, own_rowAt hown, HS.out.2.trans (b2.mono HS.out.2.size), HS.out.2.size, by rw [List.length_replicate, HM.out], okw_zeros m⟩
      clear hown hgr e0 b2 HS
      generalize wr.heap.size = G at *
      go_wp2
      go_loopw [16, 47] (fun _ v47 wr => ∃ i L, i ≤ m ∧ v47 = .int .i64 ((i : Nat) : Int) ∧ Sx w wr s p w.heap.size g n r G X L) (fun _ v47 _ => m - (intOf v47).toNat)
      case atStart => exact ⟨0, _, by omega, rfl, HY.out⟩
      case round =>
        clear HY
        obtain ⟨i, L, hi, rfl, Y1⟩ := hrel
        have HY := Lib.hid Y1
        clear Y1
        by_cases h6 : i < m
        · have hd6 : decide ((i : Int) < (m : Int)) = true := by simp; omega
          by_cases hW : 0 < ws.length
          · have hW1 : decide ((0 : Int) < (ws.length : Int)) = true := by simpa using hW
            have hW2 : decide (0 < ws.length) = true := by simpa using hW
            have hW3 : ¬ ws.length = 0 := by omega
            obtain ⟨q, q1, q2, q3⟩ := mod_two (k + i) ws.length hW
            obtain ⟨b, o, rfl, kq⟩ := HWR.out wr HY.out.below q q3
            have ho := HWO.out.at_ q
            have e2 : (k : Int) + (i : Int) = ((k + i : Nat) : Int) := by omega
            have e3 : (i : Int) * (k : Int) = ((i * k : Nat) : Int) := rfl
            have hik : i * k ≤ 16384 * 3072 := Nat.mul_le_mul (by omega) (by have := HNN.out; omega)
            have hki : k + i ≤ 100000 := by have := HNN.out; omega
            generalize i * k = t at *
            generalize k + i = ki at *
            have hwt : IntKind.i64.wrap (t : Int) = (t : Int) := IntWalk.i64_in _ (by omega)
            have hwk : IntKind.i64.wrap (ki : Int) = (ki : Int) := IntWalk.i64_in _ (by omega)
            have hwq : IntKind.i64.wrap (q : Int) = (q : Int) := IntWalk.i64_in _ (by omega)
            have hwu : IntKind.u32.wrap (t : Int) = (t : Int) := by rw [IntKind.wrap_u32]; omega
            have cq := kq 0
            generalize ws.getD q 0 = u at *
            obtain ⟨z, hz, hz2⟩ : ∃ z : Nat, IntKind.u32.wrap ((u : Int) + (t : Int)) = (z : Int) ∧ z < 4294967296 := ⟨(u + t) % 4294967296, by rw [IntKind.wrap_u32]; omega, Nat.mod_lt _ (by decide)⟩
            have ck : wr.cell? ⟨G, i, none⟩ = some (.int .u32 ((L.getD i 0 : Nat) : Int)) := (HY.out.row.cell i).trans (wd_at L i (by rw [HY.out.len, HM.out]; exact h6))
            have fk : wr.frozen? ⟨G, i, none⟩ = false := HY.out.row.frozen i
            have hq0 : (0 : Int) ≤ (q : Int) := by omega
            have hq1 : (q : Int) < (ws.length : Int) := by omega
            have hi0' : (0 : Int) ≤ (i : Int) := by omega
            have hi1' : (i : Int) < (m : Int) := by omega
            have HN := Lib.hid (HY.out.set i z hz2)
            have hcq : wr.cell? ⟨b, o + q, none⟩ = some (.int .u32 (u : Int)) := cq
            generalize L.getD i 0 = y at *
            clear kq cq HY
            go_wp2
            go_roundw
            case rel => exact ⟨i + 1, _, by omega, by go_num, HN.out⟩
            case measure => simp [intOf]; omega
          · have hW3 : ws.length = 0 := by omega
            have hW1 : decide ((0 : Int) < (ws.length : Int)) = false := by rw [hW3]; rfl
            have hW2 : decide (0 < ws.length) = false := by rw [hW3]; rfl
            go_wp2
            go_roundw
            case rel => exact ⟨i + 1, L, by omega, by go_num, HY.out⟩
            case measure => simp [intOf]; omega
        · obtain rfl : i = m := by omega
          have hd6 : decide ((i : Int) < (i : Int)) = false := by simp
          have CP := HY.out.put HG.out k (by rw [HX.out]; exact h)
          rw [HM.out] at CP
          have CP := Lib.hid CP
          clear HY
          go_wp2_with fail
          refine CP.out.mono ?_
          rintro e w5 ⟨rfl, S5, b5⟩
          have HS5 := Lib.hid (And.intro S5 b5)
          clear S5 b5 CP
          go_wp2
          go_roundw
          case rel => exact ⟨k + 1, _, by omega, by go_num, by rw [List.length_set]; exact HX.out, HS5.out⟩
          case measure => simp [intOf]; omega
    · obtain rfl : k = R := by omega
      have hd : decide ((k : Int) < (k : Int)) = false := by simp
      have HS := Lib.hid (And.intro S1 b1)
      clear S1 b1 hXl
      go_wp2
      go_ret2
      exact ⟨s, p, _, g, X, rfl, HS.out.1, HG.out, HS.out.2⟩
end
end Go.Proofs.YtohmkhmanidljaaDoor
