/- Mix of package shuffle by its contract. Condition: the table of package salsa reads as it was laid. -/
import Derived.Test.YtohmkhmanidljaaDoorSfLast
import Derived.Test.YtohmkhmanidljaaDoorSlCore
import Derived.Test.YtohmkhmanidljaaDoorLaid
import Derived.Laws.CopyRow
import Derived.Deep.Onto
namespace Go.Proofs.YtohmkhmanidljaaDoor
set_option maxRecDepth 50000
open Go.RowKit Rot Sl Sf

theorem mix_bad (z : Int) (h : z < 1 ∨ 512 < z) (v : Value) (w : World) : Calls Tryd.prog 38 #[.int .i64 z, v] w fun e w' => e = .returned (.tuple #[.slice none 0 0, .int .i64 2]) ∧ w = w' := by
  have HC := Lib.hid fun w => check_bad z h v w
  clear h
  go_enter Tryd.func38, Tryd.ntmps38
  go_wp2_with fail
  refine (HC.out w).mono ?_
  rintro e w2 ⟨rfl, rfl⟩
  go_wp2
  go_ret2
  exact ⟨rfl, rfl⟩
theorem mix_size (r : Nat) (h1 : 1 ≤ r) (h2 : r ≤ 512) (A : Option Addr) (n c : Nat) (hn : n ≠ 32 * r) (w : World) : Calls Tryd.prog 38 #[.int .i64 (r : Int), .slice A n c] w fun e w' => e = .returned (.tuple #[.slice none 0 0, .int .i64 9]) ∧ w = w' := by
  have HC := Lib.hid fun w => check_size r h1 h2 A n c hn w
  clear hn
  go_enter Tryd.func38, Tryd.ntmps38
  go_wp2_with fail
  refine (HC.out w).mono ?_
  rintro e w2 ⟨rfl, rfl⟩
  go_wp2
  go_ret2
  exact ⟨rfl, rfl⟩

theorem u32_info : (Tryd.prog.info? 50).map (fun i => (i.zero, i.size, i.bytes)) = some (some (.int .u32 0), 1, 4) := by kernel_rfl
/-- a row that was made whole is a row at its place -/
theorem own_rowAt {w : World} {B g n : Nat} {e : TypeId} {xs : List Value} (h : w.ownsRow B e 1 (.slice (some ⟨g, 0, none⟩) n n) n xs) : RowAt w g e xs.toArray := by
  rcases h.2 with ⟨h', _⟩ | ⟨g', cap', cur, h', hb, hg, hnc, hcm, hcs, htake⟩
  · simp at h'
  · simp only [Value.slice.injEq, Option.some.injEq, Addr.mk.injEq, and_true, true_and] at h'
    obtain ⟨rfl, rfl⟩ := h'
    have : cur.toList = xs := by rw [← htake, List.take_of_length_le (by simp [hcs])]
    rw [← this]
    exact hg
theorem rowAt_own {w : World} {B g n : Nat} {e : TypeId} {C : Array Value} (h : RowAt w g e C) (hn : C.size = n) (hm : n ≤ maxLen) (hB : B ≤ g) : w.ownsRow B e 1 (.slice (some ⟨g, 0, none⟩) n n) n C.toList :=
  ⟨by simp [hn], .inr ⟨g, n, C, rfl, hB, h, Nat.le_refl _, hm, by omega, by rw [List.take_of_length_le (by simp [hn])]⟩⟩
theorem wd_list (l : List Nat) : (u32s l).toArray = wd l := rfl
theorem wd_put (L : List Nat) (a : Nat) (y : List Nat) : ((wd L).toList.take a ++ u32s y ++ (wd L).toList.drop (a + (u32s y).length)).toArray = wd (put L a y) := by
  simp [wd, u32s, put]

/-- a block while it is mixed, and the row that it goes to -/
structure Bx (w wr : World) (X G : Nat) (x L : List Nat) : Prop where
  rx : RowAt wr X 81 (wd x)
  rg : RowAt wr G 50 (wd L)
  below : Below w.heap.size w wr
  atX : w.heap.size ≤ X
  atG : w.heap.size ≤ G
  ne : X ≠ G
section
variable {w wr wr' : World} {X G : Nat} {x L : List Nat}
theorem Bx.step (h : Bx w wr X G x L) (hb : Below wr.heap.size wr wr') : Bx w wr' X G x L :=
  ⟨h.rx.below hb h.rx.lt, h.rg.below hb h.rg.lt, h.below.trans (hb.mono h.below.size), h.atX, h.atG, h.ne⟩
theorem Bx.drew (h : Bx w wr X G x L) : Bx w wr.drew X G x L := h.step (Below.refl _ _).drew
theorem Bx.set (h : Bx w wr X G x L) (i z : Nat) : Bx w (wr.setCell ⟨X, i, none⟩ (.int .u32 (z : Int))) X G (x.set i z) L :=
  ⟨by rw [← wd_set]; exact h.rx.setCell i _, h.rg.setOther _ h.ne _, h.below.setCell h.atX _, h.atX, h.atG, h.ne⟩
theorem Bx.setX (h : Bx w wr X G x L) (y : List Nat) : Bx w (wr.setRow X (wd y)) X G y L :=
  ⟨h.rx.setRow _, h.rg.setRowOther _ h.ne _, below_setRow h.below h.atX _, h.atX, h.atG, h.ne⟩
theorem Bx.setG (h : Bx w wr X G x L) (M : List Nat) : Bx w (wr.setRow G (wd M)) X G x M :=
  ⟨h.rx.setRowOther _ (Ne.symm h.ne) _, h.rg.setRow _, below_setRow h.below h.atG _, h.atX, h.atG, h.ne⟩
end

set_option maxHeartbeats 6400000 in
theorem mix_any (r : Nat) (h1 : 1 ≤ r) (h2 : r ≤ 512) (A : Option Addr) (n c : Nat) (l : List Nat) (hl : l.length = n) (hn : n = 32 * r) (hnc : n ≤ c) (ho : okw l) (w : World) (hk : QAt w) (hr : Reads w w.heap.size A (u32s l)) :
    Calls Tryd.prog 38 #[.int .i64 (r : Int), .slice A n c] w fun e w' => ∃ G, e = .returned (.tuple #[.slice (some ⟨G, 0, none⟩) n n, .int .i64 0]) ∧ RowAt w' G 50 (wd (mx l r (2 * r))) ∧ w.heap.size ≤ G ∧ Below w.heap.size w w' := by
  have HCK := Lib.hid fun w => check_ok r h1 h2 A n c hn w
  have HBL := Lib.hid fun w => blocks_any r h2 w
  have HLA := Lib.hid fun w => last_any A n c l hl (by omega) (by omega) hnc w
  have HPL := Lib.hid fun i hi w => place_any r i h2 hi w
  obtain ⟨b, hb⟩ : ∃ b, 2 * r = b := ⟨_, rfl⟩
  rw [hb] at HBL ⊢
  have HB := Lib.hid hb
  have HN := Lib.hid hn
  have HL := Lib.hid hl
  have HO := Lib.hid ho
  have HQ := Lib.hid hk
  have HR := Lib.hid hr
  obtain ⟨g, o, rfl, hg, hc⟩ := reads_words hr (by omega)
  have HC : Hid (∀ wr, Below w.heap.size w wr → ∀ k, k < n → wr.cell? ⟨g, o + k, none⟩ = some (.int .u32 (l.getD k 0 : Nat))) := Lib.hid fun wr hb k hk => (hb.cell (p := ⟨g, o + k, none⟩) hg).trans (hc k (by omega))
  have HSL := Lib.hid (st_length l (by omega))
  have HSO := Lib.hid fun i => st_ok ho i
  have HML := Lib.hid (mx_length l r (by omega))
  have hbb : b ≤ 1024 := by omega
  have hnb : n ≤ 16384 := by omega
  have hn16 : n = 16 * b := by omega
  have HN16 := Lib.hid hn16
  have H1 := Lib.hid h1
  obtain ⟨i0, hi0, hz0, hz1, hz2⟩ := info_parts u32_info
  clear hr hc hg hk ho hl hn hb h1 h2 hnc hn16
  go_enter Tryd.func38, Tryd.ntmps38
  go_wp2_with fail
  refine (HCK.out w).mono ?_
  rintro e w' ⟨rfl, rfl⟩
  go_wp2_with fail
  refine (HLA.out w HR.out).mono ?_
  rintro e w1 ⟨rfl, b1⟩
  have RX := Lib.hid ((RowAt.new w1 81 (wd (List.replicate 16 0))))
  have HZ := Lib.hid (show (wd (lst l)).size = 16 by rw [wd_size]; exact HSL.out 0)
  have HST : Hid (lst l = st l 0) := Lib.hid rfl
  have BX := Lib.hid ((below_setRow ((Below.refl _ w1).alloc (Nat.le_refl _) (.cells (wd (List.replicate 16 0)) 81)) (Nat.le_refl _) (wd (lst l))))
  generalize lst l = x0 at *
  go_wp2_with (first
    | refine wpList_store_row rfl 81 (.tmp 7) (.tmp 18) rfl w1.heap.size (wd x0) rfl rfl 81 _ RX.out (by rw [HZ.out]; exact size_16) (by rw [HZ.out]; rfl) (wd_one _) ?_
    | (at_make; refine wpList_make_full _ rfl _ _ 22 rfl w1.heap.size.succ 50 i0 (.int .u32 0) 1 Tryd.underlying22 hi0 hz0 hz1 _ _ _ _ n rfl rfl ?c0 ?c00 ?c1 ?c2 ?c3 ?_))
  case c0 => rfl
  case c00 => rfl
  case c1 => rw [hz2]; omega
  case c2 => unfold maxLen; omega
  case c3 => simp [setRow_size]
  intro w2 hown hgr
  have e0 : (madeCells #[.int .u32 0] n).toList = u32s (mx l r 0) := by
    rw [toList_madeCells_one, mx, ← HN.out]
    unfold u32s
    rw [List.map_replicate]; rfl
  rw [e0] at hown
  have hgb := (Below.refl (w1.heap.size + 1) _).grown hgr (by simp [setRow_size]) (by simp)
  have HX1 : Hid (Bx w w2 w1.heap.size (w1.heap.size + 1) x0 (mx l r 0)) := Lib.hid ⟨(RX.out.setRow (wd x0)).below hgb (Nat.lt_succ_self _), own_rowAt hown, (b1.trans (BX.out.mono b1.size)).trans (hgb.mono (by have := b1.size; omega)), b1.size, by have := b1.size; omega, by omega⟩
  clear hown hgr e0 hgb BX RX HZ HLA HCK
  obtain ⟨X, hX⟩ : ∃ X, X = w1.heap.size := ⟨_, rfl⟩
  obtain ⟨G, hG⟩ : ∃ G, G = w1.heap.size + 1 := ⟨_, rfl⟩
  rw [← hG] at HX1 ⊢
  rw [← hX] at HX1 ⊢
  rw [HST.out] at HX1
  clear hX hG HST b1
  go_wp2_with fail
  refine (HBL.out w2).mono ?_
  rintro e w' ⟨rfl, rfl⟩
  go_wp2
  clear HBL
  go_loopw [9, 10, 24, 27] (fun _ _ v24 _ wr => ∃ i : Nat, i ≤ b ∧ v24 = .int .i64 (i : Int) ∧ Bx w wr X G (st l i) (mx l r i)) (fun _ _ v24 _ _ => b - (intOf v24).toNat)
  case atStart => exact ⟨0, by omega, rfl, HX1.out⟩
  case round =>
    clear HX1
    obtain ⟨i, hi, rfl, Y⟩ := hrel
    have HX := Lib.hid Y
    clear Y
    by_cases h : i < b
    · have hdt : decide ((i : Int) < (b : Int)) = true := by simp; omega
      have HN1 : Hid (st l (i + 1) = core (xr (st l i) l (16 * i) 16) 4) := Lib.hid rfl
      have HM1 : Hid (mx l r (i + 1) = put (mx l r i) (16 * pl r i) (st l (i + 1))) := Lib.hid rfl
      have hxl := HSL.out i
      have hxo := HSO.out i
      have HYL := Lib.hid (HSL.out (i + 1))
      have HML2 := Lib.hid (HML.out i (by have := HB.out; omega))
      have HPI := Lib.hid fun w => HPL.out i (by have := HB.out; omega) w
      have hpl := pl_lt (r := r) (i := i) (by have := HB.out; omega)
      generalize pl r i = p at *
      obtain ⟨L2, hL2⟩ : ∃ L2, mx l r (i + 1) = L2 := ⟨_, rfl⟩
      have HL2 := Lib.hid hL2
      rw [hL2] at HM1
      clear hL2
      generalize mx l r i = L at *
      generalize st l i = x at *
      have HXL := Lib.hid hxl
      have HXO := Lib.hid hxo
      clear hxl hxo
      go_wp2
      go_loopw [10, 27] (fun _ v27 wr => ∃ k : Nat, k ≤ 16 ∧ v27 = .int .i64 (k : Int) ∧ Bx w wr X G (xr x l (16 * i) k) L) (fun _ v27 _ => 16 - (intOf v27).toNat)
      case atStart => exact ⟨0, by omega, rfl, HX.out⟩
      case round =>
        clear HX
        obtain ⟨k, hk, rfl, Y⟩ := hrel
        have HX := Lib.hid Y
        clear Y
        by_cases h6 : k < 16
        · have hd : decide ((k : Int) < 16) = true := by simp; omega
          have cj := (HX.out.rx.cell k).trans (wd_at _ k (by rw [xr_length, HXL.out]; exact h6))
          rw [xr_at x l (16 * i) k k (Nat.le_refl _)] at cj
          have dj := HC.out wr HX.out.below (16 * i + k) (by have := HN16.out; omega)
          have HF : Hid (xr x l (16 * i) (k + 1) = (xr x l (16 * i) k).set k (x.getD k 0 ^^^ l.getD (16 * i + k) 0)) := Lib.hid rfl
          have hv := xor32 (x.getD k 0) (l.getD (16 * i + k) 0) (HXO.out.at_ _) (HO.out.at_ _)
          have e1 : (i : Int) * 16 = ((16 * i : Nat) : Int) := by omega
          have e2 : ((16 * i : Nat) : Int) + (k : Int) = ((16 * i + k : Nat) : Int) := by omega
          have hq : 16 * i + k < n := by have := HN16.out; omega
          generalize x.getD k 0 = u at *
          generalize l.getD (16 * i + k) 0 = v at *
          generalize u ^^^ v = s at *
          generalize xr x l (16 * i) k = z at *
          generalize 16 * i + k = q at *
          generalize 16 * i = f at *
          have hj0 : (0 : Int) ≤ (k : Int) := by omega
          have hj6 : (k : Int) < 16 := by omega
          have hq0 : (0 : Int) ≤ (q : Int) := by omega
          have hq6 : (q : Int) < (n : Int) := by omega
          have hfb : f ≤ 100000 := by omega
          have hwf : IntKind.i64.wrap (f : Int) = (f : Int) := IntWalk.i64_in _ (by omega)
          have hwq : IntKind.i64.wrap (q : Int) = (q : Int) := IntWalk.i64_in _ (by omega)
          have k1 : ∀ tp d os out, (World.mk wr.heap tp d os out).cell? ⟨X, k, none⟩ = some (.int .u32 (u : Int)) := fun _ _ _ _ => cj
          have k2 : ∀ tp d os out, (World.mk wr.heap tp d os out).cell? ⟨g, o + q, none⟩ = some (.int .u32 (v : Int)) := fun _ _ _ _ => dj
          clear cj dj
          go_wp2
          refine wp_region_still_tail 12 (by kernel_rfl) (by kernel_rfl) ?_
          simp only [List.take_succ_cons, List.take_zero, List.drop_succ_cons, List.drop_zero]
          repeat still_step
          refine wpStill_nil ?_
          change wpList _ _ _ _ _ wr.drew
          have HD := Lib.hid HX.out.drew
          have fk : wr.drew.frozen? ⟨X, k, none⟩ = false := HX.out.drew.rx.frozen k
          have ck : wr.drew.cell? ⟨X, k, none⟩ = some (.int .u32 (u : Int)) := k1 _ _ _ _
          clear k1 k2 HX
          generalize wr.drew = w4 at *
          go_wp2
          go_roundw
          case rel => exact ⟨k + 1, by omega, by go_num, by rw [HF.out]; exact HD.out.set k s⟩
          case measure => simp [intOf]; omega
        · obtain rfl : k = 16 := by omega
          have hd : decide (((16 : Nat) : Int) < 16) = false := by simp
          have hzl : (xr x l (16 * i) 16).length = 16 := by rw [xr_length]; exact HXL.out
          have CE := Lib.hid (eight_any (xr x l (16 * i) 16) hzl (xr_ok HXO.out HO.out _ _) wr (HQ.out.next HX.out.below))
          rw [← HN1.out] at CE
          generalize xr x l (16 * i) 16 = z at *
          obtain ⟨y, hy⟩ : ∃ y, st l (i + 1) = y := ⟨_, rfl⟩
          have HY := Lib.hid hy
          rw [hy] at CE HM1 HYL
          clear hy
          have HZS := Lib.hid (show (wd z).size = 16 by rw [wd_size]; exact hzl)
          have HYS := Lib.hid (show (wd y).size = 16 by rw [wd_size]; exact HYL.out)
          clear hzl
          go_wp2_with (refine wpList_load_row rfl 81 (.tmp 7) rfl X rfl 81 (wd z) (0, 0) _ HX.out.rx Tryd.underlying81 rfl (by rw [HZS.out]; exact size_16) ?_)
          refine CE.out.mono ?_
          rintro e w2 ⟨rfl, hb⟩
          have HX2 := Lib.hid (HX.out.step hb)
          clear hb HX CE
          have HX3 := Lib.hid (HX2.out.setX y)
          go_wp2_with (refine wpList_store_row rfl 81 (.tmp 7) (.tmp 44) rfl X (wd y) rfl rfl 81 _ HX2.out.rx (by rw [HYS.out]; exact size_16) (by rw [HYS.out, HZS.out]) (wd_one _) ?_)
          generalize World.setRow _ _ _ = w3 at *
          clear HX2
          have ha : 16 * p + 16 ≤ n := by have := HN16.out; have := HB.out; omega
          have e1 : (p : Int) * 16 = ((16 * p : Nat) : Int) := by omega
          have HD := Lib.hid HX3.out.drew
          have hcp := fun (ty : TypeId) => run_copy_row (P := Tryd.prog) w3.drew 22 22 ty 50 G (16 * p) (n - 16 * p) (n - 16 * p) ⟨X, 0, none⟩ 16 16 (wd L) 50 (u32s y) Tryd.underlying22 size_u32 HD.out.rg (by rw [u32s_length, HYL.out]; exact (Nat.min_eq_left (by omega)).symm)
            (fun j u hj => by
              have hadd : (⟨X, 0, none⟩ : Addr).add j = ⟨X, j, none⟩ := by unfold Addr.add; split <;> simp_all
              rw [hadd, HD.out.rx.cell j]
              simpa [wd] using hj) (by rw [u32s_length, HYL.out, wd_size, HML2.out, ← HN.out]; exact ha) (fun u hu => by simp only [u32s, List.mem_map] at hu; obtain ⟨x, _, rfl⟩ := hu; rfl)
          rw [wd_put, ← HM1.out, u32s_length, HYL.out] at hcp
          clear HX3
          generalize 16 * p = a at *
          have hab : a < n := by omega
          have han : a ≤ n := by omega
          have hwa : IntKind.i64.wrap (a : Int) = (a : Int) := IntWalk.i64_in _ (by omega)
          have hane : ¬ n = a := by omega
          have hpb : p ≤ 100000 := by omega
          have hp0 : (0 : Int) ≤ (a : Int) := by omega
          have hp1 : (a : Int) ≤ (n : Int) := by omega
          go_wp2
          refine wp_region_still_tail 7 (by kernel_rfl) (by kernel_rfl) ?_
          simp only [List.take_succ_cons, List.take_zero, List.drop_succ_cons, List.drop_zero]
          repeat still_step
          still_call ((HPI.out _).mono fun _ _ h => And.intro h.1 h.2.symm)
          repeat still_step
          refine wpStill_nil ?_
          change wpList _ _ _ _ _ w3.drew
          generalize w3.drew = w4 at *
          have HIB := Lib.hid h
          clear e1 ha han hwa hane hpb hp0 hp1 h hpl hd hdt
          go_wp2
          go_roundw
          case rel => exact ⟨i + 1, by have := HIB.out; omega, by go_num, by rw [HY.out, HL2.out]; exact HD.out.setG L2⟩
          case measure => have := HIB.out; simp [intOf]; omega
    · obtain rfl : i = b := by omega
      have hdt : decide ((i : Int) < (i : Int)) = false := by simp
      go_wp2
      go_ret2
      have := HX.out
      exact ⟨G, rfl, this.rg, this.atG, this.below⟩
end Go.Proofs.YtohmkhmanidljaaDoor
