/- The law FillOrder by the calls' contracts: a turn's lanes are filled in any order. Conditions: blake's and blend's tables lie at their places; the order's numbers read. -/
import Derived.Test.YthbeoobfhfpelaaGreatDoorFlTake
import Derived.Deep.RegionWith
namespace Go.Proofs.YthbeoobfhfpelaaGreatDoor
set_option maxRecDepth 50000
open Go.RowKit Bb Bn

/-- two grids of one shape that lie apart -/
structure Pair (w : World) (q p h G q' p' h' G' a t l m b c g z : Nat) (L L' : List (List Nat)) : Prop where
  one : GrAt w q p h G a t l m b c g z L
  two : GrAt w q' p' h' G' a t l m b c g z L'
  ne : G ≠ G'
section
variable {w w' : World} {q p h G q' p' h' G' a t l m b c g z : Nat} {L L' M : List (List Nat)}
theorem Pair.step (H : Pair w q p h G q' p' h' G' a t l m b c g z L L') (hb : Below w.heap.size w w') : Pair w' q p h G q' p' h' G' a t l m b c g z L L' := ⟨H.one.step hb, H.two.step hb, H.ne⟩
theorem Pair.first (H : Pair w q p h G q' p' h' G' a t l m b c g z L L') (hg : GrAt w' q p h G a t l m b c g z M) (hk : Kept (fun j => j = G) w w') : Pair w' q p h G q' p' h' G' a t l m b c g z M L' :=
  ⟨hg, H.two.keep hk (RowAt.unlike H.two.row H.one.live.blk (by rfl)) (RowAt.unlike H.two.live.row H.one.live.blk (by rfl)) fun e => H.ne e.symm, H.ne⟩
theorem Pair.second (H : Pair w q p h G q' p' h' G' a t l m b c g z L L') (hg : GrAt w' q' p' h' G' a t l m b c g z M) (hk : Kept (fun j => j = G') w w') : Pair w' q p h G q' p' h' G' a t l m b c g z L M :=
  ⟨H.one.keep hk (RowAt.unlike H.one.row H.two.live.blk (by rfl)) (RowAt.unlike H.one.live.row H.two.live.blk (by rfl)) H.ne, hg, H.ne⟩
theorem Pair.far {x : Nat} {ty : TypeId} {C : Array Value} (H : Pair w q p h G q' p' h' G' a t l m b c g z L L') (hk : Kept (fun j => j = x) w w') (hx : RowAt w x ty C) (h1 : (34 == ty) = false) (h2 : (127 == ty) = false) (h3 : (67 == ty) = false) : Pair w' q p h G q' p' h' G' a t l m b c g z L L' :=
  ⟨H.one.far hk hx h1 h2 h3, H.two.far hk hx h1 h2 h3, H.ne⟩
end

set_option maxHeartbeats 25600000 in
theorem order32_any (pa pt pm pl pz : Int) (bt : ByteArray) (A : Option Addr) (cc : Nat) (zs : List Int) (W : World) (hR : Reads W W.heap.size A (zs.map (Value.int .i64))) (hK : QAt W) (hT : TAt W) :
    Calls Tryz.prog 5 #[pav pa pt pm pl pz, .string bt, .slice A zs.length cc] W fun e w' => e = .returned (.bool true) ∧ Below W.heap.size W w' := by
  have CM := made_sh pa pt pm pl pz
  have HP := Lib.hid (RowAt.new W 23 (pac pa pt pm pl pz))
  have HBW := Lib.hid (one_box W (.cells (pac pa pt pm pl pz) 23))
  have CA := Lib.hid (awake32_any _ (hT.next HBW.out))
  have HKW := Lib.hid hK
  have HTW := Lib.hid hT
  have HRW := Lib.hid hR
  clear hK hT hR
  go_enter Tryz.func5, Tryz.ntmps5
  go_wp2_with fail
  refine CA.out.mono ?_
  rintro e w1 ⟨rfl, hb⟩
  have HP1 := Lib.hid (RowAt.step HP.out hb)
  have HB1 := Lib.hid (below_step HBW.out hb)
  clear CA HP HBW hb
  rcases CM with CM | ⟨al, t, l, m, b, c, g, z, HSh, ht3, hl4, hb80, CM⟩
  · go_upto_region 3 with fail
    refine wp_region_text [Is (pav pa pt pm pl pz), Is (.pointer none), Is (pav pa pt pm pl pz), Is (.pointer none), Is (.pointer none), Is (.pointer none)] (by kernel_rfl) (by kernel_rfl) rfl ⟨stable_is _, stable_is _, stable_is _, stable_is _, stable_is _, stable_is _, trivial⟩ ⟨?_, ?_, ?_, ?_, ?_, ?_, trivial⟩ ?_
    · intro a w C
      exact part_on (wanted_free rfl _) (op_value (load_run rfl (C.was 3 (by kernel_rfl)) (pa_load (HP1.out.step C.below))) rfl)
    · intro a w C
      exact part_on (wanted_free rfl _) (op_call1 rfl (reg_enters Tryz.func7 (by kernel_rfl) (by kernel_rfl)) (C.on (j := 0) (by kernel_rfl) rfl rfl) (calls_is (CM w)))
    · intro a w C
      exact part_on (wanted_free rfl _) (op_value (load_run rfl (C.was 3 (by kernel_rfl)) (pa_load (HP1.out.step C.below))) rfl)
    · intro a w C
      exact part_on (wanted_free rfl _) (op_call1 rfl (reg_enters Tryz.func7 (by kernel_rfl) (by kernel_rfl)) (C.on (j := 2) (by kernel_rfl) rfl rfl) (calls_is (CM w)))
    · intro a w C
      exact part_on (wanted_free rfl _) (op_move (.inr rfl) (C.on (j := 1) (by kernel_rfl) rfl rfl))
    · intro a w C
      exact part_on (wanted_free rfl _) (op_move (.inr rfl) (C.on (j := 3) (by kernel_rfl) rfl rfl))
    rintro wF hbF _ rfl _ rfl _ rfl _ rfl _ rfl _ rfl
    simp only [Fin, setAt, Exit.then, List.setIfInBounds_toArray, List.set_cons_succ, List.set_cons_zero]
    have HB2 := Lib.hid (below_step HB1.out hbF)
    clear HP1 HB1 hbF CM
    go_wp2
    go_ret
    exact ⟨rfl, HB2.out⟩
  have c0 : w1.cell? ⟨W.heap.size, 0, none⟩ = some (.int .i64 pa) := (RowAt.cell HP1.out 0).trans rfl
  have c1 : w1.cell? ⟨W.heap.size, 1, none⟩ = some (.int .i64 pt) := (RowAt.cell HP1.out 1).trans rfl
  have c2 : w1.cell? ⟨W.heap.size, 2, none⟩ = some (.int .i64 pm) := (RowAt.cell HP1.out 2).trans rfl
  have c3 : w1.cell? ⟨W.heap.size, 3, none⟩ = some (.int .i64 pl) := (RowAt.cell HP1.out 3).trans rfl
  have c4 : w1.cell? ⟨W.heap.size, 4, none⟩ = some (.int .i64 pz) := (RowAt.cell HP1.out 4).trans rfl
  go_upto_region 3 with fail
  go_cut [7, 8] from 17 (fun v7 v8 wx => ∃ q p h G q' p' h' G' : Nat, v7 = .pointer (some ⟨q, 0, none⟩) ∧ v8 = .pointer (some ⟨q', 0, none⟩) ∧ Hid (Pair wx q p h G q' p' h' G' al t l m b c g z (List.replicate b zb) (List.replicate b zb)) ∧ W.heap.size ≤ G ∧ W.heap.size ≤ G' ∧ Hid (Below W.heap.size W wx))
  case first =>
    have HM0 : Hid True := Lib.hid trivial
    go_region_with (first
      | (go_at_call 7; have H2 := HM1.out; refine (CM _).mono ?_; rintro e w3 ⟨q', p', h', G', rfl, hG', hGe', hb'⟩; have HM2 := Lib.hid (And.intro hG' (And.intro hGe' hb')); clear hG' hGe' hb' H2)
      | (go_at_call 7; have H1 := HM0; refine (CM _).mono ?_; rintro e w2 ⟨q, p, h, G, rfl, hG, hGe, hb⟩; have HM1 := Lib.hid (And.intro hG (And.intro hGe hb)); clear HM0 H1;
          have d0 : w2.cell? ⟨W.heap.size, 0, none⟩ = some (.int .i64 pa) := (RowAt.cell (RowAt.step (RowAt.drew HP1.out) hb) 0).trans rfl;
          have d1 : w2.cell? ⟨W.heap.size, 1, none⟩ = some (.int .i64 pt) := (RowAt.cell (RowAt.step (RowAt.drew HP1.out) hb) 1).trans rfl;
          have d2 : w2.cell? ⟨W.heap.size, 2, none⟩ = some (.int .i64 pm) := (RowAt.cell (RowAt.step (RowAt.drew HP1.out) hb) 2).trans rfl;
          have d3 : w2.cell? ⟨W.heap.size, 3, none⟩ = some (.int .i64 pl) := (RowAt.cell (RowAt.step (RowAt.drew HP1.out) hb) 3).trans rfl;
          have d4 : w2.cell? ⟨W.heap.size, 4, none⟩ = some (.int .i64 pz) := (RowAt.cell (RowAt.step (RowAt.drew HP1.out) hb) 4).trans rfl;
          clear hG hGe hb))
    all_goals
      go_wp2_with fail
      go_meet
      obtain ⟨hG, hGe, hb⟩ := HM1.out
      obtain ⟨hG', hGe', hb'⟩ := HM2.out
      have hlt := hG.live.blk.lt
      have hB2 := HB1.out.trans ((Below.refl w1.heap.size w1).drew.trans hb |>.mono HB1.out.size)
      have hGe2 : w1.heap.size ≤ G := hGe
      have hz1 := HB1.out.size
      have hz2 := hb.size
      replace hz2 : w1.heap.size ≤ w2.heap.size := hz2
      exact ⟨q, p, h, G, q', p', h', G', rfl, rfl, Lib.hid ⟨hG.step hb', hG', by omega⟩, by omega, by omega, Lib.hid (hB2.trans (hb'.mono hB2.size))⟩
  case rest =>
    obtain ⟨q, p, h, G, q', p', h', G', rfl, rfl, HPa, hGW, hGW', HB2⟩ := hcut
    clear c0 c1 c2 c3 c4 HP1 HB1 CM
    by_cases hs2 : 200 < bt.size
    · have d1 : decide ((200 : Int) < (bt.size : Int)) = true := by simp; omega
      have d2 : decide (200 < bt.size) = true := by simp; omega
      go_wp2
      go_ret
      exact ⟨rfl, HB2.out⟩
    have d1 : decide ((200 : Int) < (bt.size : Int)) = false := by simp; omega
    have d2 : decide (200 < bt.size) = false := by simp; omega
    have hss : bt.size ≤ 200 := by omega
    have S := HSh
    have hl0 := S.l1
    have HSh := Lib.hid HSh
    have hcm := S.cm
    have hc8 : 8 ≤ c := by have := S.cg; have := S.g2; omega
    have HBL := Lib.hid S.bl
    have hbL : (List.replicate b zb).length = b := by simp
    obtain ⟨M, hM⟩ : ∃ M, begTo bt c (List.replicate b zb) l = M := ⟨_, rfl⟩
    have hMl : M.length = l * c := by rw [← hM, begTo_len, hbL]; exact HBL.out
    have hB0 : ∀ u q p h G, W.heap.size ≤ G → Below W.heap.size W u → GrAt u q p h G al t l m b c g z (List.replicate b zb) → Calls Tryz.prog 8 #[.pointer (some ⟨q, 0, none⟩), .string bt] u fun e w' => e = .returned (.int .i64 0) ∧ GrAt w' q p h G al t l m b c g z M ∧ Kept (fun j => j = G) u w' := fun u q p h G hGW hb hg => by
      have H := begin_any (N0 := W.heap.size) HKW.out.1 hGW (HKW.out.next hb) hg (by omega) (by omega) (by omega) (by rw [hbL]; exact HBL.out) (by rw [hbL]; omega) bt (by omega)
      rwa [hM] at H
    have CB1 := Lib.hid (hB0 _ _ _ _ _ hGW HB2.out HPa.out.one)
    have HB0 := Lib.hid hB0
    have HML := Lib.hid hMl
    clear hB0 S hs2 hM hMl hbL
    go_wp2_with fail
    refine CB1.out.mono ?_
    rintro e w3 ⟨rfl, hg3, hk3⟩
    have HPa3 := Lib.hid (HPa.out.first hg3 hk3)
    have HB3 : Hid (Below W.heap.size W w3) := Lib.hid (HB2.out.trans (hk3.below HB2.out.size fun x hx => by omega))
    have CB2 := Lib.hid (HB0.out _ _ _ _ _ hGW' HB3.out HPa3.out.two)
    clear hg3 hk3 HPa HB2 CB1
    go_wp2_with fail
    refine CB2.out.mono ?_
    rintro e w4 ⟨rfl, hg4, hk4⟩
    have HPa4 := Lib.hid (HPa3.out.second hg4 hk4)
    have HB4 : Hid (Below W.heap.size W w4) := Lib.hid (HB3.out.trans (hk4.below HB3.out.size fun x hx => by omega))
    have CFA := Lib.hid (fillall_any HSh.out HPa4.out.one HML.out (HTW.out.next HB4.out) (N0 := W.heap.size) ⟨HTW.out.1.1, HTW.out.2.1⟩ hGW)
    clear hg4 hk4 HPa3 HB3 CB2 HB0
    go_wp2_with fail
    refine CFA.out.mono ?_
    rintro e w5 ⟨rfl, hg5, hk5⟩
    obtain ⟨M', hM'⟩ : ∃ M', allTo al t l b c g M (4 * t) = M' := ⟨_, rfl⟩
    have HM' := Lib.hid hM'
    rw [hM'] at hg5
    have HPa5 := Lib.hid (HPa4.out.first hg5 hk5)
    have HB5 : Hid (Below W.heap.size W w5) := Lib.hid (HB4.out.trans (hk5.below HB4.out.size fun x hx => by omega))
    clear hg5 hk5 HPa4 HB4 CFA hM'
    obtain ⟨w6, e6⟩ : ∃ w6, w6 = w5.alloc (.cells (tuc 0 0) 48) := ⟨_, rfl⟩
    have b6 : Below w5.heap.size w5 w6 := by rw [e6]; exact one_box _ _
    have HPa6 := Lib.hid (HPa5.out.step b6)
    have HR6 : Hid (RowAt w6 w5.heap.size 48 (tuc 0 0)) := Lib.hid (by rw [e6]; exact RowAt.new _ _ _)
    have HB6 : Hid (Below W.heap.size W w6) := Lib.hid (HB5.out.trans (b6.mono HB5.out.size))
    have HZ6 := Lib.hid HB5.out.size
    have E6 := Lib.hid e6
    clear b6 e6 HPa5 HB5
    go_wp2
    rw [← E6.out]
    clear E6
    generalize w5.heap.size = R0 at *
    go_loopg [9, 10, 11] (4 * t) (fun g' v9 v10 v11 wr => ∃ n r at0 : Nat, n + g' = 4 * t ∧ at0 ≤ 4 * n ∧ v9 = .int .i64 (at0 : Int) ∧ v10 = .pointer (some ⟨r, 0, none⟩) ∧ v11 = .bool (decide (n < 4 * t)) ∧ W.heap.size ≤ r ∧ Hid (RowAt wr r 48 (tuc (tuA t n : Nat) (tuB t n : Nat))) ∧ Hid (Pair wr q p h G q' p' h' G' al t l m b c g z M' (allTo al t l b c g M n)) ∧ Hid (Below W.heap.size W wr))
    case atStart =>
      have ht1 := HSh.out.t1
      refine ⟨0, R0, 0, by omega, by omega, rfl, rfl, by simp; omega, HZ6.out, ?_, HPa6, HB6⟩
      have e1 : tuA t 0 = 0 := by simp [tuA]
      have e2 : tuB t 0 = 0 := by simp [tuB]
      rw [e1, e2]
      exact HR6
    case round =>
      obtain ⟨n, r, at0, hng, hat0, rfl, rfl, rfl, hr, HRow, HPr, HBr⟩ := hrel
      clear HPa6 HR6 HB6 HZ6
      by_cases hn : n < 4 * t
      · obtain ⟨g', rfl⟩ : ∃ g', gk = g' + 1 := ⟨gk - 1, by omega⟩
        have hdn : decide (n < 4 * t) = true := by simpa using hn
        have HNN := Lib.hid hn
        have HNG := Lib.hid hng
        obtain ⟨A0, hA0⟩ : ∃ A0, n / 4 = A0 := ⟨_, rfl⟩
        obtain ⟨B0, hB0⟩ : ∃ B0, n % 4 = B0 := ⟨_, rfl⟩
        have HRow1 : Hid (RowAt wr r 48 (tuc A0 B0)) := Lib.hid (by
          have h := HRow.out
          rwa [show tuA t n = n / 4 from if_pos hn, show tuB t n = n % 4 from if_pos hn, hA0, hB0] at h)
        have hA : A0 < t := by omega
        have hB : B0 ≤ 3 := by omega
        obtain ⟨L0, hL0⟩ : ∃ L0, allTo al t l b c g M n = L0 := ⟨_, rfl⟩
        rw [hL0] at HPr
        have HL0 : Hid (L0.length = l * c) := Lib.hid (by rw [← hL0, allTo_len]; exact HML.out)
        have HNX : Hid (turnTo al t l b c g L0 A0 B0 l = allTo al t l b c g M (n + 1)) := Lib.hid (by rw [← hL0, ← hA0, ← hB0]; rfl)
        have HAB := Lib.hid (And.intro hA0 hB0)
        have k3 := HPr.out.two.row.lanes
        obtain ⟨w2, e2⟩ : ∃ w2, w2 = wr.alloc (.cells (ints (List.replicate l 0)).toArray 3) := ⟨_, rfl⟩
        have b2 : Below wr.heap.size wr w2 := by rw [e2]; exact one_box _ _
        have HLs2 : Hid (LsAt W.heap.size (List.replicate l 0) (.slice (some ⟨wr.heap.size, 0, none⟩) l l) w2) := Lib.hid (by rw [e2]; exact ls_made l (by omega) wr HBr.out.size)
        have HR2 := Lib.hid (RowAt.step HRow1.out b2)
        have HP2 := Lib.hid (HPr.out.step b2)
        have HB2 : Hid (Below W.heap.size W w2) := Lib.hid (HBr.out.trans (b2.mono HBr.out.size))
        have E2 := Lib.hid e2
        have HMk := Lib.hid (ls_make l (by omega) wr)
        rw [hdn]
        clear hA0 hB0 hL0 HRow HRow1 hn hng hdn b2 e2 HPr HBr
        go_wp2_with (refine wpList_madeN rfl _ _ (mk_run rfl rfl rfl HMk.out) ?_)
        rw [← E2.out]
        clear E2 k3 HMk
        generalize wr.heap.size = o at *
        go_loopw [56] (fun v56 wx => ∃ i : Nat, i ≤ l ∧ v56 = .int .i64 (i : Int) ∧ Hid (LsAt W.heap.size (List.range i ++ List.replicate (l - i) 0) (.slice (some ⟨o, 0, none⟩) l l) wx) ∧ Hid (RowAt wx r 48 (tuc A0 B0)) ∧ Hid (Pair wx q p h G q' p' h' G' al t l m b c g z M' L0) ∧ Hid (Below W.heap.size W wx)) (fun v56 _ => l - (intOf v56).toNat)
        case atStart => exact ⟨0, Nat.zero_le _, rfl, HLs2, HR2, HP2, HB2⟩
        case round =>
          obtain ⟨i, hi, rfl, HLs, HRx, HPx, HBx⟩ := hrel
          clear HLs2 HR2 HP2 HB2
          by_cases hil : i < l
          · have hd : decide ((i : Int) < (l : Int)) = true := by simp; omega
            have hd2 : decide (i < l) = true := by simp; omega
            have hlen : (List.range i ++ List.replicate (l - i) 0).length = l := by simp; omega
            have f0 := HLs.out.unfrozen hlen.symm i
            have c0 := HLs.out.cell hlen.symm (j := i) (by omega)
            obtain ⟨ho, cur, hcur⟩ := HLs.out.row
            have hk3 : Kept (fun j => j = o) wr (wr.setCell ⟨o, i, none⟩ (.int .i64 (i : Int))) := Kept.at_set wr o i _
            have HLs3 := Lib.hid (HLs.out.set hlen.symm i i)
            rw [range_set i l hil] at HLs3
            have HR3 := Lib.hid (RowAt.kept HRx.out hk3 (RowAt.unlike HRx.out hcur (by rfl)))
            have HP3 := Lib.hid (HPx.out.far hk3 hcur rfl rfl rfl)
            have HB3 : Hid (Below W.heap.size W (wr.setCell ⟨o, i, none⟩ (.int .i64 (i : Int)))) := Lib.hid (HBx.out.trans (hk3.below HBx.out.size fun x hx => by omega))
            clear hk3 hcur hlen HLs HRx HPx HBx
            go_wp2
            go_roundw
            case rel => exact ⟨i + 1, by omega, by go_num, HLs3, HR3, HP3, HB3⟩
            case measure => simp [intOf]; omega
          · obtain rfl : l = i := by omega
            have hd : decide ((l : Int) < (l : Int)) = false := by simp
            have HLs4 : Hid (LsAt W.heap.size (List.range l) (.slice (some ⟨o, 0, none⟩) l l) wr) := Lib.hid (by
              have h := HLs.out
              rwa [Nat.sub_self, List.replicate_zero, List.append_nil] at h)
            clear HLs
            go_wp2
            go_loopg [9, 12] l (fun g' v9 v12 wx => ∃ (at1 : Nat) (ks : List Nat) (L' : List (List Nat)), ks.length = g' ∧ at0 ≤ at1 ∧ at1 + ks.length = at0 + l ∧ v9 = .int .i64 (at1 : Int) ∧ Hid (LsAt W.heap.size ks v12 wx) ∧ Hid ((∀ x ∈ ks, x < l) ∧ ks.Nodup ∧ L'.length = l * c ∧ lanesL al t l b c g L' A0 B0 ks = turnTo al t l b c g L0 A0 B0 l) ∧ Hid (RowAt wx r 48 (tuc A0 B0)) ∧ Hid (Pair wx q p h G q' p' h' G' al t l m b c g z M' L') ∧ Hid (Below W.heap.size W wx))
            case atStart => exact ⟨at0, List.range l, L0, by simp, Nat.le_refl _, by simp, rfl, HLs4, Lib.hid ⟨fun x hx => List.mem_range.1 hx, List.nodup_range, HL0.out, lanes_range l⟩, HRx, HPx, HBx⟩
            case round =>
              clear HLs4 HRx HPx HBx
              obtain ⟨at1, ks, L', hkg, hat2, hat1, rfl, HLk, HKS, HRk, HPk, HBk⟩ := hrel
              obtain ⟨o, cp, rfl, ho, hcp, cur, hcur⟩ := HLk.out.form
              have HCUR := Lib.hid hcur
              generalize hnk : ks.length = nk at *
              by_cases hk0 : 0 < nk
              · have hd : decide ((0 : Int) < (nk : Int)) = true := by simp; omega
                have hd2 : decide (0 < nk) = true := by simp; omega
                obtain ⟨g2, rfl⟩ : ∃ g2, gk = g2 + 1 := ⟨gk - 1, by omega⟩
                have HNK := Lib.hid hnk
                have HAT := Lib.hid (And.intro hkg (And.intro hat2 hat1))
                have HCP := Lib.hid hcp
                have HAA := Lib.hid hat0
                clear hkg hat1 hat2 hnk hcp hcur hat0
                go_upto_if 70 with fail
                go_cut [14] from 64 to 103 (fun v14 wx => ∃ j : Nat, v14 = .int .i64 (j : Int) ∧ j < nk ∧ wx = wr)
                case first =>
                  by_cases hat : at1 < zs.length
                  · have he : decide ((at1 : Int) < (zs.length : Int)) = true := by simp; omega
                    have he2 : decide (at1 < zs.length) = true := by simp; omega
                    obtain ⟨b', off, rfl, hb', hc'⟩ := HRW.out at1 (by simp; omega)
                    have hc2 : wr.cell? ⟨b', off + at1, none⟩ = some (.int .i64 zs[at1]) := by
                      rw [World.cell?_of_block (w := W) (HBk.out.block b' hb'), hc', List.getElem_map]
                    generalize zs[at1] = z1 at *
                    obtain ⟨j, hj, p1, p2, p3⟩ := pick_of z1 nk (by omega) (by have := HAT.out; omega)
                    have hnz : ¬ (nk : Int) = 0 := by omega
                    clear hc'
                    go_wp2
                    go_meet
                    case rel => exact ⟨j, rfl, hj, rfl⟩
                  · have he : decide ((at1 : Int) < (zs.length : Int)) = false := by simp; omega
                    have he2 : decide (at1 < zs.length) = false := by simp; omega
                    go_wp2
                    go_meet
                    case rel => exact ⟨0, rfl, hk0, rfl⟩
                case rest =>
                  obtain ⟨j, rfl, hj, hw⟩ := hcut
                  obtain rfl : wr = wc := hw.symm
                  have HJ := Lib.hid hj
                  obtain ⟨hks1, hks2, hLl, hlan⟩ := HKS.out
                  have S := HSh.out
                  have hjl : j < ks.length := by rw [HNK.out]; exact hj
                  obtain ⟨kj, hkj⟩ : ∃ kj, ks.getD j 0 = kj := ⟨_, rfl⟩
                  have hkl : kj < l := by
                    rw [← hkj, List.getD_eq_getElem?_getD, List.getElem?_eq_getElem hjl]
                    exact hks1 _ (List.getElem_mem _)
                  have hpick := lanes_pick (L := L') S hA hB ks hks1 hks2 j hjl
                  rw [hkj, hlan] at hpick
                  obtain ⟨L2, hL2⟩ : ∃ L2, segL al t l b c g L' A0 B0 kj = L2 := ⟨_, rfl⟩
                  rw [hL2] at hpick
                  have hL2l : L2.length = l * c := by rw [← hL2, segL_len]; exact hLl
                  have HKS2 : Hid ((∀ x ∈ ks.take j ++ ks.drop (j + 1), x < l) ∧ (ks.take j ++ ks.drop (j + 1)).Nodup ∧ L2.length = l * c ∧ lanesL al t l b c g L2 A0 B0 (ks.take j ++ ks.drop (j + 1)) = turnTo al t l b c g L0 A0 B0 l) := Lib.hid ⟨(take_one hks1 hks2).1, (take_one hks1 hks2).2, hL2l, hpick⟩
                  obtain ⟨F, hF⟩ : ∃ F : World → Prop, F = fun u => GrAt u q' p' h' G' al t l m b c g z L2 ∧ Kept (fun y => y = G') wr u := ⟨_, rfl⟩
                  have HFS : Hid (∀ u u', F u → Below u.heap.size u u' → F u') := Lib.hid fun u u' hu hb => by
                    subst hF
                    exact ⟨hu.1.step hb, hu.2.trans (Kept.of_below (M := fun _ => False) hb) fun _ _ h => h.elim⟩
                  have HFE : Hid (∀ u, F u → GrAt u q' p' h' G' al t l m b c g z L2 ∧ Kept (fun y => y = G') wr u) := Lib.hid fun u hu => by subst hF; exact hu
                  have hwr : W.heap.size ≤ wr.heap.size := HBk.out.size
                  have HQ : Hid (∀ u, Below wr.heap.size wr u → (loadVar 48 ⟨r, 0, none⟩).run Tryz.prog u = .ok (tuv A0 B0) u ∧ u.cell? ⟨o, j, none⟩ = some (.int .i64 (kj : Int)) ∧
                      Calls Tryz.prog 17 #[.pointer (some ⟨q', 0, none⟩), tuv A0 B0, .int .i64 (kj : Int)] u (fun e w' => e = .returned (.int .i64 0) ∧ F w' ∧ Below W.heap.size u w' ∧ u.heap.size ≤ w'.heap.size)) := Lib.hid fun u hu => by
                    have hc := (LsAt.step HLk.out hu).cell HNK.out.symm (j := j) hjl
                    rw [hkj] at hc
                    refine ⟨tu_load (RowAt.step HRk.out hu), hc, ?_⟩
                    refine (segment_any S hA hB hkl (HPk.out.two.step hu) hLl (HTW.out.next (HBk.out.trans (hu.mono hwr))) (N0 := W.heap.size) ⟨HTW.out.1.1, HTW.out.2.1⟩ hGW').mono ?_
                    rintro e w' ⟨rfl, hg, hk⟩
                    rw [hL2] at hg
                    subst hF
                    exact ⟨rfl, ⟨hg, (Kept.of_below (M := fun y => y = G') hu).trans hk fun _ _ h => h⟩, hk.below (by have := hu.size; omega) (fun x hx => by omega), hk.size⟩
                  have hb1 : at1 ≤ 60 := by have := HAT.out; have := HAA.out; have := HNN.out; omega
                  clear hF hks1 hks2 hLl hlan S hpick hL2 hL2l hkl hkj hjl HKS hj hk0 hd hd2 hw
                  go_upto_region 25 with fail
                  refine wp_region_stage (W.heap.size) [6] [] [[0], [0], [0], [0], [0], [0], [], [1]] [[Is (.pointer (some ⟨q', 0, none⟩)), Is (tuv (A0 : Int) (B0 : Int)), Is (.slice (some ⟨o, 0, none⟩) nk cp), Is (.int .i64 (j : Int)), Is (.pointer (some ⟨o, j, none⟩)), Is (.int .i64 (kj : Int)), Free, Free], [Is (.pointer (some ⟨q', 0, none⟩)), Is (tuv (A0 : Int) (B0 : Int)), Is (.slice (some ⟨o, 0, none⟩) nk cp), Is (.int .i64 (j : Int)), Is (.pointer (some ⟨o, j, none⟩)), Is (.int .i64 (kj : Int)), IsF (.int .i64 0) F, IsF (.bool false) F]] [Is (.pointer (some ⟨q', 0, none⟩)), Is (tuv (A0 : Int) (B0 : Int)), Is (.slice (some ⟨o, 0, none⟩) nk cp), Is (.int .i64 (j : Int)), Is (.pointer (some ⟨o, j, none⟩)), Is (.int .i64 (kj : Int)), IsF (.int .i64 0) F, IsF (.bool false) F] hwr (by kernel_rfl) (by kernel_rfl) rfl rfl ⟨⟨stable_is _, stable_is _, stable_is _, stable_is _, stable_is _, stable_is _, stable_free, stable_free, trivial⟩, ⟨stable_is _, stable_is _, stable_is _, stable_is _, stable_is _, stable_is _, stable_isf _ HFS.out, stable_isf _ HFS.out, trivial⟩, trivial⟩ (by intro n hn o ho hd w; simp only [List.mem_cons, List.not_mem_nil, or_false] at hn; subst hn; first | trivial | (cases ho; cases hd)) rfl ⟨?p0, ?p1, ?p2, ?p3, ?p4, ?p5, fun h => absurd (by simp) h, ?p7, trivial⟩ ⟨?t0, trivial⟩ (by decide) ?fin
                  case p0 =>
                    intro _ k hk; obtain rfl := List.mem_singleton.1 hk; intro a w C Z
                    exact partS_on (wanted_free rfl _) (op_move (.inl rfl) (C.was 8 (by kernel_rfl)))
                  case p1 =>
                    intro _ k hk; obtain rfl := List.mem_singleton.1 hk; intro a w C Z
                    exact partS_on (wanted_free rfl _) (op_value (load_run rfl (C.was 10 (by kernel_rfl)) (HQ.out w C.below).1) rfl)
                  case p2 =>
                    intro _ k hk; obtain rfl := List.mem_singleton.1 hk; intro a w C Z
                    exact partS_on (wanted_free rfl _) (op_move (.inl rfl) (C.was 12 (by kernel_rfl)))
                  case p3 =>
                    intro _ k hk; obtain rfl := List.mem_singleton.1 hk; intro a w C Z
                    exact partS_on (wanted_free rfl _) (op_move (.inl rfl) (C.was 14 (by kernel_rfl)))
                  case p4 =>
                    intro _ k hk; obtain rfl := List.mem_singleton.1 hk; intro a w C Z
                    exact partS_on (wanted_free rfl _) (op_value (ixt_run rfl (C.on (j := 2) (by kernel_rfl) rfl rfl) (C.on (j := 3) (by kernel_rfl) rfl rfl) HJ.out) rfl)
                  case p5 =>
                    intro _ k hk; obtain rfl := List.mem_singleton.1 hk; intro a w C Z
                    exact partS_on (wanted_free rfl _) (op_value (int_run rfl (C.on (j := 4) (by kernel_rfl) rfl rfl) (HQ.out w C.below).2.1) rfl)
                  case p7 =>
                    intro _ k hk; obtain rfl := List.mem_singleton.1 hk; intro a w C Z
                    exact partS_on (wanted_free rfl _) (op_bin rfl (show IsF (.int .i64 0) F _ w from (C.on (j := 6) (by kernel_rfl) rfl rfl)).1 rfl rfl (by simp [go_sem]) ⟨rfl, (show IsF (.int .i64 0) F _ w from (C.on (j := 6) (by kernel_rfl) rfl rfl)).2⟩)
                  case t0 =>
                    intro o ho a w C A
                    cases ho
                    have cb : Below wr.heap.size wr w := C.below
                    refine ⟨wanted_free rfl _, ?_⟩
                    unfold TurnsS
                    refine Oper.wp_mono ?_ (turn_enter (reg_call3 rfl (reg_enters Tryz.func17 (by kernel_rfl) (by kernel_rfl)) (C.on (j := 0) (by kernel_rfl) rfl rfl) (C.on (j := 1) (by kernel_rfl) rfl rfl) (C.on (j := 5) (by kernel_rfl) rfl rfl)) (HQ.out w cb).2.2)
                    rintro a2 w2 ⟨rfl, hF2, hb2, hz2⟩
                    refine ⟨_, rfl, ⟨rfl, hF2⟩, (cb.mono hwr).trans hb2, hz2, ?_⟩
                    · intro i o2 d hi hd hne hnw h
                      have hil := (List.getElem?_eq_some_iff.1 hi).1
                      replace hil : i < 8 := hil
                      obtain rfl | rfl | rfl | rfl | rfl | rfl | rfl | rfl : i = 0 ∨ i = 1 ∨ i = 2 ∨ i = 3 ∨ i = 4 ∨ i = 5 ∨ i = 6 ∨ i = 7 := by omega
                      · exact h
                      · exact h
                      · exact h
                      · exact h
                      · exact h
                      · exact h
                      · exact absurd rfl hne
                      · exact absurd hnw (by rw [show waits _ 7 6 = true from by kernel_rfl]; decide)
                  case fin =>
                    rintro w4 hbF _ rfl _ rfl _ rfl _ rfl _ rfl _ rfl _ ⟨rfl, _⟩ _ ⟨rfl, hFF⟩
                    simp only [Fin, setAt, Exit.then, List.setIfInBounds_toArray, List.set_cons_succ, List.set_cons_zero]
                    obtain ⟨hg4, hk4⟩ := HFE.out _ hFF
                    have HP4 := Lib.hid (HPk.out.second hg4 hk4)
                    have HL4 := Lib.hid (LsAt.far HLk.out hk4 HPk.out.two.live.blk (by rfl))
                    have HR4 := Lib.hid (RowAt.kept HRk.out hk4 (RowAt.unlike HRk.out HPk.out.two.live.blk (by rfl)))
                    have HB4 : Hid (Below W.heap.size W w4) := Lib.hid (HBk.out.trans hbF)
                    have HX : Hid (∀ u, Below w4.heap.size w4 u → ∀ i, i < nk → u.cell? ⟨o, i, none⟩ = some (.int .i64 ((ks.getD i 0 : Nat) : Int))) := Lib.hid fun u hu i hi => (LsAt.step HL4.out hu).cell HNK.out.symm (by rw [HNK.out]; exact hi)
                    clear HQ HFE HFS hg4 hk4 hbF hFF HPk HLk HRk HBk HCUR
                    go_upto_region 27 with fail
                    have hjn := HJ.out
                    have hcpn := HCP.out
                    have HTk : Hid (∀ u, Below w4.heap.size w4 u → ∀ i, i < j → u.cell? ((⟨o, 0, none⟩ : Addr).add i) = some (.int .i64 (((ks.take j).getD i 0 : Nat) : Int))) := Lib.hid fun u hu i hi => by
                      rw [Go.WideShapes.add_plain, Nat.zero_add, HX.out u hu i (by omega)]
                      simp [List.getD_eq_getElem?_getD, hi]
                    obtain ⟨Ad, hAd, HDr⟩ : ∃ Ad : Addr, (if cp = j + 1 then some (⟨o, 0, none⟩ : Addr) else some ⟨o, j + 1, none⟩) = some Ad ∧ Hid (∀ u, Below w4.heap.size w4 u → ∀ i, i < nk - (j + 1) → u.cell? (Ad.add i) = some (.int .i64 (((ks.drop (j + 1)).getD i 0 : Nat) : Int))) := by
                      by_cases h : cp = j + 1
                      · exact ⟨_, if_pos h, Lib.hid fun u hu i hi => by omega⟩
                      · refine ⟨_, if_neg h, Lib.hid fun u hu i hi => ?_⟩
                        rw [Go.WideShapes.add_plain, HX.out u hu (j + 1 + i) (by omega)]
                        simp [List.getD_eq_getElem?_getD, List.getElem?_drop]
                    have hjc : j ≤ cp := by omega
                    have hwj : IntKind.i64.wrap ((j : Int) + 1) = (j : Int) + 1 := IntWalk.i64_in _ (by have := HAT.out; omega)
                    have hp0 : (0 : Int) ≤ (j : Int) + 1 := by omega
                    have hp1 : (j : Int) + 1 ≤ (nk : Int) := by omega
                    have hp2 : ((j : Int) + 1).toNat = j + 1 := by omega
                    have HNA : Hid (List.length (ks.take j) = j ∧ List.length (ks.drop (j + 1)) = nk - (j + 1) ∧ j + (nk - (j + 1)) ≤ 1000) := Lib.hid (by
                      have := HNK.out
                      have := HAT.out
                      rw [List.length_take, List.length_drop]; omega)
                    have HL0' : Hid (LsAt w4.heap.size [] (.slice (some ⟨w4.heap.size, 0, none⟩) 0 0) (w4.alloc (.cells #[] 3)).drew) := Lib.hid (ls_none w4 (Nat.le_refl _))
                    have HZ0 : Hid (Below w4.heap.size w4 (w4.alloc (.cells #[] 3)).drew) := Lib.hid (one_box w4 _).drew
                    have HF5 := Lib.hid True.intro
                    clear hjn hcpn HX
                    go_region_law (first
                      | (refine step_ls rfl (.tmp 94) (.tmp 97) rfl (by simp [Act.eval]) HL0'.out HZ0.out.size ⟨o, 0, none⟩ j cp (ms := ks.take j) (by simp [Act.eval]) HNA.out.1 (fun i hi => HTk.out _ HZ0.out i hi) (by have := HNA.out.2.2; simp; omega) ?_; intro v5 w5 hL5 hB5 hZ5; have H5 := Lib.hid (And.intro hL5 (HZ0.out.trans hB5)); clear hL5 hB5 hZ5)
                      | (refine step_ls rfl (.tmp 98) (.tmp 102) rfl (by simp [Act.eval]) H5.out.1 H5.out.2.size Ad (nk - (j + 1)) (cp - (j + 1)) (ms := ks.drop (j + 1)) (by simp [Act.eval]) HNA.out.2.1 (fun i hi => HDr.out _ H5.out.2 i hi) (by have := HNA.out.2.2; have := HNA.out.1; simp; omega) ?_; intro v6 w6 hL6 hB6 hZ6; have H6 := Lib.hid (And.intro hL6 (H5.out.2.trans hB6)); clear hL6 hB6 hZ6))
                    all_goals
                      go_wp2
                      go_roundg g2
                      case measure => omega
                      case rel =>
                        have hj := HJ.out
                        have hnk := HNK.out
                        have hat := HAT.out
                        refine ⟨at1 + 1, ks.take j ++ ks.drop (j + 1), L2, ?_, by omega, ?_, by go_num, Lib.hid (H6.out.1.mono HB4.out.size), HKS2, Lib.hid (RowAt.step HR4.out H6.out.2), Lib.hid (HP4.out.step H6.out.2), Lib.hid (HB4.out.trans (H6.out.2.mono HB4.out.size))⟩
                        · rw [List.length_append, HNA.out.1, HNA.out.2.1]; omega
                        · rw [List.length_append, HNA.out.1, HNA.out.2.1]; omega
              · have hkz : nk = 0 := by omega
                subst hkz
                obtain rfl : ks = [] := List.eq_nil_of_length_eq_zero hnk
                obtain ⟨_, _, _, hlan⟩ := HKS.out
                obtain rfl : L' = turnTo al t l b c g L0 A0 B0 l := hlan
                have hb1 : at1 = at0 + l := by omega
                subst hb1
                have hd : decide ((0 : Int) < ((0 : Nat) : Int)) = false := by simp
                obtain ⟨w5, e5⟩ : ∃ w5, w5 = wr.alloc (.cells (tuc A0 B0) 48) := ⟨_, rfl⟩
                have b5 : Below wr.heap.size wr w5 := by rw [e5]; exact one_box _ _
                have hR5 : RowAt w5 wr.heap.size 48 (tuc A0 B0) := by rw [e5]; exact RowAt.new _ _ _
                have hz5 : wr.heap.size ≤ w5.heap.size := b5.size
                have hwr : W.heap.size ≤ wr.heap.size := HBk.out.size
                have hP5 := HPk.out.step b5
                have hB5 : Below W.heap.size W w5 := HBk.out.trans (b5.mono hwr)
                have E5 := Lib.hid e5
                have HL2 := Lib.hid (tu_load HRk.out)
                have htm := HSh.out.tm
                clear e5 b5 HPk HRk HBk HLk HKS HCUR hcur hcp hnk hkg hat1 hat2 hk0
                go_upto_region 13 with (refine wpList_load_want rfl 48 _ rfl _ _ rfl HL2.out ?_)
                rw [← E5.out]
                clear E5 HL2
                generalize wr.heap.size = r2 at *
                obtain ⟨A9, hA9⟩ : ∃ A9, tuA t (n + 1) = A9 := ⟨_, rfl⟩
                obtain ⟨B9, hB9⟩ : ∃ B9, tuB t (n + 1) = B9 := ⟨_, rfl⟩
                obtain ⟨b9, hb9⟩ : ∃ b9, decide (n + 1 < 4 * t) = b9 := ⟨_, rfl⟩
                have H9 := Lib.hid (And.intro hA9 (And.intro hB9 hb9))
                obtain ⟨F, hF⟩ : ∃ F : World → Prop, F = fun u => RowAt u r2 48 (tuc A9 B9) ∧ Kept (fun j => j = r2) w5 u := ⟨_, rfl⟩
                have HFS : Hid (∀ u u', F u → Below u.heap.size u u' → F u') := Lib.hid fun u u' hu hb => by
                  subst hF
                  exact ⟨RowAt.step hu.1 hb, hu.2.trans (Kept.of_below (M := fun _ => False) hb) fun _ _ h => h.elim⟩
                have HFE : Hid (∀ u, F u → RowAt u r2 48 (tuc A9 B9) ∧ Kept (fun j => j = r2) w5 u) := Lib.hid fun u hu => by subst hF; exact hu
                have HQ : Hid (∀ u, Below w5.heap.size w5 u → (loadVar 32 ⟨q', 1, none⟩).run Tryz.prog u = .ok (spv al t l m b c g z) u ∧ (loadVar 48 ⟨r2, 0, none⟩).run Tryz.prog u = .ok (tuv (n / 4 : Nat) (n % 4 : Nat)) u ∧
                    Calls Tryz.prog 26 #[spv al t l m b c g z, tuv (n / 4 : Nat) (n % 4 : Nat)] u (fun e w' => e = .returned (.tuple #[tuv A9 B9, .bool b9]) ∧ Below u.heap.size u w') ∧
                    ∃ w6, (storeVar 48 ⟨r2, 0, none⟩ (tuv A9 B9)).run Tryz.prog u = .ok () w6 ∧ F w6 ∧ Below r2 w5 w6 ∧ u.heap.size ≤ w6.heap.size) := Lib.hid fun u hu => by
                  have hRu := RowAt.step hR5 hu
                  refine ⟨(hP5.two.step hu).row.shape, ?_, ?_, u.setRow r2 (tuc A9 B9), RowAt.store (C' := tuc A9 B9) hRu tu_size rfl (by simp [Value.oneCell']), ?_, ?_, ?_⟩
                  · rw [HAB.out.1, HAB.out.2]; exact tu_load hRu
                  · have hx := next_at al t l m b c g z n htm HNN.out u
                    rwa [hA9, hB9, hb9] at hx
                  · subst hF
                    exact ⟨hRu.setRow _, (Kept.of_below (M := fun j => j = r2) hu).trans (kept_row _ _ _) fun _ _ h => h⟩
                  · exact below_setRow (hu.mono hz5) (Nat.le_refl _) _
                  · exact Nat.le_of_eq (setRow_size _ _ _).symm
                clear hF hA9 hB9 hb9
                have hr2 : r2 ≤ w5.heap.size := hz5
                have HAA := Lib.hid hat0
                clear hat0
                refine wp_region_stage (r2) [9] [] [[0], [0], [0], [0], [0], [0], [0], [0], [0, 1], [], [1]] [[Is (.pointer (some ⟨q', 0, none⟩)), Is (.pointer (some ⟨q', 0, none⟩)), Is (.pointer (some ⟨q', 1, none⟩)), Is (spv al t l m b c g z), Is (tuv (n / 4 : Nat) (n % 4 : Nat)), Is (.tuple #[tuv (A9 : Nat) (B9 : Nat), .bool b9]), Is (.tuple #[tuv (A9 : Nat) (B9 : Nat), .bool b9]), Is (tuv (A9 : Nat) (B9 : Nat)), Is (.bool b9), Free, Is (.bool b9)], [Is (.pointer (some ⟨q', 0, none⟩)), Is (.pointer (some ⟨q', 0, none⟩)), Is (.pointer (some ⟨q', 1, none⟩)), Is (spv al t l m b c g z), Is (tuv (n / 4 : Nat) (n % 4 : Nat)), IsF (.tuple #[tuv (A9 : Nat) (B9 : Nat), .bool b9]) F, IsF (.tuple #[tuv (A9 : Nat) (B9 : Nat), .bool b9]) F, Is (tuv (A9 : Nat) (B9 : Nat)), IsF (.bool b9) F, Free, IsF (.bool b9) F]] [Is (.pointer (some ⟨q', 0, none⟩)), Is (.pointer (some ⟨q', 0, none⟩)), Is (.pointer (some ⟨q', 1, none⟩)), Is (spv al t l m b c g z), Is (tuv (n / 4 : Nat) (n % 4 : Nat)), IsF (.tuple #[tuv (A9 : Nat) (B9 : Nat), .bool b9]) F, IsF (.tuple #[tuv (A9 : Nat) (B9 : Nat), .bool b9]) F, Is (tuv (A9 : Nat) (B9 : Nat)), IsF (.bool b9) F, Free, IsF (.bool b9) F] hr2 (by kernel_rfl) (by kernel_rfl) rfl rfl ⟨⟨stable_is _, stable_is _, stable_is _, stable_is _, stable_is _, stable_is _, stable_is _, stable_is _, stable_is _, stable_free, stable_is _, trivial⟩, ⟨stable_is _, stable_is _, stable_is _, stable_is _, stable_is _, stable_isf _ HFS.out, stable_isf _ HFS.out, stable_is _, stable_isf _ HFS.out, stable_free, stable_isf _ HFS.out, trivial⟩, trivial⟩ (by intro n hn o ho hd w; simp only [List.mem_cons, List.not_mem_nil, or_false] at hn; subst hn; first | trivial | (cases ho; cases hd)) rfl ⟨?p0, ?p1, ?p2, ?p3, ?p4, ?p5, ?p6, ?p7, ?p8, fun h => absurd (by simp) h, ?p10, trivial⟩ ⟨?t0, trivial⟩ (by decide) ?fin
                case p0 =>
                  intro _ k hk; obtain rfl := List.mem_singleton.1 hk; intro a w C Z
                  exact partS_on (wanted_free rfl _) (op_move (.inl rfl) (C.was 8 (by kernel_rfl)))
                case p1 =>
                  intro _ k hk; obtain rfl := List.mem_singleton.1 hk; intro a w C Z
                  exact partS_on (wanted_free rfl _) (op_value (nil_run rfl (C.on (j := 0) (by kernel_rfl) rfl rfl)) rfl)
                case p2 =>
                  intro _ k hk; obtain rfl := List.mem_singleton.1 hk; intro a w C Z
                  exact partS_on (wanted_free rfl _) (op_value (grf_run (k := 1) rfl (by decide) (C.on (j := 1) (by kernel_rfl) rfl rfl)) rfl)
                case p3 =>
                  intro _ k hk; obtain rfl := List.mem_singleton.1 hk; intro a w C Z
                  exact partS_on (wanted_free rfl _) (op_value (load_run rfl (C.on (j := 2) (by kernel_rfl) rfl rfl) (HQ.out w C.below).1) rfl)
                case p4 =>
                  intro _ k hk; obtain rfl := List.mem_singleton.1 hk; intro a w C Z
                  exact partS_on (wanted_free rfl _) (op_value (load_run rfl (C.was 10 (by kernel_rfl)) (HQ.out w C.below).2.1) rfl)
                case p5 =>
                  intro _ k hk; obtain rfl := List.mem_singleton.1 hk; intro a w C Z
                  exact partS_on (wanted_free rfl _) (op_call2 rfl (reg_enters Tryz.func26 (by kernel_rfl) (by kernel_rfl)) (C.on (j := 3) (by kernel_rfl) rfl rfl) (C.on (j := 4) (by kernel_rfl) rfl rfl) (calls_is (HQ.out w C.below).2.2.1))
                case p6 =>
                  intro _ k hk; obtain rfl := List.mem_singleton.1 hk; intro a w C Z
                  exact partS_on (wanted_free rfl _) (op_move (.inl rfl) (C.on (j := 5) (by kernel_rfl) rfl rfl))
                case p7 =>
                  intro _ k hk; obtain rfl := List.mem_singleton.1 hk; intro a w C Z
                  exact partS_on (wanted_free rfl _) (op_value (ext_run (v := tuv (A9 : Nat) (B9 : Nat)) rfl (C.on (j := 6) (by kernel_rfl) rfl rfl) rfl) rfl)
                case p8 =>
                  intro _ k hk; replace hk : k ∈ [0, 1] := hk; simp only [List.mem_cons, List.not_mem_nil, or_false] at hk
                  rcases hk with rfl | rfl
                  · intro a w C Z
                    exact partS_on (wanted_free rfl _) (op_value (ext_run (v := .bool b9) rfl (C.on (j := 6) (by kernel_rfl) rfl rfl) rfl) rfl)
                  · intro a w C Z
                    exact partS_on (wanted_free rfl _) (op_value (ext_run (v := .bool b9) rfl (show IsF (.tuple #[tuv (A9 : Nat) (B9 : Nat), .bool b9]) F _ w from (C.on (j := 6) (by kernel_rfl) rfl rfl)).1 rfl) ⟨rfl, (show IsF (.tuple #[tuv (A9 : Nat) (B9 : Nat), .bool b9]) F _ w from (C.on (j := 6) (by kernel_rfl) rfl rfl)).2⟩)
                case p10 =>
                  intro _ k hk; obtain rfl := List.mem_singleton.1 hk; intro a w C Z
                  exact partS_on (wanted_free rfl _) (op_move (.inr rfl) (C.on (j := 8) (by kernel_rfl) rfl rfl))
                case t0 =>
                  intro o ho a w C A
                  cases ho
                  have cb : Below w5.heap.size w5 w := C.below
                  obtain ⟨w6, hst, hF6, hb6, hz6⟩ := (HQ.out w cb).2.2.2
                  refine ⟨wanted_free rfl _, stage_store rfl (C.was 10 (by kernel_rfl)) (C.on (j := 7) (by kernel_rfl) rfl rfl) hst trivial hb6 hz6 ?_⟩
                  · intro i o2 d hi hd hne hnw h
                    have hil := (List.getElem?_eq_some_iff.1 hi).1
                    replace hil : i < 11 := hil
                    obtain rfl | rfl | rfl | rfl | rfl | rfl | rfl | rfl | rfl | rfl | rfl : i = 0 ∨ i = 1 ∨ i = 2 ∨ i = 3 ∨ i = 4 ∨ i = 5 ∨ i = 6 ∨ i = 7 ∨ i = 8 ∨ i = 9 ∨ i = 10 := by omega
                    · exact h
                    · exact h
                    · exact h
                    · exact h
                    · exact h
                    · exact ⟨h, hF6⟩
                    · exact ⟨h, hF6⟩
                    · exact h
                    · exact ⟨h, hF6⟩
                    · exact absurd rfl hne
                    · exact absurd hnw (by rw [show waits _ 10 9 = true from by kernel_rfl]; decide)
                case fin =>
                  rintro w8 hbF _ rfl _ rfl _ rfl _ rfl _ rfl _ ⟨rfl, _⟩ _ ⟨rfl, _⟩ _ rfl _ ⟨rfl, _⟩ _ _ _ ⟨rfl, hFF⟩
                  simp only [Fin, setAt, Exit.then, List.setIfInBounds_toArray, List.set_cons_succ, List.set_cons_zero]
                  obtain ⟨hR8, hK8⟩ := HFE.out _ hFF
                  have hP8 := hP5.far hK8 hR5 rfl rfl rfl
                  rw [HNX.out] at hP8
                  have HP8 := Lib.hid hP8
                  have HR8 := Lib.hid hR8
                  have HB8 : Hid (Below W.heap.size W w8) := Lib.hid (hB5.trans (hbF.mono hwr))
                  clear hP8 hR8 hK8 hP5 hR5 HQ HFE HFS hFF hbF hB5
                  go_wp2
                  go_roundg g'
                  case measure => omega
                  case rel => exact ⟨n + 1, r2, at0 + l, by have := HNG.out; omega, by have := HAA.out; omega, rfl, rfl, by rw [H9.out.2.2], hwr, by rw [H9.out.1, H9.out.2.1]; exact HR8, HP8, HB8⟩
      · obtain rfl : n = 4 * t := by omega
        have hdn : decide (4 * t < 4 * t) = false := by simp
        rw [hdn]
        have hP := HPr.out
        rw [HM'.out] at hP
        have HPz := Lib.hid hP
        have HML2 : Hid (M'.length = l * c) := Lib.hid (by rw [← HM'.out, allTo_len]; exact HML.out)
        have HCz : Hid (M'.length ≤ 4194304) := Lib.hid (by rw [HML2.out]; exact Nat.le_trans (Nat.mul_le_mul hl4 hcm) (by decide))
        have HC := Lib.hid (all_any HPz.out.one hl0 (by omega) (by omega) HML2.out HCz.out)
        clear hP HPr HRow hng hat0
        go_wp2_with fail
        refine HC.out.mono ?_
        rintro e w7 ⟨v7, gs7, rfl, hd7, hgl7, hb7⟩
        have HD7 := Lib.hid hd7
        have HP7 := Lib.hid (HPz.out.step hb7)
        have HB7 : Hid (Below W.heap.size W w7) := Lib.hid (HBr.out.trans (hb7.mono HBr.out.size))
        have HC2 := Lib.hid (all_any HP7.out.two hl0 (by omega) (by omega) HML2.out HCz.out)
        clear hd7 hb7 HPz HBr HC
        go_wp2_with fail
        refine HC2.out.mono ?_
        rintro e w8 ⟨v8, gs8, rfl, hd8, hgl8, hb8⟩
        have HB8 : Hid (Below W.heap.size W w8) := Lib.hid (HB7.out.trans (hb8.mono HB7.out.size))
        have HC3 := Lib.hid (same_any (HD7.out.step hb8) hd8 hgl7 hgl8 hl0 (by omega) (by omega))
        clear hd8 hb8 HD7 HP7 HB7 HC2
        go_wp2_with fail
        refine HC3.out.mono ?_
        rintro e w9 ⟨rfl, hb9⟩
        have HB9 := Lib.hid (HB8.out.trans (hb9.mono HB8.out.size))
        clear hb9 HB8 HC3
        go_wp2
        go_ret
        exact ⟨rfl, HB9.out⟩
end Go.Proofs.YthbeoobfhfpelaaGreatDoor
