/- read and write of package romix, by their contracts. Conditions: those typed. -/
import Derived.Test.YtohmkhmanidljaaDoorRmSt
namespace Go.Proofs.YtohmkhmanidljaaDoor
set_option maxRecDepth 50000
open Go.RowKit Bb Sl Sf Rm

section
variable {w w' : World} {s p a g n r : Nat} {M : Nat → Prop} {X : List (List Nat)}
/-- a row while it is read -/
structure Rd (w wr : World) (G : Nat) (z l : List Nat) (i : Nat) : Prop where
  row : RowAt wr G 50 (wd (wrt z l i))
  below : Below w.heap.size w wr
  at_ : w.heap.size ≤ G
theorem Rd.next {wr : World} {G i : Nat} {z l : List Nat} (h : Rd w wr G z l i) : Rd w (wr.setCell ⟨G, i, none⟩ (.int .u32 ((l.getD i 0 : Nat) : Int))) G z l (i + 1) :=
  ⟨by rw [wrt, ← wd_set]; exact h.row.setCell i _, h.below.setCell h.at_ _, h.at_⟩
theorem Rd.drewN {wr : World} {G i : Nat} {z l : List Nat} (h : Rd w wr G z l i) (q : Nat) : Rd w (wr.drewN q) G z l i := ⟨h.row, below_drewN h.below q, h.at_⟩

set_option maxHeartbeats 1600000 in
theorem read_any (hS : St w s p a g n r X) (k : Nat) (hk : k < X.length) : Calls Tryd.prog 22 #[.pointer (some ⟨s, 0, none⟩), .int .i64 (k : Int)] w fun e w' => ∃ G, e = .returned (.slice (some ⟨G, 0, none⟩) (32 * r) (32 * r)) ∧ RowAt w' G 50 (wd (X.getD k [])) ∧ w.heap.size ≤ G ∧ Below w.heap.size w w' := by
  obtain ⟨i0, hi0, hz0, hz1, hz2⟩ := info_parts u32_info
  have HW := Lib.hid (words_any hS.row hS.r2)
  have HL := Lib.hid ((hS.rok k hk).1)
  have HO := Lib.hid ((hS.rok k hk).2)
  have HH := Lib.hid fun (wr : World) (hb : Below w.heap.size w wr) (i : Nat) (hi : i < 32 * r) => (hS.step hb).half hk hi rfl
  have HV := Lib.hid fun (wr : World) (hb : Below w.heap.size w wr) (i : Nat) (hi : i < 32 * r) => (hS.step hb).word hk hi rfl
  obtain ⟨hm1, hm2⟩ := hS.m1
  generalize X.getD k [] = l at *
  obtain ⟨m, hm⟩ : ∃ m, 32 * r = m := ⟨_, rfl⟩
  rw [hm] at HW HL HH HV hm1 hm2 ⊢
  clear hS hk hm
  have HE : Hid (wrt (List.replicate m 0) l m = l) := Lib.hid (by
    have h := HL.out
    rw [← h]
    exact wrt_all _ _ (by simp))
  go_enter Tryd.func22, Tryd.ntmps22
  go_wp2_with fail
  refine HW.out.mono ?_; rintro e w' ⟨rfl, hw⟩; obtain rfl := hw.symm; clear hw
  go_wp2_with (at_make; refine wpList_make_full _ rfl _ _ 22 rfl w.heap.size 50 i0 (.int .u32 0) 1 Tryd.underlying22 hi0 hz0 hz1 _ _ _ _ m rfl rfl ?c0 ?c00 ?c1 ?c2 ?c3 ?_)
  case c0 => rfl
  case c00 => rfl
  case c1 => rw [hz2]; omega
  case c2 => unfold maxLen; omega
  case c3 => exact Nat.le_refl _
  intro w2 hown hgr
  have e0 : (madeCells #[.int .u32 0] m).toList = u32s (wrt (List.replicate m 0) l 0) := by
    rw [toList_madeCells_one, wrt]; unfold u32s; rw [List.map_replicate]; rfl
  rw [e0] at hown
  have HX : Hid (Rd w w2 w.heap.size (List.replicate m 0) l 0) := Lib.hid ⟨own_rowAt hown, (Below.refl w.heap.size _).grown hgr (Nat.le_refl _) (by simp), Nat.le_refl _⟩
  clear hown hgr e0 HW
  obtain ⟨G, hG⟩ : ∃ G, G = w.heap.size := ⟨_, rfl⟩
  rw [← hG] at HX ⊢
  have HG := Lib.hid hG
  clear hG
  go_wp2
  go_loopw [6, 12] (fun _ v12 wr => ∃ i : Nat, i ≤ m ∧ v12 = .int .i64 (i : Int) ∧ Rd w wr G (List.replicate m 0) l i) (fun _ v12 _ => m - (intOf v12).toNat)
  case atStart => exact ⟨0, by omega, rfl, HX.out⟩
  case round =>
    clear HX
    obtain ⟨i, hi, rfl, Y⟩ := hrel
    have HX := Lib.hid Y
    clear Y
    by_cases h : i < m
    · have hd : decide ((i : Int) < (m : Int)) = true := by simp; omega
      have CH := Lib.hid (HH.out wr HX.out.below i h)
      have CV := Lib.hid (HV.out wr HX.out.below i h)
      have hp0 : (0 : Int) ≤ (i : Int) := by omega
      have hp1 : (i : Int) < (m : Int) := by omega
      have hwi : IntKind.i64.wrap ((i : Int) + 1) = ((i + 1 : Nat) : Int) := by rw [IntKind.wrap_i64]; omega
      go_wp2_with fail
      refine CH.out.mono ?_; rintro e w' ⟨rfl, hw⟩; obtain rfl := hw.symm; clear hw CH
      go_wp2_with fail
      refine CV.out.mono ?_; rintro e w' ⟨rfl, q, rfl⟩
      clear CV
      have HD := Lib.hid (HX.out.drewN q)
      generalize wr.drewN q = w3 at *
      have fk : w3.frozen? ⟨G, i, none⟩ = false := HD.out.row.frozen i
      have ck : w3.cell? ⟨G, i, none⟩ = some (.int .u32 (((wrt (List.replicate m 0) l i).getD i 0 : Nat) : Int)) := (HD.out.row.cell i).trans (wd_at _ i (by rw [wrt_length]; simpa using h))
      have HN := Lib.hid HD.out.next
      generalize l.getD i 0 = x at *
      generalize (wrt (List.replicate m 0) l i).getD i 0 = y at *
      clear HX
      go_wp2
      go_roundw
      case rel => exact ⟨i + 1, by omega, by go_num, HN.out⟩
      case measure => simp [intOf]; omega
    · obtain rfl : i = m := by omega
      have hd : decide ((i : Int) < (i : Int)) = false := by simp
      go_wp2
      go_ret
      have Y := HX.out
      have R := Y.row
      rw [HE.out] at R
      exact ⟨G, rfl, R, Y.at_, Y.below⟩

/-- a row while it is written -/
structure Wr (w wr : World) (s p a g n r : Nat) (X : List (List Nat)) (k : Nat) (y l : List Nat) (i : Nat) : Prop where
  st : St wr s p a g n r (X.set k (wrt y l i))
  kept : Kept (fun b => b = g) w wr

set_option maxHeartbeats 1600000 in
theorem write_any (hS : St w s p a g n r X) (k : Nat) (hk : k < X.length) (b o c : Nat) (l : List Nat) (hl : l.length = 32 * r) (ho : okw l) (hbg : b ≠ g) (hbw : b < w.heap.size) (hc : ∀ i, i < 32 * r → w.cell? ⟨b, o + i, none⟩ = some (.int .u32 (l.getD i 0 : Nat))) :
    Calls Tryd.prog 23 #[.pointer (some ⟨s, 0, none⟩), .int .i64 (k : Int), .slice (some ⟨b, o, none⟩) (32 * r) c] w fun e w' => e = .returned (.tuple #[]) ∧ St w' s p a g n r (X.set k l) ∧ Kept (fun b => b = g) w w' := by
  have HY := Lib.hid (hS.rok k hk).1
  have HX : Hid (Wr w w s p a g n r X k (X.getD k []) l 0) := Lib.hid ⟨by
    rw [wrt, List.getD_eq_getElem?_getD, List.getElem?_eq_getElem hk, Option.getD_some, List.set_getElem_self]; exact hS, Kept.refl _ w⟩
  have HH := Lib.hid fun (wr : World) (i : Nat) (hi : i < 32 * r) (h : Wr w wr s p a g n r X k (X.getD k []) l i) => h.st.half (k := k) (by rw [List.length_set]; exact hk) hi rfl
  have HV : Hid (∀ (wr : World) (i : Nat), i < 32 * r → Wr w wr s p a g n r X k (X.getD k []) l i → Calls Tryd.prog 37 #[.pointer (some ⟨g, (k * (32 * r) + i) / 256 * 128, none⟩), .int .i64 (((k * (32 * r) + i) % 256 : Nat) : Int), .int .u32 ((l.getD i 0 : Nat) : Int)] wr fun e w' => e = .returned (.bool true) ∧ Wr w w' s p a g n r X k (X.getD k []) l (i + 1)) := Lib.hid fun wr i hi h => by
    refine (h.st.setWord (k := k) (by rw [List.length_set]; exact hk) hi rfl (l.getD i 0) (ho.at_ i)).mono ?_
    rintro e w' ⟨rfl, S, K⟩
    refine ⟨rfl, ?_, h.kept.trans K fun x _ hx => hx⟩
    rw [setl_at _ _ _ _ _ hk, if_pos rfl, List.set_set] at S
    exact S
  have HE : Hid (wrt (X.getD k []) l (32 * r) = l) := Lib.hid (by rw [← hl]; exact wrt_all _ _ (by rw [HY.out, hl]))
  have HC := Lib.hid fun (wr : World) (hK : Kept (fun b => b = g) w wr) (i : Nat) (hi : i < 32 * r) => (World.cell?_of_block (w := w) (a := ⟨b, o + i, none⟩) (hK.block b hbw hbg)).trans (hc i hi)
  obtain ⟨hm1, hm2⟩ := hS.m1
  generalize X.getD k [] = y at *
  obtain ⟨m, hm⟩ : ∃ m, 32 * r = m := ⟨_, rfl⟩
  rw [hm] at HE HH HV HC hm1 hm2 ⊢
  clear hS hk hm hl ho hbg hbw hc HY
  go_enter Tryd.func23, Tryd.ntmps23
  go_wp2
  go_loopw [6, 7, 8, 9, 12] (fun _ _ _ _ v12 wr => ∃ i : Nat, i ≤ m ∧ v12 = .int .i64 (i : Int) ∧ Wr w wr s p a g n r X k y l i) (fun _ _ _ _ v12 _ => m - (intOf v12).toNat)
  case atStart => exact ⟨0, by omega, rfl, HX.out⟩
  case round =>
    clear HX
    obtain ⟨i, hi, rfl, Y⟩ := hrel
    have HX := Lib.hid Y
    clear Y
    by_cases h : i < m
    · have hd : decide ((i : Int) < (m : Int)) = true := by simp; omega
      have CH := Lib.hid (HH.out wr i h HX.out)
      have CV := Lib.hid (HV.out wr i h HX.out)
      have ci := HC.out wr HX.out.kept i h
      have hp0 : (0 : Int) ≤ (i : Int) := by omega
      have hp1 : (i : Int) < (m : Int) := by omega
      have hwi : IntKind.i64.wrap ((i : Int) + 1) = ((i + 1 : Nat) : Int) := by rw [IntKind.wrap_i64]; omega
      generalize l.getD i 0 = x at *
      clear HX
      go_wp2_with fail
      refine CH.out.mono ?_; rintro e w' ⟨rfl, hw⟩; obtain rfl := hw.symm; clear hw CH
      go_wp2_with fail
      refine CV.out.mono ?_; rintro e w3 ⟨rfl, HN⟩
      have HN := Lib.hid HN
      clear CV
      go_wp2
      go_roundw
      case rel => exact ⟨i + 1, by omega, by go_num, HN.out⟩
      case measure => simp [intOf]; omega
    · obtain rfl : i = m := by omega
      have hd : decide ((i : Int) < (i : Int)) = false := by simp
      have Y := HX.out
      have S := Y.st
      rw [HE.out] at S
      have HS := Lib.hid (And.intro S Y.kept)
      clear S Y HX
      go_wp2
      simp [bodyPost, results, Tryd.results23, go_sem]
      exact HS.out
end
end Go.Proofs.YtohmkhmanidljaaDoor
