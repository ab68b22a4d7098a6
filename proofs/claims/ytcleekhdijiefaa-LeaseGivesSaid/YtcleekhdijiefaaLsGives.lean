/- What LeaseGives has done with a lease; the law LeaseGives. Conditions: those typed. -/
import Derived.Test.YtcleekhdijiefaaLsAwake
namespace Go.Proofs.Ytcleekhdijiefaa
set_option maxRecDepth 50000
open Go.RowKit Bb

/-- so far: what the lease has, the sum, and what is left as it was -/
structure Gv (w0 w : World) (N a B bf c0 b tb sb bb : Nat) (T : Value) (bad : Bool) (i : Nat) : Prop where
  st : ∃ x h, x.b = b ∧ LeaseIs w N a x ∧ x.closed = false ∧ AreAt w a B (bf + hs x.qs) h (c0 + x.qs.length) ∧ bf + hs x.qs ≤ B ∧ x.qs.length ≤ i ∧ x.peak = hs x.qs ∧ RowAt w sb 3 #[.int .i64 (hs x.qs : Int)]
  t : RowAt w tb 30 #[T]
  b : RowAt w bb 4 #[.bool bad]
  below : Below N w0 w
section
variable {w0 w w' : World} {N a B bf c0 b tb sb bb i : Nat} {T : Value} {bad : Bool}
theorem Gv.step (H : Gv w0 w N a B bf c0 b tb sb bb T bad i) (hN : N ≤ w.heap.size) (hb : Below w.heap.size w w') : Gv w0 w' N a B bf c0 b tb sb bb T bad (i + 1) := by
  obtain ⟨x, h, h1, h2, h3, h4, h5, h6, h7, h8⟩ := H.st
  exact ⟨⟨x, h, h1, h2.step hb, h3, RowAt.step h4 hb, h5, by omega, h7, RowAt.step h8 hb⟩, RowAt.step H.t hb, RowAt.step H.b hb, H.below.trans (hb.mono hN)⟩
end
set_option maxHeartbeats 3200000 in
theorem gv_any {w : World} {N a B bf c0 b tb sb bb cp : Nat} {A : Option Addr} {ts : List Int} {bad : Bool} (H : Gv w w N a B bf c0 b tb sb bb (.slice A ts.length cp) bad 0) (hB : B ≤ 1000) (hc0 : c0 ≤ 10) (hr : Reads w N A (ts.map (Value.int .i64))) (hts : ts.length ≤ 50) (hN : N ≤ w.heap.size) (hNa : N ≤ a) (hNs : N ≤ sb) :
    Calls Try.prog 20 #[.pointer (some ⟨b, 0, none⟩), .pointer (some ⟨tb, 0, none⟩), .pointer (some ⟨sb, 0, none⟩), .pointer (some ⟨bb, 0, none⟩)] w fun e w' => (∃ z : Int, e = .returned (.int .i64 z) ∧ decide (z = 5) = bad) ∧ Gv w w' N a B bf c0 b tb sb bb (.slice A ts.length cp) bad 50 := by
  have HR := Lib.hid hr
  have HG := Lib.hid H
  have t0 : w.cell? ⟨tb, 0, none⟩ = some (.slice A ts.length cp) := by rw [H.t.cell 0]; rfl
  clear hr H
  go_enter Try.func20, Try.ntmps20
  go_wp2
  clear t0
  go_loopw [12] (fun v12 wr => ∃ i : Nat, i ≤ ts.length ∧ v12 = .int .i64 (i : Int) ∧ Hid (Gv w wr N a B bf c0 b tb sb bb (.slice A ts.length cp) bad i)) (fun v12 _ => ts.length - (intOf v12).toNat)
  case atStart => exact ⟨0, by omega, rfl, HG⟩
  case round =>
    clear HG
    obtain ⟨i, hi, rfl, HG⟩ := hrel
    have hN' := HG.out.below.size
    by_cases hlt : i < ts.length
    · have hdt : decide ((i : Int) < (ts.length : Int)) = true := by simp; omega
      have hi0 : (0 : Int) ≤ (i : Int) := by omega
      have hi1 : (i : Int) < (ts.length : Int) := by omega
      obtain ⟨b0, off, rfl, hb0, hc⟩ := HR.out i (by simpa using hlt)
      have hc0' := (HG.out.below.cell (p := ⟨b0, off + i, none⟩) hb0).trans hc
      rw [List.getElem_map] at hc0'
      clear hc
      generalize ts[i] = n at *
      obtain ⟨x, h, rfl, hI, hcl, hA, hfit, hql, hpk, hS⟩ := HG.out.st
      have hrow := hI.row
      rw [hcl] at hrow
      by_cases hn0 : n < 0
      · have C := Lib.hid (ltake_neg hrow n hn0)
        have HG2 := Lib.hid (HG.out.step (by omega) (Below.refl _ wr))
        clear hI hA hS hrow HG
        go_wp2_with fail
        refine C.out.mono ?_; rintro e w' ⟨rfl, hw⟩; obtain rfl := hw.symm
        go_wp2
        go_roundw
        case rel => exact ⟨i + 1, by omega, by go_num, HG2⟩
        case measure => simp [intOf]; omega
      obtain ⟨k, rfl⟩ := Int.eq_ofNat_of_zero_le (show 0 ≤ n by omega)
      by_cases hfull : B < bf + hs x.qs + k
      · have C := Lib.hid (ltake_full hrow hA (k : Int) (by omega) (by omega) (by omega) hfit)
        have HG2 := Lib.hid fun q => HG.out.step (by omega) (below_drewN (Below.refl _ wr) q)
        clear hI hA hS hrow HG
        go_wp2_with fail
        refine C.out.mono ?_; rintro e w' ⟨rfl, q, rfl⟩
        go_wp2
        go_roundw
        case rel => exact ⟨i + 1, by omega, by go_num, Lib.hid (HG2.out q)⟩
        case measure => simp [intOf]; omega
      · have C := Lib.hid (ltake_is hI hcl hA (by omega) (by omega) k (by omega) (by omega) (by omega) (by omega))
        have HE := Lib.hid fun w' hK => hI.leaves hA hK (w' := w')
        have HU := Lib.hid (hI.under hNa)
        have HT := Lib.hid HG.out.t
        have HBB := Lib.hid HG.out.b
        have HBl := Lib.hid HG.out.below
        have HS := Lib.hid hS
        clear hI hA hS hrow HG
        go_wp2_with fail
        refine C.out.mono ?_
        rintro e w1 ⟨p, g, v', rfl, hI, _, hA, hK, _⟩
        have hS1 := HE.out w1 hK 3 (by rfl) (by rfl) (by rfl) (by rfl) (by rfl) _ _ HS.out
        have hT1 := Lib.hid (HE.out w1 hK 30 (by rfl) (by rfl) (by rfl) (by rfl) (by rfl) _ _ HT.out)
        have hB1 := Lib.hid (HE.out w1 hK 4 (by rfl) (by rfl) (by rfl) (by rfl) (by rfl) _ _ HBB.out)
        have HBl1 := Lib.hid (HBl.out.trans (hK.under HU.out (by omega)))
        have hN1 := HBl1.out.size
        have e1 := hs_more x p g v' k
        have e2 := more_len x p g v' k
        have e3 := more_peak x p g v' k
        have e4 : (x.more p g v' k).closed = false := hcl
        have e5 : (x.more p g v' k).b = x.b := rfl
        have s0 : w1.cell? ⟨sb, 0, none⟩ = some (.int .i64 (hs x.qs : Int)) := by rw [hS1.cell 0]; rfl
        have f0 := hS1.frozen 0
        have hsum : IntKind.i64.wrap ((hs x.qs : Int) + (k : Int)) = ((hs x.qs + k : Nat) : Int) := by rw [IntKind.wrap_i64]; omega
        have hsum' : (hs x.qs : Int) + (k : Int) = ((hs x.qs + k : Nat) : Int) := by omega
        have K3 : Kept (fun k => k = sb) w1 (w1.setCell ⟨sb, 0, none⟩ (.int .i64 ((hs x.qs + k : Nat) : Int))) := (Kept.refl (fun k => k = sb) w1).set (p := ⟨sb, 0, none⟩) (.inl rfl) _
        have HG2 : Hid (Gv w (w1.setCell ⟨sb, 0, none⟩ (.int .i64 ((hs x.qs + k : Nat) : Int))) N a B bf c0 x.b tb sb bb (.slice (some ⟨b0, off, none⟩) ts.length cp) bad (i + 1)) := Lib.hid ⟨⟨x.more p g v' k, _, e5, hI.far K3 fun k e => by subst e; exact ⟨_, _, hS1, by rfl, by rfl, by rfl, by rfl⟩, e4, RowAt.kept (by rw [e1, e2, ← Nat.add_assoc, ← Nat.add_assoc]; exact hA) K3 fun e => RowAt.unlike hA hS1 (by rfl) e, by rw [e1]; omega, by rw [e2]; omega, by rw [e3, e1, hpk]; omega, by rw [e1]; exact hS1.setCell 0 _⟩,
          RowAt.kept hT1.out K3 fun e => RowAt.unlike hT1.out hS1 (by rfl) e, RowAt.kept hB1.out K3 fun e => RowAt.unlike hB1.out hS1 (by rfl) e, HBl1.out.trans (K3.under (fun k e => by rw [e]; exact hNs) (by omega))⟩
        clear hI hA hK hS1 hT1 hB1 HBl1 e1 e2 e3 e4 e5 K3 C HE HU HT HBB HBl HS
        generalize hs x.qs + k = m at *
        generalize hs x.qs = s at *
        go_wp2
        go_roundw
        case rel => exact ⟨i + 1, by omega, by go_num, HG2⟩
        case measure => simp [intOf]; omega
    · obtain rfl : i = ts.length := by omega
      have hdt : decide ((ts.length : Int) < (ts.length : Int)) = false := by simp
      have b0 : wr.cell? ⟨bb, 0, none⟩ = some (.bool bad) := by rw [HG.out.b.cell 0]; rfl
      cases bad
      all_goals
        go_wp2
        go_ret
        refine ⟨⟨_, rfl, rfl⟩, ⟨?_, HG.out.t, HG.out.b, HG.out.below⟩⟩
        obtain ⟨x, h, h1, h2, h3, h4, h5, h6, h7, h8⟩ := HG.out.st
        exact ⟨x, h, h1, h2, h3, h4, h5, by omega, h7, h8⟩
theorem enter_gv (args : Array Value) (w : World) : (callFunc 20 args).run Try.prog w = .ok (.enter 20 args) w := enters Try.func20 (by kernel_rfl) (by kernel_rfl) args w

set_option maxHeartbeats 6400000 in
theorem gives21_any (B bf : Int) (bad : Bool) {A : Option Addr} (cp : Nat) (ts : List Int) (w : World) (hr : Reads w w.heap.size A (ts.map (Value.int .i64))) :
    Calls Try.prog 4 #[.int .i64 B, .int .i64 bf, .slice A ts.length cp, .bool bad] w fun e w' => e = .returned (.bool true) ∧ Below w.heap.size w w' := by
  have hmf : ∀ (fn : Fn) (first cap : Array Value) (w : World), (Instr.makeFunc fn first cap).run Try.prog w = .ok (.func fn first cap) w := fun _ _ _ _ => rfl
  obtain ⟨w1, hw1⟩ : ∃ w1, w1 = (w.alloc (.cells #[.slice A ts.length cp] 30)).alloc (.cells #[.bool bad] 4) := ⟨_, rfl⟩
  have T1 : RowAt w1 w.heap.size 30 #[.slice A ts.length cp] := by rw [hw1]; exact (RowAt.new w _ _).alloc _
  have B1 : RowAt w1 (w.heap.size + 1) 4 #[.bool bad] := by
    rw [hw1]
    have := RowAt.new (w.alloc (.cells #[.slice A ts.length cp] 30)) 4 #[.bool bad]
    rwa [World.size_alloc] at this
  have hb1 : Below w.heap.size w w1 := by rw [hw1]; exact ((Below.refl _ w).alloc (Nat.le_refl _) _).alloc (by simp) _
  have CA := Lib.hid (awake21_any w1)
  rw [hw1] at CA
  have HR := Lib.hid hr
  have HW1 := Lib.hid hw1
  clear hr
  go_enter Try.func4, Try.ntmps4
  go_wp2_with fail
  refine CA.out.mono ?_
  rintro e w2 ⟨rfl, hb⟩
  rw [← HW1.out] at hb
  have HT2 := Lib.hid (T1.below hb T1.lt)
  have HB2 := Lib.hid (B1.below hb B1.lt)
  have HBl := Lib.hid (hb1.trans (hb.mono hb1.size))
  have hs2 := HBl.out.size
  have t0 : w2.cell? ⟨w.heap.size, 0, none⟩ = some (.slice A ts.length cp) := by rw [HT2.out.cell 0]; rfl
  have b0 : w2.cell? ⟨w.heap.size + 1, 0, none⟩ = some (.bool bad) := by rw [HB2.out.cell 0]; rfl
  have C1 := Lib.hid (ltake_nil 1 w2)
  have C2 := Lib.hid (lopen_nil w2)
  have C3 := Lib.hid (lwith_nil (.func (.func 17) #[] #[]) w2)
  have C4 := Lib.hid (lclose_nil w2)
  have C5 := Lib.hid (lheld_nil w2)
  have C6 := Lib.hid (lpeak_nil w2)
  clear T1 B1 hb1 CA hw1 HW1 hb
  go_wp2_with fail
  refine C1.out.mono ?_; rintro e w' ⟨rfl, hw⟩; obtain rfl := hw.symm; clear hw C1
  go_wp2_with fail
  refine C2.out.mono ?_; rintro e w' ⟨rfl, hw⟩; obtain rfl := hw.symm; clear hw C2
  go_wp2_with fail
  refine C3.out.mono ?_; rintro e w' ⟨rfl, hw⟩; obtain rfl := hw.symm; clear hw C3
  go_wp2_with fail
  refine C4.out.mono ?_; rintro e w' ⟨rfl, hw⟩; obtain rfl := hw.symm; clear hw C4
  go_wp2_with fail
  refine C5.out.mono ?_; rintro e w' ⟨rfl, hw⟩; obtain rfl := hw.symm; clear hw C5
  go_wp2_with fail
  refine C6.out.mono ?_; rintro e w' ⟨rfl, hw⟩; obtain rfl := hw.symm; clear hw C6
  by_cases hx : B < 0 ∨ 1000 < B ∨ bf < 0 ∨ B < bf ∨ 50 < ts.length
  · have hh : decide (B < 0) = true ∨ decide (B < 0) = false ∧ decide (1000 < B) = true ∨ decide (B < 0) = false ∧ decide (1000 < B) = false ∧ decide (bf < 0) = true ∨ decide (B < 0) = false ∧ decide (1000 < B) = false ∧ decide (bf < 0) = false ∧ decide (B < bf) = true ∨
        decide (B < 0) = false ∧ decide (1000 < B) = false ∧ decide (bf < 0) = false ∧ decide (B < bf) = false ∧ decide ((50 : Int) < (ts.length : Int)) = true ∧ (50 : Int) < (ts.length : Int) := by simp; omega
    clear hx
    rcases hh with d1 | ⟨d1, d2⟩ | ⟨d1, d2, d3⟩ | ⟨d1, d2, d3, d4⟩ | ⟨d1, d2, d3, d4, d5, d6⟩
    all_goals
      go_wp2
      go_ret
      exact ⟨rfl, HBl.out⟩
  obtain ⟨B, rfl⟩ := Int.eq_ofNat_of_zero_le (show 0 ≤ B by omega)
  obtain ⟨bf, rfl⟩ := Int.eq_ofNat_of_zero_le (show 0 ≤ bf by omega)
  have hB : B ≤ 1000 := by omega
  have hbf : bf ≤ B := by omega
  have hts : ts.length ≤ 50 := by omega
  have d1 : decide ((B : Int) < 0) = false := by simp
  have d2 : decide ((1000 : Int) < (B : Int)) = false := by simp; omega
  have d2' : decide (1000 < B) = false := by simp; omega
  have d3 : decide ((bf : Int) < 0) = false := by simp
  have d4 : decide ((B : Int) < (bf : Int)) = false := by simp; omega
  have d4' : decide (B < bf) = false := by simp; omega
  have d5 : decide (50 < ts.length) = false := by simp; omega
  have d5' : decide ((50 : Int) < (ts.length : Int)) = false := by simp; omega
  have d6 : (ts.length : Int) ≤ 50 := by omega
  clear hx
  have CN := Lib.hid (anew_any B (by omega) w2)
  go_wp2_with fail
  refine CN.out.mono ?_
  rintro e w3 ⟨rfl, hA, hb⟩
  have hN3 := hb.size
  have HT3 := Lib.hid (RowAt.step HT2.out hb)
  have HB3 := Lib.hid (RowAt.step HB2.out hb)
  have HBl3 := Lib.hid (HBl.out.trans (hb.mono hs2))
  have CR := Lib.hid (ares_any hA bf (by omega) (by omega) (by omega))
  have HAk := Lib.hid fun w' (hK : Kept (fun k => k = w2.heap.size) w3 w') (t : TypeId) (ht : (t == 55) = false) => Leaves.kept hK fun k e C => by rw [e]; exact RowAt.not_other hA ht C
  clear CN hb hA HT2 HB2 HBl t0 b0
  go_wp2_with fail
  refine CR.out.mono ?_
  rintro e w4 ⟨⟨p, g, rfl, _, _, _⟩, hA, hK⟩
  rw [Nat.zero_add, Nat.zero_add] at hA
  have HT4 := Lib.hid (HAk.out w4 hK 30 (by rfl) _ _ HT3.out)
  have HB4 := Lib.hid (HAk.out w4 hK 4 (by rfl) _ _ HB3.out)
  have HBl4 := Lib.hid (HBl3.out.trans (hK.under (N := w.heap.size) (fun k e => by rw [e]; omega) (by omega)))
  have hN4 := HBl4.out.size
  have CL := Lib.hid (lent_any hA)
  have HA4 := Lib.hid hA
  clear CR hA hK HAk HT3 HB3 HBl3
  go_wp2_with fail
  refine CL.out.mono ?_
  rintro e w5 ⟨rfl, hb⟩
  have HA5 := Lib.hid (show AreAt w5 w2.heap.size B bf (max 0 bf) 1 from RowAt.step HA4.out hb)
  have HT5 := Lib.hid (RowAt.step HT4.out hb)
  have HB5 := Lib.hid (RowAt.step HB4.out hb)
  have HBl5 := Lib.hid (HBl4.out.trans (hb.mono hN4))
  have hN5 := HBl5.out.size
  clear CL HA4 HT4 HB4 HBl4 hb
  obtain ⟨w6, hw6⟩ : ∃ w6, w6 = w5.alloc (.cells #[.int .i64 0] 3) := ⟨_, rfl⟩
  have hS6 : RowAt w6 w5.heap.size 3 #[.int .i64 0] := by rw [hw6]; exact RowAt.new _ _ _
  have hA6 : AreAt w6 w2.heap.size B bf (max 0 bf) 1 := by rw [hw6]; exact RowAt.alloc HA5.out _
  have hT6 : RowAt w6 w.heap.size 30 #[.slice A ts.length cp] := by rw [hw6]; exact RowAt.alloc HT5.out _
  have hB6 : RowAt w6 (w.heap.size + 1) 4 #[.bool bad] := by rw [hw6]; exact RowAt.alloc HB5.out _
  have hb6 : Below w.heap.size w w6 := by rw [hw6]; exact HBl5.out.alloc hN5 _
  have hs6 := hb6.size
  have L7 := LeaseIs.new w6 w.heap.size w2.heap.size hs6
  have G7 : Gv (w6.alloc (.cells (lcs w2.heap.size (.slice none 0 0) 0 0 false) 48)) (w6.alloc (.cells (lcs w2.heap.size (.slice none 0 0) 0 0 false) 48)) w.heap.size w2.heap.size B bf 1 w6.heap.size w.heap.size w5.heap.size (w.heap.size + 1) (.slice A ts.length cp) bad 0 :=
    ⟨⟨_, _, rfl, L7, rfl, RowAt.alloc hA6 _, hbf, Nat.le_refl _, rfl, RowAt.alloc hS6 _⟩, RowAt.alloc hT6 _, RowAt.alloc hB6 _, Below.refl _ _⟩
  have B7 := hb6.alloc hs6 (.cells (lcs w2.heap.size (.slice none 0 0) 0 0 false) 48)
  have K := gv_any G7 hB (by decide) (HR.out.keep fun p hp => B7.cell hp) hts B7.size hs2 hN5
  have CW := Lib.hid (lwith_any (N := w.heap.size) (a := w2.heap.size) (B := B) (u := bf) (c := 1) (cap := #[.pointer (some ⟨w.heap.size, 0, none⟩), .pointer (some ⟨w5.heap.size, 0, none⟩), .pointer (some ⟨w.heap.size + 1, 0, none⟩)])
    (R := fun err x w' => decide (err = 5) = bad ∧ x.peak = hs x.qs ∧ bf + hs x.qs ≤ B ∧ RowAt w' w5.heap.size 3 #[.int .i64 (hs x.qs : Int)] ∧ RowAt w' (w.heap.size + 1) 4 #[.bool bad] ∧ Below w.heap.size w w') enter_gv (K.mono (by
    rintro e w' ⟨⟨z, rfl, hz⟩, hG⟩
    obtain ⟨x, h, h1, h2, h3, h4, h5, h6, h7, h8⟩ := hG.st
    exact ⟨z, x, h, rfl, h1, h2, h3, h4, by omega, by omega, hz, h7, h5, h8, hG.b, B7.trans hG.below⟩)))
  rw [hw6] at CW
  clear L7 G7 B7 K hS6 hA6 hT6 hB6 hb6 hs6 hw6 HA5 HT5 HB5
  have y0 : (w5.alloc (.cells #[.int .i64 0] 3)).frozen? ⟨w5.heap.size, 0, none⟩ = false := (RowAt.new w5 _ _).frozen 0
  go_wp2_with fail
  refine CW.out.mono ?_
  rintro e w7 ⟨err, x, h', w8, rfl, ⟨hz, hpk, hfit, hS, hBd, hBl⟩, hI, hA, hA9, _, hK⟩
  have hS9 := hI.leaves hA hK 3 (by rfl) (by rfl) (by rfl) (by rfl) (by rfl) _ _ hS
  have hB9 := hI.leaves hA hK 4 (by rfl) (by rfl) (by rfl) (by rfl) (by rfl) _ _ hBd
  have HBl9 := Lib.hid (hBl.trans (hK.under (hI.under hs2) hBl.size))
  rw [Nat.add_sub_cancel, Nat.add_sub_cancel] at hA9
  rw [hpk]
  have CU := Lib.hid (used_any hA9)
  have HA9 := Lib.hid hA9
  have HS9 := Lib.hid hS9
  have HB9 := Lib.hid hB9
  have HZ := Lib.hid hz
  clear CW hS hBd hBl hI hA hK hS9 hB9 hA9 hpk hz y0
  generalize hs x.qs = s at *
  go_wp2_with fail
  refine CU.out.mono ?_
  rintro e w10 ⟨rfl, hb10⟩
  have CL := Lib.hid (lent_any (show AreAt w10 w2.heap.size B bf h' 1 from RowAt.step HA9.out hb10))
  have HS10 := Lib.hid (RowAt.step HS9.out hb10)
  have HB10 := Lib.hid (RowAt.step HB9.out hb10)
  have HBl10 := Lib.hid (HBl9.out.trans (hb10.mono HBl9.out.size))
  clear CU HA9 HS9 HB9 HBl9 hb10
  go_wp2_with fail
  refine CL.out.mono ?_
  rintro e w11 ⟨rfl, hb11⟩
  have HBl11 := Lib.hid (HBl10.out.trans (hb11.mono HBl10.out.size))
  have z0 : w11.cell? ⟨w5.heap.size, 0, none⟩ = some (.int .i64 (s : Int)) := by rw [(RowAt.step HS10.out hb11).cell 0]; rfl
  have z1 : w11.cell? ⟨w.heap.size + 1, 0, none⟩ = some (.bool bad) := by rw [(RowAt.step HB10.out hb11).cell 0]; rfl
  clear CL HS10 HB10 HBl10 hb11
  have q1 : IntKind.i64.wrap ((B : Int) - (bf : Int)) = (B : Int) - (bf : Int) := by rw [IntKind.wrap_i64]; omega
  have q2 : decide ((s : Int) ≤ (B : Int) - (bf : Int)) = true := by simp; omega
  have q2' : (s : Int) ≤ (B : Int) - (bf : Int) := by omega
  have hz := HZ.out
  by_cases h5 : err = 5
  · subst h5
    obtain rfl : bad = true := by simpa using hz.symm
    clear hz HZ
    go_wp2
    go_ret
    exact ⟨rfl, HBl11.out⟩
  · obtain rfl : bad = false := by simpa [h5] using hz.symm
    have q3 : (err == 5) = false := by simpa using h5
    clear hz HZ
    go_wp2
    go_ret
    exact ⟨rfl, HBl11.out⟩
end Go.Proofs.Ytcleekhdijiefaa
