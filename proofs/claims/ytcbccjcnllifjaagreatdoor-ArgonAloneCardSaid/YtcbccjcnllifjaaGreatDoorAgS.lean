/- The document's shape of parameters, by its contract: no shape of those that may not be. No condition but those typed. Argon2's inputs as they lie in memory; whether texts are too long, Check of package argon, and the document's Why, by their contracts. No condition but those typed. -/
import Derived.Test.YtcbccjcnllifjaaGreatDoorSp
import Derived.Test.YtcbccjcnllifjaaGreatDoorFd
namespace Go.Proofs.YtcbccjcnllifjaaGreatDoor
set_option maxRecDepth 50000
open Go.RowKit
theorem rsp_sizeA : (Tryz.prog.info? 44).map (·.size) = some 8 := by kernel_rfl
theorem rof_row (a t m l z : Int) (C : Array Value) (w : World) : RowAt ((w.alloc (.cells (pac a t m l z) 23)).alloc (.cells C 44)) (w.heap.size + 1) 44 C := by
  have h := RowAt.new (w.alloc (.cells (pac a t m l z) 23)) 44 C
  rwa [World.size_alloc] at h
set_option maxHeartbeats 3200000 in
theorem rof_bad (a t m l z : Int) (h : mayB a t m l z = false) (w : World) : Calls Tryz.prog 15 #[pav a t m l z] w fun e w' => e = .returned (.tuple #[spz, .bool false]) ∧ Below w.heap.size w w' := by
  have HR := Lib.hid (rof_row a t m l z spzc w)
  have HB := Lib.hid (two_box w (.cells (pac a t m l z) 23) (.cells spzc 44))
  have hw : 1 ≤ l → l ≤ 16777215 → IntKind.i64.wrap (8 * l) = 8 * l := fun h1 h2 => by rw [IntKind.wrap_i64]; omega
  have H : (decide (a < 1) = true) ∨ (decide (a < 1) = false ∧ decide (3 < a) = true) ∨ (decide (a < 1) = false ∧ decide (3 < a) = false ∧ decide (t < 1) = true) ∨ (decide (a < 1) = false ∧ decide (3 < a) = false ∧ decide (t < 1) = false ∧ decide (4294967295 < t) = true) ∨
      (decide (a < 1) = false ∧ decide (3 < a) = false ∧ decide (t < 1) = false ∧ decide (4294967295 < t) = false ∧ decide (l < 1) = true) ∨ (decide (a < 1) = false ∧ decide (3 < a) = false ∧ decide (t < 1) = false ∧ decide (4294967295 < t) = false ∧ decide (l < 1) = false ∧ decide (16777215 < l) = true) ∨
      (decide (a < 1) = false ∧ decide (3 < a) = false ∧ decide (t < 1) = false ∧ decide (4294967295 < t) = false ∧ decide (l < 1) = false ∧ decide (16777215 < l) = false ∧ decide (z < 4) = true) ∨
      (decide (a < 1) = false ∧ decide (3 < a) = false ∧ decide (t < 1) = false ∧ decide (4294967295 < t) = false ∧ decide (l < 1) = false ∧ decide (16777215 < l) = false ∧ decide (z < 4) = false ∧ decide (1024 < z) = true) ∨
      (decide (a < 1) = false ∧ decide (3 < a) = false ∧ decide (t < 1) = false ∧ decide (4294967295 < t) = false ∧ decide (l < 1) = false ∧ decide (16777215 < l) = false ∧ decide (z < 4) = false ∧ decide (1024 < z) = false ∧ IntKind.i64.wrap (8 * l) = 8 * l ∧ decide (m < 8 * l) = true) ∨
      (decide (a < 1) = false ∧ decide (3 < a) = false ∧ decide (t < 1) = false ∧ decide (4294967295 < t) = false ∧ decide (l < 1) = false ∧ decide (16777215 < l) = false ∧ decide (z < 4) = false ∧ decide (1024 < z) = false ∧ IntKind.i64.wrap (8 * l) = 8 * l ∧ decide (m < 8 * l) = false ∧ decide (4294967295 < m) = true) := by
    have B : ∀ (p : Prop) [Decidable p], decide p = true ∨ decide p = false := fun p _ => by cases decide p <;> simp
    rcases B (a < 1) with d1 | d1
    · exact .inl d1
    refine .inr ?_
    rcases B (3 < a) with d2 | d2
    · exact .inl ⟨d1, d2⟩
    refine .inr ?_
    rcases B (t < 1) with d3 | d3
    · exact .inl ⟨d1, d2, d3⟩
    refine .inr ?_
    rcases B (4294967295 < t) with d4 | d4
    · exact .inl ⟨d1, d2, d3, d4⟩
    refine .inr ?_
    rcases B (l < 1) with d5 | d5
    · exact .inl ⟨d1, d2, d3, d4, d5⟩
    refine .inr ?_
    rcases B (16777215 < l) with d6 | d6
    · exact .inl ⟨d1, d2, d3, d4, d5, d6⟩
    refine .inr ?_
    rcases B (z < 4) with d7 | d7
    · exact .inl ⟨d1, d2, d3, d4, d5, d6, d7⟩
    refine .inr ?_
    rcases B (1024 < z) with d8 | d8
    · exact .inl ⟨d1, d2, d3, d4, d5, d6, d7, d8⟩
    refine .inr ?_
    have h1 : 1 ≤ l := by have := of_decide_eq_false d5; omega
    have h2 : l ≤ 16777215 := by have := of_decide_eq_false d6; omega
    have d9 := hw h1 h2
    rcases B (m < 8 * l) with d10 | d10
    · exact .inl ⟨d1, d2, d3, d4, d5, d6, d7, d8, d9, d10⟩
    refine .inr ⟨d1, d2, d3, d4, d5, d6, d7, d8, d9, d10, ?_⟩
    rcases B (4294967295 < m) with d11 | d11
    · exact d11
    exfalso
    have e1 := of_decide_eq_false d1
    have e2 := of_decide_eq_false d2
    have e3 := of_decide_eq_false d3
    have e4 := of_decide_eq_false d4
    have e7 := of_decide_eq_false d7
    have e8 := of_decide_eq_false d8
    have e10 := of_decide_eq_false d10
    have e11 := of_decide_eq_false d11
    have : mayB a t m l z = true := by
      simp only [mayB, inB, Bool.and_eq_true, Bool.or_eq_true, beq_iff_eq, decide_eq_true_eq]
      exact ⟨by omega, ⟨by omega, by omega⟩, ⟨by omega, by omega⟩, ⟨by omega, by omega⟩, by omega, by omega⟩
    rw [this] at h
    cases h
  clear h hw
  rcases H with d1 | ⟨d1, d2⟩ | ⟨d1, d2, d3⟩ | ⟨d1, d2, d3, d4⟩ | ⟨d1, d2, d3, d4, d5⟩ | ⟨d1, d2, d3, d4, d5, d6⟩ | ⟨d1, d2, d3, d4, d5, d6, d7⟩ | ⟨d1, d2, d3, d4, d5, d6, d7, d8⟩ | ⟨d1, d2, d3, d4, d5, d6, d7, d8, d9, d10⟩ | ⟨d1, d2, d3, d4, d5, d6, d7, d8, d9, d10, d11⟩
  all_goals
    go_enter Tryz.func15, Tryz.ntmps15
    go_wp2
    refine bodyPost_ret (results_row_tmp (fn := Tryz.f15) (p := 2) (u := 3) (b := w.heap.size + 1) (t := 44) (C := spzc) rfl _ rfl HR.out Tryz.underlying44 rfl rsp_sizeA) rfl ⟨rfl, HB.out⟩
end Go.Proofs.YtcbccjcnllifjaaGreatDoor
namespace Go.Proofs.YtcbccjcnllifjaaGreatDoor
set_option maxRecDepth 50000
open Go.RowKit
abbrev inv (s1 s2 s3 s4 : ByteArray) : Value := .agg #[.string s1, .string s2, .string s3, .string s4]
abbrev inc (s1 s2 s3 s4 : ByteArray) : Array Value := #[.string s1, .string s2, .string s3, .string s4]
theorem in_agg (w : World) : (isAgg 25).run Tryz.prog w = .ok true w := by
  unfold isAgg
  rw [Sem.run_bind, run_underlying Tryz.underlying25 w]
  rfl
theorem in_size : (Tryz.prog.info? 25).map (·.size) = some 4 := by kernel_rfl
theorem in_load {w : World} {k : Nat} {s1 s2 s3 s4 : ByteArray} (h : RowAt w k 25 (inc s1 s2 s3 s4)) : (loadVar 25 ⟨k, 0, none⟩).run Tryz.prog w = .ok (inv s1 s2 s3 s4) w :=
  sub_load h in_agg in_size 0 [.string s1, .string s2, .string s3, .string s4] rfl fun j v h => by simpa using h
theorem in_cells {w : World} {k : Nat} {s1 s2 s3 s4 : ByteArray} (h : RowAt w k 25 (inc s1 s2 s3 s4)) :
    w.cell? ⟨k, 0, none⟩ = some (.string s1) ∧ w.cell? ⟨k, 1, none⟩ = some (.string s2) ∧ w.cell? ⟨k, 2, none⟩ = some (.string s3) ∧ w.cell? ⟨k, 3, none⟩ = some (.string s4) :=
  ⟨(h.cell 0).trans rfl, (h.cell 1).trans rfl, (h.cell 2).trans rfl, (h.cell 3).trans rfl⟩
abbrev pinW (a t m l z : Int) (s1 s2 s3 s4 : ByteArray) (w : World) : World := (w.alloc (.cells (pac a t m l z) 23)).alloc (.cells (inc s1 s2 s3 s4) 25)
theorem pin_rows (a t m l z : Int) (s1 s2 s3 s4 : ByteArray) (w : World) : RowAt (pinW a t m l z s1 s2 s3 s4 w) w.heap.size 23 (pac a t m l z) ∧ RowAt (pinW a t m l z s1 s2 s3 s4 w) (w.heap.size + 1) 25 (inc s1 s2 s3 s4) ∧ Below w.heap.size w (pinW a t m l z s1 s2 s3 s4 w) := by
  refine ⟨(RowAt.new w _ _).alloc _, ?_, two_box _ _ _⟩
  have h := RowAt.new (w.alloc (.cells (pac a t m l z) 23)) 25 (inc s1 s2 s3 s4)
  rwa [World.size_alloc] at h
def wyN (nw ns nk nd : Nat) : Int := if ns < 8 ∨ 64 < ns then 9 else if 4096 < nw ∨ 4096 < nk ∨ 4096 < nd then 3 else 0
theorem rof_good {a t m l z : Nat} (hM : Mok a t m l z) {b c g : Nat} (hg : g = m / (4 * l)) (hc : c = 4 * g) (hb : b = l * c) (hbm : b ≤ m) (w : World) :
    Calls Tryz.prog 15 #[pav a t m l z] w fun e w' => e = .returned (.tuple #[spv a t l m b c g z, .bool true]) ∧ Below w.heap.size w w' := by
  obtain ⟨ha, ht1, ht2, hl1, hl2, hm1, hm2, hz1, hz2⟩ := hM
  have HR := Lib.hid (rof_row a t m l z (spc a t l m b c g z) w)
  have HB := Lib.hid (two_box w (.cells (pac a t m l z) 23) (.cells (spc a t l m b c g z) 44))
  have d1 : decide ((a : Int) < 1) = false := by simp; omega
  have d2 : decide ((3 : Int) < (a : Int)) = false := by simp; omega
  have d3 : decide ((t : Int) < 1) = false := by simp; omega
  have d4 : decide ((4294967295 : Int) < (t : Int)) = false := by simp; omega
  have d5 : decide ((l : Int) < 1) = false := by simp; omega
  have d6 : decide ((16777215 : Int) < (l : Int)) = false := by simp; omega
  have d7 : decide ((z : Int) < 4) = false := by simp; omega
  have d8 : decide ((1024 : Int) < (z : Int)) = false := by simp; omega
  obtain ⟨L8, e8⟩ : ∃ L8, 8 * l = L8 := ⟨_, rfl⟩
  obtain ⟨u, eu⟩ : ∃ u, 4 * l = u := ⟨_, rfl⟩
  have m8 : (8 : Int) * (l : Int) = (L8 : Int) := by omega
  have w8 : IntKind.i64.wrap (L8 : Int) = (L8 : Int) := by rw [IntKind.wrap_i64]; omega
  have d9 : decide ((m : Int) < (L8 : Int)) = false := by simp; omega
  have d10 : decide ((4294967295 : Int) < (m : Int)) = false := by simp; omega
  have m4 : (4 : Int) * (l : Int) = (u : Int) := by omega
  have w4 : IntKind.i64.wrap (u : Int) = (u : Int) := by rw [IntKind.wrap_i64]; omega
  have u0 : ((u : Int) == 0) = false := by simp; omega
  rw [eu] at hg
  have hgm : g ≤ m := by rw [hg]; exact Nat.div_le_self _ _
  have q1 : (m : Int) / (u : Int) = (g : Int) := by rw [hg]; rfl
  have wg : IntKind.i64.wrap (g : Int) = (g : Int) := by rw [IntKind.wrap_i64]; omega
  have hub : u * g = b := by rw [hb, hc, ← eu, Nat.mul_comm 4 l, Nat.mul_assoc]
  have m5 : (u : Int) * (g : Int) = (b : Int) := by rw [← hub, Int.natCast_mul]
  have wb : IntKind.i64.wrap (b : Int) = (b : Int) := by rw [IntKind.wrap_i64]; omega
  have hlc : c ≤ b := by rw [hb]; exact Nat.le_mul_of_pos_left c hl1
  have m6 : (4 : Int) * (g : Int) = (c : Int) := by omega
  have wc : IntKind.i64.wrap (c : Int) = (c : Int) := by rw [IntKind.wrap_i64]; omega
  have hu1 : 1 ≤ u := by omega
  clear hg hub hb hc e8 eu
  go_enter Tryz.func15, Tryz.ntmps15
  go_wp2
  refine bodyPost_ret (results_row_tmp (fn := Tryz.f15) (p := 2) (u := 3) (b := w.heap.size + 1) (t := 44) (C := spc a t l m b c g z) rfl _ rfl HR.out Tryz.underlying44 rfl rsp_sizeA) rfl ⟨rfl, HB.out⟩
def longB (ps : List ByteArray) : Bool := ps.any fun s => decide (4096 < s.size)
theorem longB_at {ps : List ByteArray} {k : Nat} (hk : k < ps.length) (h : 4096 < ps[k].size) : longB ps = true := List.any_eq_true.2 ⟨ps[k], List.getElem_mem hk, by simpa using h⟩
theorem longB_no {ps : List ByteArray} (h : ∀ k (hk : k < ps.length), ps[k].size ≤ 4096) : longB ps = false := by
  unfold longB
  rw [List.any_eq_false]
  intro s hs
  obtain ⟨k, hk, rfl⟩ := List.getElem_of_mem hs
  have := h k hk
  simp; omega
set_option maxHeartbeats 800000 in
theorem toolong_any {w : World} (A : Option Addr) (c : Nat) (ps : List ByteArray) (hr : Reads w w.heap.size A (stv ps)) (hps : ps.length ≤ 1000000) :
    Calls Tryz.prog 28 #[.slice A ps.length c] w fun e w' => e = .returned (.bool (longB ps)) ∧ w = w' := by
  have HR := Lib.hid hr
  have HY := Lib.hid fun k (hk : k < ps.length) (h : 4096 < ps[k].size) => longB_at hk h
  have HN := Lib.hid (longB_no (ps := ps))
  generalize longB ps = R at *
  clear hr
  go_enter Tryz.func28, Tryz.ntmps28
  go_wp2
  go_loopw [7] (fun v7 wr => ∃ k : Nat, k ≤ ps.length ∧ v7 = .int .i64 (k : Int) ∧ w = wr ∧ Hid (∀ i (hi : i < ps.length), i < k → ps[i].size ≤ 4096)) (fun v7 _ => ps.length - (intOf v7).toNat)
  case atStart => exact ⟨0, Nat.zero_le _, rfl, rfl, Lib.hid fun _ _ h => by omega⟩
  case round =>
    obtain ⟨k, hkp, rfl, rfl, HS⟩ := hrel
    by_cases hlt : k < ps.length
    · have hd : decide ((k : Int) < (ps.length : Int)) = true := by simp; omega
      obtain ⟨b, off, rfl, hbl, hcell⟩ := HR.out k (by rw [stv_length]; exact hlt)
      rw [stv_at] at hcell
      by_cases h4 : 4096 < ps[k].size
      · have hd2 : decide ((4096 : Int) < (ps[k].size : Int)) = true := by simp; omega
        have hd3 : decide (4096 < ps[k].size) = true := by simp; omega
        obtain rfl := HY.out k hlt h4
        go_wp2
        go_ret
        exact ⟨rfl, rfl⟩
      · have hd2 : decide ((4096 : Int) < (ps[k].size : Int)) = false := by simp; omega
        have hd3 : decide (4096 < ps[k].size) = false := by simp; omega
        have HS2 : Hid (∀ i (hi : i < ps.length), i < k + 1 → ps[i].size ≤ 4096) := Lib.hid fun i hi h => by
          rcases Nat.lt_or_ge i k with h' | h'
          · exact HS.out i hi h'
          · obtain rfl : i = k := by omega
            omega
        go_wp2
        go_roundw
        case rel => exact ⟨k + 1, by omega, by go_num, trivial, HS2⟩
        case measure => simp [intOf]; omega
    · obtain rfl : k = ps.length := by omega
      have hd : decide ((ps.length : Int) < (ps.length : Int)) = false := by simp
      obtain rfl := HN.out fun i hi => HS.out i hi hi
      go_wp2
      go_ret
      exact ⟨rfl, rfl⟩
theorem wy_salt {nw ns nk nd : Nat} (h : ns < 8 ∨ 64 < ns) : wyN nw ns nk nd = 9 := if_pos h
theorem wy_long {nw ns nk nd : Nat} (h : ¬ (ns < 8 ∨ 64 < ns)) (h' : 4096 < nw ∨ 4096 < nk ∨ 4096 < nd) : wyN nw ns nk nd = 3 := by unfold wyN; rw [if_neg h, if_pos h']
theorem wy_none {nw ns nk nd : Nat} (h : ¬ (ns < 8 ∨ 64 < ns)) (h' : ¬ (4096 < nw ∨ 4096 < nk ∨ 4096 < nd)) : wyN nw ns nk nd = 0 := by unfold wyN; rw [if_neg h, if_neg h']
theorem long_three (s1 s3 s4 : ByteArray) : longB [s1, s3, s4] = decide (4096 < s1.size ∨ 4096 < s3.size ∨ 4096 < s4.size) := by simp [longB]
theorem three_long (w : World) (s1 s3 s4 : ByteArray) : Calls Tryz.prog 28 #[.slice (some ⟨w.heap.size, 0, none⟩) 3 3] (w.alloc (.cells #[.string s1, .string s3, .string s4] 9)) fun e w' => e = .returned (.bool (decide (4096 < s1.size ∨ 4096 < s3.size ∨ 4096 < s4.size))) ∧ w.alloc (.cells #[.string s1, .string s3, .string s4] 9) = w' := by
  rw [← long_three]
  refine toolong_any (some ⟨w.heap.size, 0, none⟩) 3 [s1, s3, s4] (fun k hk => ?_) (by simp)
  have hk : k < 3 := by simpa [stv] using hk
  refine ⟨w.heap.size, 0, rfl, by simp, ?_⟩
  rw [Nat.zero_add, (RowAt.new w 9 #[.string s1, .string s3, .string s4]).cell k]
  rcases (show k = 0 ∨ k = 1 ∨ k = 2 by omega) with rfl | rfl | rfl <;> rfl
set_option maxHeartbeats 1600000 in
theorem check_bad (a t m l z : Int) (h : mayB a t m l z = false) (s1 s2 s3 s4 : ByteArray) (w : World) :
    Calls Tryz.prog 9 #[pav a t m l z, inv s1 s2 s3 s4] w fun e w' => e = .returned (.int .i64 2) ∧ Below w.heap.size w w' := by
  have C := Lib.hid (of_bad a t m l z h)
  obtain ⟨hp, hi, hb⟩ := pin_rows a t m l z s1 s2 s3 s4 w
  have HP := Lib.hid hp
  have HB := Lib.hid hb
  clear h hp hi hb
  go_enter Tryz.func9, Tryz.ntmps9
  go_wp2_with (refine wpList_load_want rfl 23 _ rfl _ _ rfl (pa_load HP.out) ?_)
  refine (C.out _).mono ?_
  rintro e w2 ⟨rfl, hb⟩
  have HB2 := Lib.hid ((HB.out.trans (hb.mono HB.out.size)))
  have HB3 := Lib.hid (HB2.out.alloc HB2.out.size (.cells spzc 57))
  clear hb C HP HB
  go_wp2
  go_ret
  exact ⟨rfl, HB3.out⟩
set_option maxHeartbeats 1600000 in
theorem check_good {a t m l z b c g : Nat} (CO : ∀ w : World, Calls Tryz.prog 23 #[pav a t m l z] w fun e w' => e = .returned (.tuple #[spv a t l m b c g z, .int .i64 0]) ∧ Below w.heap.size w w') (s1 s2 s3 s4 : ByteArray) (hs2 : s2.size ≤ 140737488351232) (w : World) :
    Calls Tryz.prog 9 #[pav a t m l z, inv s1 s2 s3 s4] w fun e w' => e = .returned (.int .i64 (wyN s1.size s2.size s3.size s4.size)) ∧ Below w.heap.size w w' := by
  have C := Lib.hid CO
  generalize hy : wyN s1.size s2.size s3.size s4.size = Y
  have HY := Lib.hid hy
  clear hy
  obtain ⟨hp, hi, hb⟩ := pin_rows a t m l z s1 s2 s3 s4 w
  have HP := Lib.hid hp
  have HI := Lib.hid hi
  have HB := Lib.hid hb
  clear hp hi hb CO
  go_enter Tryz.func9, Tryz.ntmps9
  go_wp2_with (refine wpList_load_want rfl 23 _ rfl _ _ rfl (pa_load HP.out) ?_)
  refine (C.out _).mono ?_
  rintro e w2 ⟨rfl, hb⟩
  have HB2 := Lib.hid ((HB.out.trans (hb.mono HB.out.size)))
  have HB3 := Lib.hid (HB2.out.alloc HB2.out.size (.cells (spc a t l m b c g z) 57))
  obtain ⟨k0, k1, k2, k3⟩ := in_cells (((HI.out.step hb)).alloc (.cells (spc a t l m b c g z) 57))
  clear hb C HP HB HI HB2
  by_cases h1 : s2.size < 8 ∨ 64 < s2.size
  · have hin : inB (s2.size : Int) 8 64 = false := by simp [inB]; omega
    have CW := Lib.hid fun w => within_at hin w
    obtain rfl : 9 = Y := by rw [← HY.out]; exact (wy_salt h1).symm
    clear HY
    go_wp2_with fail
    refine (CW.out _).mono ?_
    rintro e w3 ⟨rfl, rfl⟩
    go_wp2
    go_ret
    exact ⟨rfl, HB3.out⟩
  have hin : inB (s2.size : Int) 8 64 = true := by simp [inB]; omega
  have CW := Lib.hid fun w => within_at hin w
  have CT := Lib.hid fun w => three_long w s1 s3 s4
  go_wp2_with fail
  refine (CW.out _).mono ?_
  rintro e w3 ⟨rfl, rfl⟩
  generalize World.alloc _ (.cells _ 57) = w3 at *
  have HB4 := Lib.hid (HB3.out.alloc HB3.out.size (.cells #[.string s1, .string s3, .string s4] 9))
  clear HB3 hin CW
  by_cases h2 : 4096 < s1.size ∨ 4096 < s3.size ∨ 4096 < s4.size
  · rw [show decide (4096 < s1.size ∨ 4096 < s3.size ∨ 4096 < s4.size) = true from decide_eq_true h2] at CT
    obtain rfl : 3 = Y := by rw [← HY.out]; exact (wy_long h1 h2).symm
    clear HY
    clear h1 h2
    go_wp2_with fail
    refine (CT.out _).mono ?_
    rintro e w4 ⟨rfl, hw⟩
    obtain rfl := hw
    go_wp2
    go_ret
    exact ⟨rfl, HB4.out⟩
  · rw [show decide (4096 < s1.size ∨ 4096 < s3.size ∨ 4096 < s4.size) = false from decide_eq_false h2] at CT
    obtain rfl : 0 = Y := by rw [← HY.out]; exact (wy_none h1 h2).symm
    clear HY
    clear h1 h2
    go_wp2_with fail
    refine (CT.out _).mono ?_
    rintro e w4 ⟨rfl, hw⟩
    obtain rfl := hw
    go_wp2
    go_ret
    exact ⟨rfl, HB4.out⟩
set_option maxHeartbeats 1600000 in
theorem why_bad (a t m l z : Int) (h : mayB a t m l z = false) (s1 s2 s3 s4 : ByteArray) (w : World) :
    Calls Tryz.prog 8 #[pav a t m l z, inv s1 s2 s3 s4] w fun e w' => e = .returned (.int .i64 2) ∧ Below w.heap.size w w' := by
  have C := Lib.hid (rof_bad a t m l z h)
  obtain ⟨hp, hi, hb⟩ := pin_rows a t m l z s1 s2 s3 s4 w
  have HP := Lib.hid hp
  have HB := Lib.hid hb
  clear h hp hi hb
  go_enter Tryz.func8, Tryz.ntmps8
  go_wp2_with (refine wpList_load_want rfl 23 _ rfl _ _ rfl (pa_load HP.out) ?_)
  refine (C.out _).mono ?_
  rintro e w2 ⟨rfl, hb⟩
  have HB2 := Lib.hid ((HB.out.trans (hb.mono HB.out.size)))
  have HB3 := Lib.hid (HB2.out.alloc HB2.out.size (.cells spzc 44))
  clear hb C HP HB
  go_wp2
  go_ret
  exact ⟨rfl, HB3.out⟩
set_option maxHeartbeats 3200000 in
theorem why_good {a t m l z b c g : Nat} (CO : ∀ w : World, Calls Tryz.prog 15 #[pav a t m l z] w fun e w' => e = .returned (.tuple #[spv a t l m b c g z, .bool true]) ∧ Below w.heap.size w w') (s1 s2 s3 s4 : ByteArray) (hs1 : s1.size ≤ 140737488351232) (hs2 : s2.size ≤ 140737488351232) (hs3 : s3.size ≤ 140737488351232) (hs4 : s4.size ≤ 140737488351232) (w : World) :
    Calls Tryz.prog 8 #[pav a t m l z, inv s1 s2 s3 s4] w fun e w' => e = .returned (.int .i64 (wyN s1.size s2.size s3.size s4.size)) ∧ Below w.heap.size w w' := by
  have C := Lib.hid CO
  generalize hy : wyN s1.size s2.size s3.size s4.size = Y
  have HH : (decide (s2.size < 8) = true ∧ Y = 9) ∨ (decide (s2.size < 8) = false ∧ decide (64 < s2.size) = true ∧ Y = 9) ∨ (decide (s2.size < 8) = false ∧ decide (64 < s2.size) = false ∧ decide (4096 < s1.size) = true ∧ Y = 3) ∨ (decide (s2.size < 8) = false ∧ decide (64 < s2.size) = false ∧ decide (4096 < s1.size) = false ∧ decide (4096 < s3.size) = true ∧ Y = 3) ∨
      (decide (s2.size < 8) = false ∧ decide (64 < s2.size) = false ∧ decide (4096 < s1.size) = false ∧ decide (4096 < s3.size) = false ∧ decide (4096 < s4.size) = true ∧ Y = 3) ∨ (decide (s2.size < 8) = false ∧ decide (64 < s2.size) = false ∧ decide (4096 < s1.size) = false ∧ decide (4096 < s3.size) = false ∧ decide (4096 < s4.size) = false ∧ Y = 0) := by
    rw [← hy]
    unfold wyN
    simp only [decide_eq_true_eq, decide_eq_false_iff_not]
    split
    · omega
    · split <;> omega
  clear hy
  obtain ⟨hp, hi, hb⟩ := pin_rows a t m l z s1 s2 s3 s4 w
  have HP := Lib.hid hp
  have HI := Lib.hid hi
  have HB := Lib.hid hb
  clear hp hi hb CO
  go_enter Tryz.func8, Tryz.ntmps8
  go_wp2_with (refine wpList_load_want rfl 23 _ rfl _ _ rfl (pa_load HP.out) ?_)
  refine (C.out _).mono ?_
  rintro e w2 ⟨rfl, hb⟩
  have HB2 := Lib.hid ((HB.out.trans (hb.mono HB.out.size)))
  have HB3 := Lib.hid (HB2.out.alloc HB2.out.size (.cells (spc a t l m b c g z) 44))
  obtain ⟨k0, k1, k2, k3⟩ := in_cells (((HI.out.step hb)).alloc (.cells (spc a t l m b c g z) 44))
  clear hb C HP HB HI HB2
  have X1 : ∀ r, decide (s2.size < 8) = r → decide ((s2.size : Int) < 8) = r := fun r h => by rw [← h]; exact decide_eq_decide.2 (by omega)
  have X2 : ∀ r, decide (64 < s2.size) = r → decide ((64 : Int) < (s2.size : Int)) = r := fun r h => by rw [← h]; exact decide_eq_decide.2 (by omega)
  have X3 : ∀ r, decide (4096 < s1.size) = r → decide ((4096 : Int) < (s1.size : Int)) = r := fun r h => by rw [← h]; exact decide_eq_decide.2 (by omega)
  have X4 : ∀ r, decide (4096 < s3.size) = r → decide ((4096 : Int) < (s3.size : Int)) = r := fun r h => by rw [← h]; exact decide_eq_decide.2 (by omega)
  have X5 : ∀ r, decide (4096 < s4.size) = r → decide ((4096 : Int) < (s4.size : Int)) = r := fun r h => by rw [← h]; exact decide_eq_decide.2 (by omega)
  rcases HH with ⟨n1, rfl⟩ | ⟨n1, n2, rfl⟩ | ⟨n1, n2, n3, rfl⟩ | ⟨n1, n2, n3, n4, rfl⟩ | ⟨n1, n2, n3, n4, n5, rfl⟩ | ⟨n1, n2, n3, n4, n5, rfl⟩
  · have d1 := X1 _ n1
    clear X1 X2 X3 X4 X5
    go_wp2
    go_ret
    exact ⟨rfl, HB3.out⟩
  · have d1 := X1 _ n1
    have d2 := X2 _ n2
    clear X1 X2 X3 X4 X5
    go_wp2
    go_ret
    exact ⟨rfl, HB3.out⟩
  · have d1 := X1 _ n1
    have d2 := X2 _ n2
    have d3 := X3 _ n3
    clear X1 X2 X3 X4 X5
    go_wp2
    go_ret
    exact ⟨rfl, HB3.out⟩
  · have d1 := X1 _ n1
    have d2 := X2 _ n2
    have d3 := X3 _ n3
    have d4 := X4 _ n4
    clear X1 X2 X3 X4 X5
    go_wp2
    go_ret
    exact ⟨rfl, HB3.out⟩
  all_goals
    have d1 := X1 _ n1
    have d2 := X2 _ n2
    have d3 := X3 _ n3
    have d4 := X4 _ n4
    have d5 := X5 _ n5
    clear X1 X2 X3 X4 X5
    go_wp2
    go_ret
    exact ⟨rfl, HB3.out⟩
end Go.Proofs.YtcbccjcnllifjaaGreatDoor
