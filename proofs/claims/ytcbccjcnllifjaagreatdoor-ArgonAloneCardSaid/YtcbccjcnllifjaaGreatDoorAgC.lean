/- Texts, ahead of each how many bytes it has, by package argon's counted. Condition: each has fewer than 2^32 bytes. The bytes of a shape's numbers, and Head of package argon, by their contracts. Condition: blake's table lies at its place. -/
import Derived.Test.YtcbccjcnllifjaaGreatDoorGr
import Derived.Test.YtcbccjcnllifjaaGreatDoorGdT
import Derived.ArgAppend
import Derived.Test.YtcbccjcnllifjaaGreatDoorAgS
import Derived.Test.YtcbccjcnllifjaaGreatDoorAd
namespace Go.Proofs.YtcbccjcnllifjaaGreatDoor
set_option maxRecDepth 50000
open Go.RowKit Bb Bl
def cntL (ps : List ByteArray) : List ByteArray := ps.flatMap fun s => [tx (lead s.size), s]
theorem cntL_next (ps : List ByteArray) (k : Nat) (h : k < ps.length) : cntL (ps.take (k + 1)) = cntL (ps.take k) ++ [tx (lead ps[k].size), ps[k]] := by
  unfold cntL
  rw [List.take_succ_eq_append_getElem h, List.flatMap_append]
  simp
theorem cntL_length (ps : List ByteArray) : (cntL ps).length = 2 * ps.length := by
  induction ps with
  | nil => rfl
  | cons s ps ih => rw [cntL, List.flatMap_cons, List.length_append, ← cntL, ih]; simp; omega
theorem stv_append (a b : List ByteArray) : stv (a ++ b) = stv a ++ stv b := by simp [stv]
set_option maxHeartbeats 3200000 in
theorem counted_any (A : Option Addr) (c : Nat) (ps : List ByteArray) (w : World) (hr : Reads w w.heap.size A (stv ps)) (hps : ps.length ≤ 1000) (hsz : ∀ k (hk : k < ps.length), ps[k].size < 4294967296) :
    Calls Tryz.prog 26 #[.slice A ps.length c] w fun e w' => ∃ v, e = .returned v ∧ w'.ownsRow w.heap.size 9 1 v (2 * ps.length) (stv (cntL ps)) ∧ Below w.heap.size w w' := by
  obtain ⟨i0, hi, hz0, hz1, hz2⟩ := info_parts st_info
  have HR := Lib.hid hr
  have HZ := Lib.hid hsz
  clear hr hsz
  go_enter Tryz.func26, Tryz.ntmps26
  go_wp2
  go_loopw [3, 8] (fun v3 v8 wr => ∃ k : Nat, k ≤ ps.length ∧ v8 = .int .i64 (k : Int) ∧ Hid (wr.ownsRow w.heap.size 9 1 v3 (2 * k) (stv (cntL (ps.take k)))) ∧ Hid (Below w.heap.size w wr)) (fun _ v8 _ => ps.length - (intOf v8).toNat)
  case atStart => exact ⟨0, Nat.zero_le _, rfl, Lib.hid (World.ownsRow_nil w w.heap.size _ _), Lib.hid (Below.refl _ _)⟩
  case round =>
    obtain ⟨k, hkp, rfl, HO, HB⟩ := hrel
    obtain ⟨A3, c3, rfl, ho1, ho2, ho3⟩ := own_form HO.out
    clear ho1 ho2 ho3
    by_cases hlt : k < ps.length
    · have hd : decide ((k : Int) < (ps.length : Int)) = true := by simp; omega
      obtain ⟨b, off, rfl, hbl, hcell⟩ := HR.out k (by rw [stv_length]; exact hlt)
      rw [stv_at] at hcell
      have hcell := (HB.out.cell hbl).trans hcell
      have hn := HZ.out k hlt
      have HN := Lib.hid (cntL_next ps k hlt)
      have hu : IntKind.u32.wrap (ps[k].size : Int) = (ps[k].size : Int) := by rw [IntKind.wrap_u32]; omega
      have CL := Lib.hid (little32_any (some ⟨wr.heap.size, 0, none⟩) 1 [ps[k].size] (wr.alloc (.cells #[.int .u32 (ps[k].size : Int)] 97)) (fun j hj => by
        have hj0 : j = 0 := by simp [u32s] at hj; omega
        subst hj0
        exact ⟨wr.heap.size, 0, rfl, by simp, by rw [cell_of_row _ _ _ _ _ (0, 0) (heap_alloc_last wr _)]; rfl⟩) (by simp) (fun x hx => by simp at hx; omega))
      have e4 : u8s ([ps[k].size].flatMap (bytesOf ups 4)) = cs (lead ps[k].size) := by rw [← lead_cs]; simp
      have HE4 := Lib.hid e4
      have hTL := tl_tx (lead ps[k].size)
      clear e4 hTL
      go_wp2_with fail
      refine CL.out.mono ?_
      rintro e w2 ⟨v, rfl, hown, hb3⟩
      rw [HE4.out] at hown
      have HB2 : Hid (Below wr.heap.size wr w2) := Lib.hid (below_step ((Below.refl _ wr).alloc (Nat.le_refl _) _) hb3)
      obtain ⟨A', c', rfl, hl', _, _⟩ := own_form hown
      clear hl'
      have hcv : (convert 86 9 (.slice A' 4 c')).run Tryz.prog w2 = .ok (.string (tx (lead ps[k].size))) w2 := conv_text _ hown
      have HO2 : Hid (w2.ownsRow w.heap.size 9 1 (.slice A3 (2 * k) c3) (2 * k) (stv (cntL (ps.take k)))) := Lib.hid (own_kept (M := fun _ => False) HO.out (Kept.of_below HB2.out) fun _ _ => id)
      have HB3 : Hid (Below w.heap.size w w2) := Lib.hid (HB.out.trans (HB2.out.mono HB.out.size))
      clear hown hb3 CL HE4
      generalize hT : tx (lead ps[k].size) = TL at *
      go_wp2_with (first
        | (at_builtin; refine wpList_append_own _ rfl (.tmp 12) (.tmp 20) 61 rfl w.heap.size 9 i0 (.string ⟨#[]⟩) 1 16 Tryz.underlying61 hi hz0 hz1 hz2 rfl (by decide) _ _ _ rfl (HO2.out.alloc _) ⟨w2.heap.size, 0, none⟩ 2 2 [.string TL, .string ps[k]] rfl rfl ?c1 ?c2 ?c3 ?c4 ?c5 ?_))
      case c1 =>
        have h := RowAt.new w2 9 #[.string TL, .string ps[k]]
        intro j u hj
        rcases j with _ | _ | j
        · simp at hj; subst hj; exact (h.cell 0).trans rfl
        · simp at hj; subst hj; exact (h.cell 1).trans rfl
        · simp at hj
      case c2 =>
        intro u hu
        simp only [List.mem_cons, List.not_mem_nil, or_false] at hu
        rcases hu with rfl | rfl <;> rfl
      case c3 => unfold maxLen; omega
      case c4 => omega
      case c5 => have := HB3.out.size; simp; omega
      intro v' w3 hown3 hg3 _
      have HO3 : Hid (w3.ownsRow w.heap.size 9 1 v' (2 * (k + 1)) (stv (cntL (ps.take (k + 1))))) := Lib.hid (by
        rw [HN.out, stv_append]
        exact hown3)
      have HB4 : Hid (Below w.heap.size w w3) := Lib.hid (HB3.out.trans (((Below.refl _ w2).alloc (Nat.le_refl _) _).mono HB3.out.size |>.grown hg3 (by have := HB3.out.size; simp; omega) (fun k hk => (HO2.out.lt k hk).1)))
      clear hown3 hg3 HO2 HB3 HN HO HB HB2
      go_wp2
      go_roundw
      case rel => exact ⟨k + 1, by omega, by go_num, HO3, HB4⟩
      case measure => simp [intOf]; omega
    · obtain rfl : k = ps.length := by omega
      have hd : decide ((ps.length : Int) < (ps.length : Int)) = false := by simp
      rw [List.take_length] at HO
      go_wp2
      go_ret
      exact ⟨_, rfl, HO.out, HB.out⟩
end Go.Proofs.YtcbccjcnllifjaaGreatDoor
namespace Go.Proofs.YtcbccjcnllifjaaGreatDoor
set_option maxRecDepth 50000
open Go.RowKit Bb Bl
theorem own_reads {w : World} {base : Nat} {e : TypeId} {n : Nat} {v : Value} {xs : List Value} (h : w.ownsRow base e 1 v n xs) : ∃ A c, v = .slice A n c ∧ Reads w w.heap.size A xs := by
  obtain ⟨A, c, rfl, _, _, _⟩ := own_form h
  exact ⟨A, c, rfl, Reads.of_own h⟩
theorem readsA {w w' : World} {A : Option Addr} {xs : List Value} (h : Reads w w.heap.size A xs) (hb : Below w.heap.size w w') : Reads w' w'.heap.size A xs := (h.below hb).more hb.size
def NumsR (xs : List Nat) : Value → World → Prop := fun v w => ∃ A, v = .slice A xs.length xs.length ∧ Reads w w.heap.size A (u32s xs)
theorem stable_numsr (xs : List Nat) : Stable (NumsR xs) := fun _ _ _ ⟨A, e, h⟩ hb => ⟨A, e, readsA h hb⟩
def TxR (l : List ByteArray) : Value → World → Prop := fun v w => ∃ A c, v = .slice A l.length c ∧ Reads w w.heap.size A (stv l)
theorem stable_txr (l : List ByteArray) : Stable (TxR l) := fun _ _ _ ⟨A, c, e, h⟩ hb => ⟨A, c, e, readsA h hb⟩
theorem row_reads (w : World) (t : TypeId) (xs : List Value) : Reads (w.alloc (.cells xs.toArray t)) (w.alloc (.cells xs.toArray t)).heap.size (some ⟨w.heap.size, 0, none⟩) xs := fun k hk =>
  ⟨w.heap.size, 0, rfl, by simp, by rw [Nat.zero_add, (RowAt.new w t xs.toArray).cell k]; simp [hk]⟩
theorem nums_six (w : World) (a b c d e f : Nat) : NumsR [a, b, c, d, e, f] (.slice (some ⟨w.heap.size, 0, none⟩) 6 6) (w.alloc (.cells (u32s [a, b, c, d, e, f]).toArray 97)) := ⟨_, rfl, row_reads w _ _⟩
theorem six_build (w : World) (a b c d e f : Nat) : (Instr.buildSlice 145 6 #[(0, .int .u32 (a : Int)), (1, .int .u32 (b : Int)), (2, .int .u32 (c : Int)), (3, .int .u32 (d : Int)), (4, .int .u32 (e : Int)), (5, .int .u32 (f : Int))]).run Tryz.prog w = .ok (.slice (some ⟨w.heap.size, 0, none⟩) 6 6) (w.alloc (.cells (u32s [a, b, c, d, e, f]).toArray 97)) := by
  obtain ⟨i, hi, hz, hs, hb⟩ := info_parts Tryz.info97
  refine run_buildSlice w _ _ 6 _ (u32s [a, b, c, d, e, f]).toArray i _ Tryz.underlying145 hi hz (by rw [hs]; decide) (by rw [hs]; decide) ?_
  have e : Array.range 6 = #[0, 1, 2, 3, 4, 5] := rfl
  simp [Instr.fill, hs, Value.cells, e, u32s]
theorem six_run {w : World} {ev : Operand → Value} {o : Oper} {p1 p2 p3 p4 p5 p6 : Operand} {a b c d e f : Nat} (hop : o.op = .buildSlice 145 6 #[(0, p1), (1, p2), (2, p3), (3, p4), (4, p5), (5, p6)]) (h1 : ev p1 = .int .u32 (a : Int)) (h2 : ev p2 = .int .u32 (b : Int)) (h3 : ev p3 = .int .u32 (c : Int)) (h4 : ev p4 = .int .u32 (d : Int)) (h5 : ev p5 = .int .u32 (e : Int)) (h6 : ev p6 = .int .u32 (f : Int)) :
    (execOp ev o).run Tryz.prog w = .ok (.value (.slice (some ⟨w.heap.size, 0, none⟩) 6 6)) (w.alloc (.cells (u32s [a, b, c, d, e, f]).toArray 97)) := by
  simp only [execOp, hop, List.map_toArray, List.map_cons, List.map_nil, h1, h2, h3, h4, h5, h6, Sem.run_bind, six_build, Result.andThen_ok, Sem.run_pure]
theorem txr_four (w : World) (s1 s2 s3 s4 : ByteArray) : TxR [s1, s2, s3, s4] (.slice (some ⟨w.heap.size, 0, none⟩) 4 4) (w.alloc (.cells (stv [s1, s2, s3, s4]).toArray 9)) := ⟨_, _, rfl, row_reads w _ _⟩
theorem four_s (w : World) (s1 s2 s3 s4 : ByteArray) : (Instr.buildSlice 61 4 #[(0, .string s1), (1, .string s2), (2, .string s3), (3, .string s4)]).run Tryz.prog w = .ok (.slice (some ⟨w.heap.size, 0, none⟩) 4 4) (w.alloc (.cells (stv [s1, s2, s3, s4]).toArray 9)) := by
  obtain ⟨i, hi, hz, hs, hb⟩ := info_parts st_info
  refine run_buildSlice w _ _ 4 _ (stv [s1, s2, s3, s4]).toArray i _ Tryz.underlying61 hi hz (by rw [hs]; decide) (by rw [hs]; decide) ?_
  have e : Array.range 4 = #[0, 1, 2, 3] := rfl
  simp [Instr.fill, hs, Value.cells, e, stv]
theorem four_s_run {w : World} {ev : Operand → Value} {o : Oper} {p1 p2 p3 p4 : Operand} {s1 s2 s3 s4 : ByteArray} (hop : o.op = .buildSlice 61 4 #[(0, p1), (1, p2), (2, p3), (3, p4)]) (h1 : ev p1 = .string s1) (h2 : ev p2 = .string s2) (h3 : ev p3 = .string s3) (h4 : ev p4 = .string s4) :
    (execOp ev o).run Tryz.prog w = .ok (.value (.slice (some ⟨w.heap.size, 0, none⟩) 4 4)) (w.alloc (.cells (stv [s1, s2, s3, s4]).toArray 9)) := by
  simp only [execOp, hop, List.map_toArray, List.map_cons, List.map_nil, h1, h2, h3, h4, Sem.run_bind, four_s, Result.andThen_ok, Sem.run_pure]
theorem one_append {s : ByteArray} {l : List ByteArray} {w : World} {g : Nat} (h : RowAt w g 9 #[.string s]) {A : Option Addr} {c : Nat} (hl : 1 ≤ l.length ∧ l.length ≤ 1000) (hr : Reads w w.heap.size A (stv l)) (ty : TypeId) :
    ∃ v w', (Builtin.append_ #[61, 61] ty #[.slice (some ⟨g, 0, none⟩) 1 1, .slice A l.length c]).run Tryz.prog w = .ok v w' ∧ TxR (s :: l) v w' ∧ Below w.heap.size w w' := by
  obtain ⟨i, hi, hz, hs, hb⟩ := info_parts st_info
  obtain ⟨b, off, rfl, hbl, _⟩ := hr 0 (by rw [stv_length]; omega)
  obtain ⟨v, w', hrun, ho, hg⟩ := run_append_arg_grows (P := Tryz.prog) w 61 ty 9 i _ 1 16 Tryz.underlying61 hi hz hs hb rfl (by decide) ⟨g, 0, none⟩ 1 1 [.string s] rfl
    (fun j u hj => by
      rcases j with _ | j
      · simp at hj; subst hj; exact (h.cell 0).trans rfl
      · simp at hj) ⟨b, off, none⟩ l.length c (stv l) (by rw [stv_length, Nat.mul_one])
    (fun j u hj => by
      obtain ⟨hjl, rfl⟩ := List.getElem?_eq_some_iff.1 hj
      obtain ⟨b', off', e, _, hc⟩ := hr j hjl
      cases e
      rw [Addr.add_lit]; exact hc) (by omega) (by unfold maxLen; omega) (by omega)
  obtain ⟨A', c', rfl, hR⟩ := own_reads ho
  refine ⟨_, w', hrun, ?_, (Below.refl _ _).grown hg (Nat.le_refl _) (fun k e => by cases e)⟩
  rw [show 1 + l.length = (s :: l).length by simp; omega] at *
  exact ⟨A', c', rfl, hR⟩
theorem cntL_four (s1 s2 s3 s4 : ByteArray) : 1 ≤ (cntL [s1, s2, s3, s4]).length ∧ (cntL [s1, s2, s3, s4]).length ≤ 1000 := by rw [cntL_length]; simp
section
variable {w : World} {ev : Operand → Value} {x : Operand} {o : Oper}
theorem inf_run {b off : Nat} {k : Nat} (hop : o.op = .fieldAddr 25 x k) (hk : k < 4) (hx : ev x = .pointer (some ⟨b, off, none⟩)) : (execOp ev o).run Tryz.prog w = .ok (.value (.pointer (some ⟨b, off + k, none⟩))) w := by
  rcases (show k = 0 ∨ k = 1 ∨ k = 2 ∨ k = 3 by omega) with rfl | rfl | rfl | rfl
  all_goals
    simp [execOp, hop, hx, go_sem]
theorem str_run {ad : Addr} {s : ByteArray} (hop : o.op = .load 9 x) (hx : ev x = .pointer (some ad)) (hc : w.cell? ad = some (.string s)) : (execOp ev o).run Tryz.prog w = .ok (.value (.string s)) w := by
  simp [execOp, hop, hx, hc, go_sem]
end
def cosL (l z m t k : Nat) : List UInt8 := [l, z, m, t, 19, k].flatMap lead
theorem cosL_is (l z m t k : Nat) : u8s ([l, z, m, t, 19, k].flatMap (bytesOf ups 4)) = cs (cosL l z m t k) := by
  simp only [cosL, List.flatMap_cons, List.flatMap_nil, List.append_nil, ← lead_cs, cs_append, u8s_append]
theorem cosL_length (l z m t k : Nat) : (cosL l z m t k).length = 24 := by
  simp only [cosL, List.flatMap_cons, List.flatMap_nil, List.append_nil, List.length_append, lead_length]
set_option maxHeartbeats 3200000 in
theorem costs_any {a t l m b c g z : Nat} (ha : a = 1 ∨ a = 2 ∨ a = 3) (hl : l < 4294967296) (hz : z < 4294967296) (hm : m < 4294967296) (ht : t < 4294967296) (w : World) :
    Calls Tryz.prog 25 #[spv a t l m b c g z] w fun e w' => e = .returned (.string (tx (cosL l z m t (a - 1)))) ∧ Below w.heap.size w w' := by
  have CK : Hid (∀ u, Calls Tryz.prog 48 #[spv a t l m b c g z] u fun e w' => ∃ v, e = .returned v ∧ Is (.int .i64 ((a - 1 : Nat) : Int)) v w' ∧ Below u.heap.size u w') := Lib.hid fun u => by
    have h := kind_any ha t l m b c g z u
    rw [show (a : Int) - 1 = ((a - 1 : Nat) : Int) by omega] at h
    exact calls_is h
  obtain ⟨k, hk⟩ : ∃ k, a - 1 = k := ⟨_, rfl⟩
  rw [hk] at CK ⊢
  have hk3 : k < 4294967296 := by omega
  have CL : Hid (∀ (u : World) (A : Option Addr), Reads u u.heap.size A (u32s [l, z, m, t, 19, k]) → Calls Tryz.prog 47 #[.slice A 6 6] u fun e w' => ∃ v, e = .returned v ∧ Owns (cosL l z m t k) v w' ∧ Below u.heap.size u w') := Lib.hid fun u A hA => by
    refine (little32_any A 6 [l, z, m, t, 19, k] u hA (by simp) (fun x hx => by simp only [List.mem_cons, List.not_mem_nil, or_false] at hx; omega)).mono ?_
    rintro e w' ⟨v, rfl, ho, hb⟩
    rw [cosL_is] at ho
    exact ⟨v, rfl, ⟨_, _, ho⟩, hb⟩
  have HW := Lib.hid (RowAt.new w 57 (spc a t l m b c g z))
  have HBW := Lib.hid (one_box w (.cells (spc a t l m b c g z) 57))
  clear hk ha
  go_enter Tryz.func25, Tryz.ntmps25
  go_upto_region 1 with fail
  obtain ⟨w1, e1⟩ : ∃ w1, w1 = w.alloc (.cells (spc a t l m b c g z) 57) := ⟨_, rfl⟩
  rw [← e1] at HW HBW ⊢
  obtain ⟨S, hS⟩ : ∃ S, S = w.heap.size := ⟨_, rfl⟩
  rw [← hS] at HW ⊢
  have HS := HW
  clear e1 hS HW
  refine wp_region_text [Is (.pointer (some ⟨S, 0 + 2, none⟩)), Is (.int .i64 (l : Int)), Is (.int .u32 (l : Int)), Is (.pointer (some ⟨S, 0 + 7, none⟩)), Is (.int .i64 (z : Int)), Is (.int .u32 (z : Int)), Is (.pointer (some ⟨S, 0 + 3, none⟩)), Is (.int .i64 (m : Int)), Is (.int .u32 (m : Int)), Is (.pointer (some ⟨S, 0 + 1, none⟩)), Is (.int .i64 (t : Int)), Is (.int .u32 (t : Int)), Is (spv a t l m b c g z), Is (.int .i64 (k : Int)), Is (.int .u32 (k : Int)), NumsR [l, z, m, t, 19, k], Owns (cosL l z m t k), Is (.string (tx (cosL l z m t k))), Is (.string (tx (cosL l z m t k)))] (by kernel_rfl) (by kernel_rfl) rfl ⟨stable_is _, stable_is _, stable_is _, stable_is _, stable_is _, stable_is _, stable_is _, stable_is _, stable_is _, stable_is _, stable_is _, stable_is _, stable_is _, stable_is _, stable_is _, stable_numsr _, stable_owns _, stable_is _, stable_is _, trivial⟩ ⟨?_, ?_, ?_, ?_, ?_, ?_, ?_, ?_, ?_, ?_, ?_, ?_, ?_, ?_, ?_, ?_, ?_, ?_, ?_, trivial⟩ ?_
  · intro a w C
    exact part_on (wanted_free rfl _) (op_value (spf_all (k := 2) rfl (by decide) (C.was 1 (by kernel_rfl))) rfl)
  · intro a w C
    exact part_on (wanted_free rfl _) (op_value (int_run rfl (C.on (j := 0) (by kernel_rfl) rfl rfl) (sp_cells (HS.out.step C.below)).2.2.1) rfl)
  · intro a w C
    exact part_on (wanted_free rfl _) (op_conv rfl (C.on (j := 1) (by kernel_rfl) rfl rfl) (conv_u32 l (by omega) w) rfl)
  · intro a w C
    exact part_on (wanted_free rfl _) (op_value (spf_all (k := 7) rfl (by decide) (C.was 1 (by kernel_rfl))) rfl)
  · intro a w C
    exact part_on (wanted_free rfl _) (op_value (int_run rfl (C.on (j := 3) (by kernel_rfl) rfl rfl) (sp_cells (HS.out.step C.below)).2.2.2.2.2.2.2) rfl)
  · intro a w C
    exact part_on (wanted_free rfl _) (op_conv rfl (C.on (j := 4) (by kernel_rfl) rfl rfl) (conv_u32 z (by omega) w) rfl)
  · intro a w C
    exact part_on (wanted_free rfl _) (op_value (spf_all (k := 3) rfl (by decide) (C.was 1 (by kernel_rfl))) rfl)
  · intro a w C
    exact part_on (wanted_free rfl _) (op_value (int_run rfl (C.on (j := 6) (by kernel_rfl) rfl rfl) (sp_cells (HS.out.step C.below)).2.2.2.1) rfl)
  · intro a w C
    exact part_on (wanted_free rfl _) (op_conv rfl (C.on (j := 7) (by kernel_rfl) rfl rfl) (conv_u32 m (by omega) w) rfl)
  · intro a w C
    exact part_on (wanted_free rfl _) (op_value (spf_all (k := 1) rfl (by decide) (C.was 1 (by kernel_rfl))) rfl)
  · intro a w C
    exact part_on (wanted_free rfl _) (op_value (int_run rfl (C.on (j := 9) (by kernel_rfl) rfl rfl) (sp_cells (HS.out.step C.below)).2.1) rfl)
  · intro a w C
    exact part_on (wanted_free rfl _) (op_conv rfl (C.on (j := 10) (by kernel_rfl) rfl rfl) (conv_u32 t (by omega) w) rfl)
  · intro a w C
    exact part_on (wanted_free rfl _) (op_value (load_run rfl (C.was 1 (by kernel_rfl)) (sp_load (HS.out.step C.below))) rfl)
  · intro a w C
    exact part_on (wanted_free rfl _) (op_call1 rfl (reg_enters Tryz.func48 (by kernel_rfl) (by kernel_rfl)) (C.on (j := 12) (by kernel_rfl) rfl rfl) (CK.out w))
  · intro a w C
    exact part_on (wanted_free rfl _) (op_conv rfl (C.on (j := 13) (by kernel_rfl) rfl rfl) (conv_u32 k (by omega) w) rfl)
  · intro a w C
    exact part_on (wanted_free rfl _) (op_made (six_run rfl (C.on (j := 2) (by kernel_rfl) rfl rfl) (C.on (j := 5) (by kernel_rfl) rfl rfl) (C.on (j := 8) (by kernel_rfl) rfl rfl) (C.on (j := 11) (by kernel_rfl) rfl rfl) rfl (C.on (j := 14) (by kernel_rfl) rfl rfl)) (nums_six w l z m t 19 k) (one_box _ _))
  · intro a w C
    obtain ⟨A, e0, h0⟩ : NumsR _ _ _ := (C.on (j := 15) (by kernel_rfl) rfl rfl)
    exact part_on (wanted_free rfl _) (op_call1 rfl (reg_enters Tryz.func47 (by kernel_rfl) (by kernel_rfl)) e0 (CL.out w A h0))
  · intro a w C
    obtain ⟨B, n, ho⟩ : Owns _ _ _ := (C.on (j := 16) (by kernel_rfl) rfl rfl)
    exact part_on (wanted_free rfl _) (op_conv rfl rfl (conv_text w ho) rfl)
  · intro a w C
    exact part_on (wanted_free rfl _) (op_move (.inr rfl) (C.on (j := 17) (by kernel_rfl) rfl rfl))
  rintro wF hbF _ rfl _ rfl _ rfl _ rfl _ rfl _ rfl _ rfl _ rfl _ rfl _ rfl _ rfl _ rfl _ rfl _ rfl _ rfl x18 hx18 x19 hx19 _ rfl _ rfl
  simp only [Fin, setAt, Exit.then, List.setIfInBounds_toArray, List.set_cons_succ, List.set_cons_zero]
  have HF := Lib.hid (below_step HBW.out hbF)
  clear hbF HS CL CK HBW
  go_wp2
  go_ret
  exact ⟨rfl, HF.out⟩
def inL (s : ByteArray) : List UInt8 := lead s.size ++ tl s
def hdX (a t l m z : Nat) (s1 s2 s3 s4 : ByteArray) : List UInt8 := cosL l z m t (a - 1) ++ (inL s1 ++ (inL s2 ++ (inL s3 ++ inL s4)))
def hdL (a t l m z : Nat) (s1 s2 s3 s4 : ByteArray) : List UInt8 := blkL 0 64 (hdX a t l m z s1 s2 s3 s4)
theorem inL_length (s : ByteArray) : (inL s).length = 4 + s.size := by rw [inL, List.length_append, lead_length, tl_length]
theorem hdX_length (a t l m z : Nat) (s1 s2 s3 s4 : ByteArray) : (hdX a t l m z s1 s2 s3 s4).length = 40 + (s1.size + s2.size + s3.size + s4.size) := by
  simp only [hdX, List.length_append, cosL_length, inL_length]; omega
theorem jn_head (a t l m z : Nat) (s1 s2 s3 s4 : ByteArray) : jn (tx (cosL l z m t (a - 1)) :: cntL [s1, s2, s3, s4]) = hdX a t l m z s1 s2 s3 s4 := by
  simp [jn, cntL, hdX, inL, tl_tx]
set_option maxHeartbeats 1600000 in
theorem head_bad (pa pt pm pl pz : Int) (s1 s2 s3 s4 : ByteArray) {E : Int} (hE : E ≠ 0) (CC : ∀ w, Calls Tryz.prog 9 #[pav pa pt pm pl pz, inv s1 s2 s3 s4] w fun e w' => e = .returned (.int .i64 E) ∧ Below w.heap.size w w') (w : World) :
    Calls Tryz.prog 7 #[pav pa pt pm pl pz, inv s1 s2 s3 s4] w fun e w' => e = .returned (.tuple #[.string ⟨#[]⟩, .int .i64 E]) ∧ Below w.heap.size w w' := by
  have C := Lib.hid CC
  obtain ⟨hp, hi, hb⟩ := pin_rows pa pt pm pl pz s1 s2 s3 s4 w
  have HP := Lib.hid hp
  have HI := Lib.hid hi
  have HB := Lib.hid hb
  have hE0 : (E == 0) = false := by simpa using hE
  have hE1 : decide (E = 0) = false := by simpa using hE
  clear hp hi hb CC
  go_enter Tryz.func7, Tryz.ntmps7
  go_wp2_with (first
    | refine wpList_load_want rfl 23 _ rfl _ _ rfl (pa_load HP.out) ?_
    | refine wpList_load_want rfl 25 _ rfl _ _ rfl (in_load HI.out) ?_)
  refine (C.out _).mono ?_
  rintro e w2 ⟨rfl, hb⟩
  have HB2 := Lib.hid ((HB.out.trans (hb.mono HB.out.size)))
  clear hb C HP HB HI
  go_wp2
  go_ret2
  exact ⟨rfl, HB2.out⟩
set_option maxHeartbeats 3200000 in
theorem head_good {a t m l z b c g : Nat} (CO : ∀ w : World, Calls Tryz.prog 23 #[pav a t m l z] w fun e w' => e = .returned (.tuple #[spv a t l m b c g z, .int .i64 0]) ∧ Below w.heap.size w w') (hM : Mok a t m l z) (s1 s2 s3 s4 : ByteArray)
    (CC : ∀ w, Calls Tryz.prog 9 #[pav a t m l z, inv s1 s2 s3 s4] w fun e w' => e = .returned (.int .i64 0) ∧ Below w.heap.size w w') (hs1 : s1.size ≤ 5000) (hs2 : s2.size ≤ 5000) (hs3 : s3.size ≤ 5000) (hs4 : s4.size ≤ 5000) (w : World) (hQ : QAt w) :
    Calls Tryz.prog 7 #[pav a t m l z, inv s1 s2 s3 s4] w fun e w' => e = .returned (.tuple #[.string (tx (hdL a t l m z s1 s2 s3 s4)), .int .i64 0]) ∧ Below w.heap.size w w' := by
  obtain ⟨ha, ht1, ht2, hl1, hl2, hm1, hm2, hz1, hz2⟩ := hM
  have C := Lib.hid CC
  have C2 := Lib.hid CO
  obtain ⟨CS, hCS⟩ : ∃ CS, CS = tx (cosL l z m t (a - 1)) := ⟨_, rfl⟩
  obtain ⟨HH, hHH⟩ : ∃ HH, HH = tx (hdL a t l m z s1 s2 s3 s4) := ⟨_, rfl⟩
  have CC : Hid (∀ u, Calls Tryz.prog 25 #[spv a t l m b c g z] u fun e w' => ∃ v, e = .returned v ∧ Is (.string CS) v w' ∧ Below u.heap.size u w') := Lib.hid fun u => by
    rw [hCS]
    exact calls_is (costs_any ha (by omega) (by omega) (by omega) (by omega) u)
  have CT : Hid (∀ (u : World) (A : Option Addr) (c : Nat), Reads u u.heap.size A (stv [s1, s2, s3, s4]) → Calls Tryz.prog 26 #[.slice A 4 c] u fun e w' => ∃ v, e = .returned v ∧ TxR (cntL [s1, s2, s3, s4]) v w' ∧ Below u.heap.size u w') := Lib.hid fun u A c hA => by
    refine (counted_any A c [s1, s2, s3, s4] u hA (by simp) (fun k hk => ?_)).mono ?_
    · have hk : k < 4 := by simpa using hk
      rcases (show k = 0 ∨ k = 1 ∨ k = 2 ∨ k = 3 by omega) with rfl | rfl | rfl | rfl
      · show s1.size < _; omega
      · show s2.size < _; omega
      · show s3.size < _; omega
      · show s4.size < _; omega
    · rintro e w' ⟨v, rfl, ho, hb⟩
      obtain ⟨A', c', rfl, hR⟩ := own_reads ho
      exact ⟨_, rfl, ⟨A', c', by rw [cntL_length], hR⟩, hb⟩
  have hsz := hdX_length a t l m z s1 s2 s3 s4
  have CB : Hid (∀ (u : World), Below w.heap.size w u → ∀ (A : Option Addr) (c : Nat), Reads u u.heap.size A (stv (CS :: cntL [s1, s2, s3, s4])) → Calls Tryz.prog 24 #[.int .i64 64, .string ⟨#[]⟩, .slice A (CS :: cntL [s1, s2, s3, s4]).length c] u fun e w' => ∃ v, e = .returned v ∧ Is (.tuple #[.string HH, .int .i64 0]) v w' ∧ Below u.heap.size u w') := Lib.hid fun u hu A c hA => by
    have hj := jn_head a t l m z s1 s2 s3 s4
    rw [← hCS] at hj
    have h := blakeof_any u 64 (by decide) (by decide) ⟨#[]⟩ (by decide) (hQ.next hu) A c (CS :: cntL [s1, s2, s3, s4]) hA (by rw [hj, hsz]; omega) (by simp [cntL_length])
    rw [hj, show (⟨#[]⟩ : ByteArray).size = 0 from rfl, keyL_nil, List.nil_append] at h
    rw [hHH]
    exact calls_is h
  rw [← hHH]
  obtain ⟨hp, hi, hb⟩ := pin_rows a t m l z s1 s2 s3 s4 w
  have HP := Lib.hid hp
  have HI := Lib.hid hi
  have HB := Lib.hid hb
  clear hp hi hb CO hsz hHH hCS hQ
  go_enter Tryz.func7, Tryz.ntmps7
  go_wp2_with (first
    | refine wpList_load_want rfl 23 _ rfl _ _ rfl (pa_load HP.out) ?_
    | refine wpList_load_want rfl 25 _ rfl _ _ rfl (in_load HI.out) ?_)
  refine (C.out _).mono ?_
  rintro e w2 ⟨rfl, hb⟩
  have HP2 := Lib.hid (HP.out.step hb)
  have HI2 := Lib.hid (HI.out.step hb)
  have HB2 := Lib.hid ((HB.out.trans (hb.mono HB.out.size)))
  clear hb C HP HB HI
  go_wp2_with (refine wpList_load_want rfl 23 _ rfl _ _ rfl (pa_load HP2.out) ?_)
  refine (C2.out _).mono ?_
  rintro e w3 ⟨rfl, hb⟩
  have HI3 := Lib.hid (HI2.out.step hb)
  have HB3 := Lib.hid ((HB2.out.trans (hb.mono HB2.out.size)))
  clear hb C2 HP2 HI2 HB2
  obtain ⟨I, hI⟩ : ∃ I, I = w.heap.size + 1 := ⟨_, rfl⟩
  rw [← hI] at HI3
  go_upto_region 5 with fail
  obtain ⟨w1, e1⟩ : ∃ w1, w1 = w3.alloc (.cells (spc a t l m b c g z) 57) := ⟨_, rfl⟩
  have HS : Hid (RowAt w1 w3.heap.size 57 (spc a t l m b c g z)) := Lib.hid (by rw [e1]; exact RowAt.new _ _ _)
  have HI : Hid (RowAt w1 I 25 (inc s1 s2 s3 s4)) := Lib.hid (by rw [e1]; exact HI3.out.alloc _)
  have HBW : Hid (Below w.heap.size w w1) := Lib.hid (by rw [e1]; exact HB3.out.alloc HB3.out.size _)
  rw [← e1, ← hI]
  have CB2 : Hid (∀ (u : World), Below w1.heap.size w1 u → ∀ (A : Option Addr) (c : Nat), Reads u u.heap.size A (stv (CS :: cntL [s1, s2, s3, s4])) → Calls Tryz.prog 24 #[.int .i64 64, .string ⟨#[]⟩, .slice A (CS :: cntL [s1, s2, s3, s4]).length c] u fun e w' => ∃ v, e = .returned v ∧ Is (.tuple #[.string HH, .int .i64 0]) v w' ∧ Below u.heap.size u w') := Lib.hid fun u hu => CB.out u (HBW.out.trans (hu.mono HBW.out.size))
  generalize w3.heap.size = S at *
  clear e1 HI3 HB3 CB hI
  have CB := CB2
  clear CB2
  refine wp_region_text [Is (spv a t l m b c g z), Is (.string CS), OneS CS, Is (.pointer (some ⟨I, 0 + 0, none⟩)), Is (.string s1), Is (.pointer (some ⟨I, 0 + 1, none⟩)), Is (.string s2), Is (.pointer (some ⟨I, 0 + 2, none⟩)), Is (.string s3), Is (.pointer (some ⟨I, 0 + 3, none⟩)), Is (.string s4), TxR [s1, s2, s3, s4], TxR (cntL [s1, s2, s3, s4]), TxR (CS :: cntL [s1, s2, s3, s4]), Is (.tuple #[.string HH, .int .i64 0]), Is (.string HH), Is (.int .i64 0), Is (.string HH), Is (.int .i64 0)] (by kernel_rfl) (by kernel_rfl) rfl ⟨stable_is _, stable_is _, stable_ones _, stable_is _, stable_is _, stable_is _, stable_is _, stable_is _, stable_is _, stable_is _, stable_is _, stable_txr _, stable_txr _, stable_txr _, stable_is _, stable_is _, stable_is _, stable_is _, stable_is _, trivial⟩ ⟨?_, ?_, ?_, ?_, ?_, ?_, ?_, ?_, ?_, ?_, ?_, ?_, ?_, ?_, ?_, ?_, ?_, ?_, ?_, trivial⟩ ?_
  · intro a w C
    exact part_on (wanted_free rfl _) (op_value (load_run rfl (C.was 7 (by kernel_rfl)) (sp_load (HS.out.step C.below))) rfl)
  · intro a w C
    exact part_on (wanted_free rfl _) (op_call1 rfl (reg_enters Tryz.func25 (by kernel_rfl) (by kernel_rfl)) (C.on (j := 0) (by kernel_rfl) rfl rfl) (CC.out w))
  · intro a w C
    exact part_on (wanted_free rfl _) (op_made (one_s_run rfl (C.on (j := 1) (by kernel_rfl) rfl rfl)) ⟨_, rfl, RowAt.new _ _ _⟩ (one_box _ _))
  · intro a w C
    exact part_on (wanted_free rfl _) (op_value (inf_run (k := 0) rfl (by decide) (C.was 3 (by kernel_rfl))) rfl)
  · intro a w C
    exact part_on (wanted_free rfl _) (op_value (str_run rfl (C.on (j := 3) (by kernel_rfl) rfl rfl) (in_cells (HI.out.step C.below)).1) rfl)
  · intro a w C
    exact part_on (wanted_free rfl _) (op_value (inf_run (k := 1) rfl (by decide) (C.was 3 (by kernel_rfl))) rfl)
  · intro a w C
    exact part_on (wanted_free rfl _) (op_value (str_run rfl (C.on (j := 5) (by kernel_rfl) rfl rfl) (in_cells (HI.out.step C.below)).2.1) rfl)
  · intro a w C
    exact part_on (wanted_free rfl _) (op_value (inf_run (k := 2) rfl (by decide) (C.was 3 (by kernel_rfl))) rfl)
  · intro a w C
    exact part_on (wanted_free rfl _) (op_value (str_run rfl (C.on (j := 7) (by kernel_rfl) rfl rfl) (in_cells (HI.out.step C.below)).2.2.1) rfl)
  · intro a w C
    exact part_on (wanted_free rfl _) (op_value (inf_run (k := 3) rfl (by decide) (C.was 3 (by kernel_rfl))) rfl)
  · intro a w C
    exact part_on (wanted_free rfl _) (op_value (str_run rfl (C.on (j := 9) (by kernel_rfl) rfl rfl) (in_cells (HI.out.step C.below)).2.2.2) rfl)
  · intro a w C
    exact part_on (wanted_free rfl _) (op_made (four_s_run rfl (C.on (j := 4) (by kernel_rfl) rfl rfl) (C.on (j := 6) (by kernel_rfl) rfl rfl) (C.on (j := 8) (by kernel_rfl) rfl rfl) (C.on (j := 10) (by kernel_rfl) rfl rfl)) (txr_four w s1 s2 s3 s4) (one_box _ _))
  · intro a w C
    obtain ⟨A, c0, e0, h0⟩ : TxR _ _ _ := (C.on (j := 11) (by kernel_rfl) rfl rfl)
    exact part_on (wanted_free rfl _) (op_call1 rfl (reg_enters Tryz.func26 (by kernel_rfl) (by kernel_rfl)) e0 (CT.out w A c0 h0))
  · intro a w C
    obtain ⟨g1, e1, h1⟩ : OneS CS _ w := (C.on (j := 2) (by kernel_rfl) rfl rfl)
    obtain ⟨A2, c2, e2, h2⟩ : TxR (cntL [s1, s2, s3, s4]) _ w := (C.on (j := 12) (by kernel_rfl) rfl rfl)
    obtain ⟨v3, w3, r3, h3, b3⟩ := one_append h1 (cntL_four s1 s2 s3 s4) h2 _
    exact part_on (wanted_free rfl _) (op_made (op_append rfl e1 e2 r3) h3 b3)
  · intro a w C
    obtain ⟨A, c0, e0, h0⟩ : TxR _ _ _ := (C.on (j := 13) (by kernel_rfl) rfl rfl)
    exact part_on (wanted_free rfl _) (op_call3 rfl (reg_enters Tryz.func24 (by kernel_rfl) (by kernel_rfl)) rfl rfl e0 (CB.out w C.below A c0 h0))
  · intro a w C
    exact part_on (wanted_free rfl _) (op_value (ext_run (v := .string HH) rfl (C.on (j := 14) (by kernel_rfl) rfl rfl) rfl) rfl)
  · intro a w C
    exact part_on (wanted_free rfl _) (op_value (ext_run (v := .int .i64 0) rfl (C.on (j := 14) (by kernel_rfl) rfl rfl) rfl) rfl)
  · intro a w C
    exact part_on (wanted_free rfl _) (op_move (.inr rfl) (C.on (j := 15) (by kernel_rfl) rfl rfl))
  · intro a w C
    exact part_on (wanted_free rfl _) (op_move (.inr rfl) (C.on (j := 16) (by kernel_rfl) rfl rfl))
  rintro wF hbF _ rfl _ rfl x22 hx22 _ rfl _ rfl _ rfl _ rfl _ rfl _ rfl _ rfl _ rfl x31 hx31 x32 hx32 x33 hx33 _ rfl _ rfl _ rfl _ rfl _ rfl
  simp only [Fin, setAt, Exit.then, List.setIfInBounds_toArray, List.set_cons_succ, List.set_cons_zero]
  have HF := Lib.hid (HBW.out.trans (hbF.mono HBW.out.size))
  clear hbF HS CC CT CB HI HBW
  go_wp2
  go_ret2
  exact ⟨rfl, HF.out⟩
end Go.Proofs.YtcbccjcnllifjaaGreatDoor
