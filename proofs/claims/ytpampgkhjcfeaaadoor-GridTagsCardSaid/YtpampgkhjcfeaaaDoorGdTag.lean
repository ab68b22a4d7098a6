/- Tag of package grid by its contract. Condition: blake's table lies at its place. -/
import Derived.Test.YtpampgkhjcfeaaaDoorGdLast
import Derived.Test.YtpampgkhjcfeaaaDoorBbBytes
import Derived.Test.YtpampgkhjcfeaaaDoorLg
namespace Go.Proofs.YtpampgkhjcfeaaaDoor
set_option maxRecDepth 50000
open Go.RowKit Bb Bl

/-- a slice of one text, made in a statement whose order is open -/
def OneS (s : ByteArray) : Value → World → Prop := fun v w => ∃ g, v = .slice (some ⟨g, 0, none⟩) 1 1 ∧ RowAt w g 9 #[.string s]
theorem stable_ones (s : ByteArray) : Stable (OneS s) := fun _ _ _ ⟨g, e, h⟩ hb => ⟨g, e, RowAt.below h hb h.lt⟩
theorem st_info : (Tryd.prog.info? 9).map (fun i => (i.zero, i.size, i.bytes)) = some (some (.string ⟨#[]⟩), 1, 16) := by kernel_rfl
theorem one_s (w : World) (s : ByteArray) : (Instr.buildSlice 97 1 #[(0, .string s)]).run Tryd.prog w = .ok (.slice (some ⟨w.heap.size, 0, none⟩) 1 1) (w.alloc (.cells #[.string s] 9)) := by
  obtain ⟨i, hi, hz, hs, hb⟩ := info_parts st_info
  refine run_buildSlice w _ _ 1 _ #[.string s] i _ Tryd.underlying97 hi hz (by rw [hs]; decide) (by rw [hs]; decide) ?_
  have e : Array.range 1 = #[0] := rfl
  simp [Instr.fill, hs, Value.cells, e]
theorem one_s_run {w : World} {ev : Operand → Value} {p : Operand} {o : Oper} {s : ByteArray} (hop : o.op = .buildSlice 97 1 #[(0, p)]) (hp : ev p = .string s) : (execOp ev o).run Tryd.prog w = .ok (.value (.slice (some ⟨w.heap.size, 0, none⟩) 1 1)) (w.alloc (.cells #[.string s] 9)) := by
  simp only [execOp, hop, List.map_toArray, List.map_cons, List.map_nil, hp, Sem.run_bind, one_s w s, Result.andThen_ok, Sem.run_pure]

section
variable {w : World} {q p h G a t l m b c g z : Nat} {L : List (List Nat)}
theorem bytes_size {y : List Nat} (hy : okb y) : (tl (strOf (byB y))).length = 1024 := by
  have h := congrArg List.length (nb_str (byB y) (byB_lt y))
  rw [byB_length hy] at h
  simpa [nb, tl] using h
set_option maxHeartbeats 3200000 in
theorem tag_any (hk : QAt w) (hG : GrAt w q p h G a t l m b c g z L) (hl : l ≤ 1000) (hc0 : 0 < c) (hc : c ≤ 4194304) (hL : L.length = l * c) (hLm : L.length ≤ 4194304) (hz4 : 4 ≤ z) (hz10 : z ≤ 1024) :
    Calls Tryd.prog 8 #[.pointer (some ⟨q, 0, none⟩)] w fun e w' => e = .returned (.tuple #[.string (tx (longL z (tl (strOf (byB (xB (lastL c L l))))))), .int .i64 0]) ∧ Below w.heap.size w w' := by
  have hyo := xB_ok _ (last_ok hG.live.ok hL hc0 (Nat.le_refl l))
  have CA := Lib.hid (last_any hG hl hc0 hc hL hLm)
  have CB0 := bytes_any hyo
  have hsz := bytes_size hyo
  generalize xB (lastL c L l) = y at *
  generalize strOf (byB y) = S at *
  have HG := Lib.hid hG
  have HK := Lib.hid hk
  have HO := Lib.hid hyo
  have CB := Lib.hid CB0
  have HSZ := Lib.hid hsz
  have hz := zero_b
  clear hG hk hyo CB0 hL hLm hsz
  go_enter Tryd.func8, Tryd.ntmps8
  go_wp2_with fail
  refine CA.out.mono ?_
  rintro e w1 ⟨rfl, hb⟩
  have hst := set_new w1 HO.out.1
  have hb2 := below_step hb (set_below w1 y)
  have hr := RowAt.setRow (RowAt.new w1 29 (wq zb)) (wq y)
  have HST := Lib.hid hst
  have HB2 := Lib.hid hb2
  have HR2 := Lib.hid hr
  clear CA hb hst hb2 hr
  go_upto_region 2 with (refine wpList_store_of rfl _ _ _ rfl ⟨w1.heap.size, 0, none⟩ _ rfl rfl HST.out ?_)
  clear HST
  generalize World.setRow _ _ _ = w2 at *
  generalize w1.heap.size = X at *
  have HG := Lib.hid (HG.out.step HB2.out).row
  have HK2 := Lib.hid (HK.out.next HB2.out)
  have HY : Hid (∀ u, Below w2.heap.size w2 u → (loadVar 29 ⟨X, 0, none⟩).run Tryd.prog u = .ok (.agg (wq y)) u) := Lib.hid fun u hu => RowAt.load (RowAt.step HR2.out hu) Tryd.underlying29 (by rw [wq_size, HO.out.1]; exact b_size)
  have CL : Hid (∀ u, Below w2.heap.size w2 u → ∀ gg, RowAt u gg 9 #[.string S] → Calls Tryd.prog 26 #[.int .i64 (z : Int), .slice (some ⟨gg, 0, none⟩) 1 1] u fun e w' => e = .returned (.tuple #[.string (tx (longL z (tl S))), .int .i64 0]) ∧ Below u.heap.size u w') := Lib.hid fun u hu gg hgg => by
    have h := long_any z (by omega) (by omega) u (HK2.out.next hu) (some ⟨gg, 0, none⟩) 1 [S] (fun k hk => by
      have hk0 : k = 0 := by simp [stv] at hk; omega
      subst hk0
      exact ⟨gg, 0, rfl, hgg.lt, by rw [Nat.add_zero, hgg.cell 0]; rfl⟩) (by rw [jn_one, HSZ.out]; decide) (by simp)
    rw [jn_one] at h
    exact h
  clear HR2 HK HK2
  go_wp2
  refine wp_region_text [Is (.pointer (some ⟨q, 0, none⟩)), Is (.pointer (some ⟨q, 0, none⟩)), Is (.pointer (some ⟨q, 0 + 1, none⟩)), Is (.pointer (some ⟨q, 0 + 1 + 7, none⟩)), Is (.int .i64 (z : Int)), Is (.agg (wq y)), Is (.string S), OneS S, Is (.tuple #[.string (tx (longL z (tl S))), .int .i64 0]), Is (.string (tx (longL z (tl S)))), Is (.int .i64 0), Is (.string (tx (longL z (tl S)))), Is (.int .i64 0)] (by kernel_rfl) (by kernel_rfl) rfl ⟨stable_is _, stable_is _, stable_is _, stable_is _, stable_is _, stable_is _, stable_is _, stable_ones _, stable_is _, stable_is _, stable_is _, stable_is _, stable_is _, trivial⟩ ⟨?_, ?_, ?_, ?_, ?_, ?_, ?_, ?_, ?_, ?_, ?_, ?_, ?_, trivial⟩ ?_
  · intro a w C
    exact part_on (wanted_free rfl _) (op_move (.inl rfl) (C.was 0 (by kernel_rfl)))
  · intro a w C
    exact part_on (wanted_free rfl _) (op_value (nil_run rfl (C.on (j := 0) (by kernel_rfl) rfl rfl)) rfl)
  · intro a w C
    exact part_on (wanted_free rfl _) (op_value (grf_run (k := 1) rfl (by decide) (C.on (j := 1) (by kernel_rfl) rfl rfl)) rfl)
  · intro a w C
    exact part_on (wanted_free rfl _) (op_value (spf_all (k := 7) rfl (by decide) (C.on (j := 2) (by kernel_rfl) rfl rfl)) rfl)
  · intro a w C
    exact part_on (wanted_free rfl _) (op_value (int_run rfl (C.on (j := 3) (by kernel_rfl) rfl rfl) (HG.out.step C.below).size) rfl)
  · intro a w C
    exact part_on (wanted_free rfl _) (op_value (load_run rfl (C.was 4 (by kernel_rfl)) (HY.out _ C.below)) rfl)
  · intro a w C
    exact part_on (wanted_free rfl _) (op_call1 rfl (reg_enters Tryd.func27 (by kernel_rfl) (by kernel_rfl)) (C.on (j := 5) (by kernel_rfl) rfl rfl) (calls_is (CB.out w)))
  · intro a w C
    exact part_on (wanted_free rfl _) (op_made (one_s_run rfl (C.on (j := 6) (by kernel_rfl) rfl rfl)) ⟨w.heap.size, rfl, RowAt.new _ _ _⟩ (one_box _ _))
  · intro a w C
    obtain ⟨gg, e, hr⟩ : OneS S _ w := (C.on (j := 7) (by kernel_rfl) rfl rfl)
    exact part_on (wanted_free rfl _) (op_call2 rfl (reg_enters Tryd.func26 (by kernel_rfl) (by kernel_rfl)) (C.on (j := 4) (by kernel_rfl) rfl rfl) e (calls_is (CL.out w C.below gg hr)))
  · intro a w C
    exact part_on (wanted_free rfl _) (op_value (ext_run (v := .string (tx (longL z (tl S)))) rfl (C.on (j := 8) (by kernel_rfl) rfl rfl) rfl) rfl)
  · intro a w C
    exact part_on (wanted_free rfl _) (op_value (ext_run (v := .int .i64 0) rfl (C.on (j := 8) (by kernel_rfl) rfl rfl) rfl) rfl)
  · intro a w C
    exact part_on (wanted_free rfl _) (op_move (.inr rfl) (C.on (j := 9) (by kernel_rfl) rfl rfl))
  · intro a w C
    exact part_on (wanted_free rfl _) (op_move (.inr rfl) (C.on (j := 10) (by kernel_rfl) rfl rfl))
  rintro wF hbF _ rfl _ rfl _ rfl _ rfl _ rfl _ rfl _ rfl x21 hx21 _ rfl _ rfl _ rfl _ rfl _ rfl
  simp only [Fin, setAt, Exit.then, List.setIfInBounds_toArray, List.set_cons_succ, List.set_cons_zero]
  have HBF := Lib.hid (below_step HB2.out hbF)
  clear hbF HY CL CB HB2 HG
  go_wp2
  exact bodyPost_ret (results_tmp2 rfl _ _ _) rfl ⟨rfl, HBF.out⟩
end
end Go.Proofs.YtpampgkhjcfeaaaDoor
