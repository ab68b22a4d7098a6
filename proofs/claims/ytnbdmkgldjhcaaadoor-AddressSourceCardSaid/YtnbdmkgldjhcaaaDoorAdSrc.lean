/- A source of addresses of package address by its contracts: New, Made, At; Words. Condition: the package's tables read as they were laid. -/
import Derived.Test.YtnbdmkgldjhcaaaDoorAdRef
namespace Go.Proofs.YtnbdmkgldjhcaaaDoor
set_option maxRecDepth 50000
open Go.RowKit Bb Bn

/-- a source's cells -/
def scc (a t l m b c g z : Nat) (p s k : Int) (n : Nat) (v : List Nat) : Array Value := #[.int .i64 (a : Int), .int .i64 (t : Int), .int .i64 (l : Int), .int .i64 (m : Int), .int .i64 (b : Int), .int .i64 (c : Int), .int .i64 (g : Int), .int .i64 (z : Int), .int .i64 p, .int .i64 s, .int .i64 k, .int .i64 (n : Int)] ++ wq v
theorem scc_size (a t l m b c g z : Nat) (p s k : Int) (n : Nat) {v : List Nat} (hv : v.length = 128) : (scc a t l m b c g z p s k n v).size = 140 := by
  simp [scc, wq_size, hv]
theorem scc_head (a t l m b c g z : Nat) (p s k : Int) (n : Nat) (v : List Nat) (i : Nat) (hi : i < 12) : (scc a t l m b c g z p s k n v)[i]? = (#[.int .i64 (a : Int), .int .i64 (t : Int), .int .i64 (l : Int), .int .i64 (m : Int), .int .i64 (b : Int), .int .i64 (c : Int), .int .i64 (g : Int), .int .i64 (z : Int), .int .i64 p, .int .i64 s, .int .i64 k, .int .i64 (n : Int)] : Array Value)[i]? := by
  unfold scc
  rw [Array.getElem?_append_left (by simpa using hi)]
theorem scc_tail (a t l m b c g z : Nat) (p s k : Int) (n : Nat) (v : List Nat) (i : Nat) : (scc a t l m b c g z p s k n v)[12 + i]? = (wq v)[i]? := by
  unfold scc
  rw [Array.getElem?_append_right (by simp)]
  simp
theorem scc_setN (a t l m b c g z : Nat) (p s k : Int) (n n' : Nat) (v : List Nat) : (scc a t l m b c g z p s k n v).setIfInBounds 11 (.int .i64 (n' : Int)) = scc a t l m b c g z p s k n' v := by
  unfold scc
  rw [Array.setIfInBounds_append_left (by simp)]
  simp
theorem scc_setV (a t l m b c g z : Nat) (p s k : Int) (n : Nat) (v v' : List Nat) (hv : v.length = 128) : ((scc a t l m b c g z p s k n v).toList.take 12 ++ u64s v' ++ (scc a t l m b c g z p s k n v).toList.drop (12 + 128)).toArray = scc a t l m b c g z p s k n v' := by
  have hl : (u64s v).length = 128 := by rw [u64s_length]; exact hv
  unfold scc
  rw [Array.toList_append, List.take_left' (by simp), List.drop_of_length_le (by simp [wq, hl]), List.append_nil]
  simp [wq]

/-- a source that stands in memory -/
def SrAt (w : World) (x : Nat) (a t l m b c g z : Nat) (p s k : Int) (n : Nat) (v : List Nat) : Prop := RowAt w x 60 (scc a t l m b c g z p s k n v)
theorem sr_info : (Tryd.prog.info? 60).map (·.size) = some 140 := by kernel_rfl
theorem sr_build (w : World) (a t l m b c g z : Nat) (p s k : Int) : (Instr.build 60 #[(0, spv a t l m b c g z), (1, tuv p s), (2, .int .i64 k)]).run Tryd.prog w = .ok (.agg (scc a t l m b c g z p s k 0 zb)) w := by
  have h : ∀ a t l m b c g z p s k : Int, Tryd.prog.built 60 [(0, .agg #[.int .i64 a, .int .i64 t, .int .i64 l, .int .i64 m, .int .i64 b, .int .i64 c, .int .i64 g, .int .i64 z]), (1, .agg #[.int .i64 p, .int .i64 s]), (2, .int .i64 k)] = some (#[.int .i64 a, .int .i64 t, .int .i64 l, .int .i64 m, .int .i64 b, .int .i64 c, .int .i64 g, .int .i64 z, .int .i64 p, .int .i64 s, .int .i64 k, .int .i64 0] ++ wq zb) := fun a t l m b c g z p s k => by kernel_rfl
  exact run_build w _ _ _ (h ..)
theorem sr_run {w : World} {ev : Operand → Value} {o : Oper} {x0 x1 x2 : Operand} {a t l m b c g z : Nat} {p s k : Int} (hop : o.op = .build 60 #[(0, x0), (1, x1), (2, x2)]) (h0 : ev x0 = spv a t l m b c g z) (h1 : ev x1 = tuv p s) (h2 : ev x2 = .int .i64 k) : (execOp ev o).run Tryd.prog w = .ok (.value (.agg (scc a t l m b c g z p s k 0 zb))) w := by
  simp only [execOp, hop, List.map_toArray, List.map_cons, List.map_nil, h0, h1, h2, Sem.run_bind, sr_build, Result.andThen_ok, Sem.run_pure]

theorem srnew_any (a t l m b c g z : Nat) (p s k : Int) (w : World) : Calls Tryd.prog 15 #[spv a t l m b c g z, tuv p s, .int .i64 k] w fun e w' => ∃ x, e = .returned (.pointer (some ⟨x, 0, none⟩)) ∧ w.heap.size ≤ x ∧ SrAt w' x a t l m b c g z p s k 0 zb ∧ Below w.heap.size w w' := by
  have HT := Lib.hid (tw_new a t l m b c g z p s w)
  have HB := Lib.hid (two_box w (.cells (spc a t l m b c g z) 28) (.cells (tuc p s) 25))
  go_enter Tryd.func15, Tryd.ntmps15
  go_wp2_with (first
    | refine wpList_load_want rfl 28 _ rfl _ _ rfl (sp_load HT.out.sh) ?_
    | refine wpList_load_want rfl 25 _ rfl _ _ rfl (tu_load HT.out.tu) ?_
    | refine wpList_value_want rfl _ (sr_run rfl rfl rfl rfl) ?_)
  go_ret
  generalize hW : World.alloc (World.alloc w _) _ = w2 at *
  have hs : w2.heap.size = w.heap.size + 1 + 1 := by subst hW; simp
  have hR := RowAt.new w2 60 (scc a t l m b c g z p s k 0 zb)
  rw [hs] at hR
  exact ⟨w.heap.size + 1 + 1, rfl, by omega, hR, HB.out.alloc (by omega) _⟩

theorem made_nil (w : World) : Calls Tryd.prog 14 #[.pointer none] w fun e w' => e = .returned (.int .i64 0) ∧ w = w' := by
  go_enter Tryd.func14, Tryd.ntmps14
  go_wp2
  go_ret
  exact ⟨rfl, rfl⟩
theorem made_any {w : World} {x a t l m b c g z : Nat} {p s k : Int} {n : Nat} {v : List Nat} (h : SrAt w x a t l m b c g z p s k n v) : Calls Tryd.prog 14 #[.pointer (some ⟨x, 0, none⟩)] w fun e w' => e = .returned (.int .i64 (n : Int)) ∧ w = w' := by
  have k11 : w.cell? ⟨x, 11, none⟩ = some (.int .i64 (n : Int)) := (RowAt.cell h 11).trans ((scc_head _ _ _ _ _ _ _ _ _ _ _ _ _ 11 (by decide)).trans rfl)
  clear h
  go_enter Tryd.func14, Tryd.ntmps14
  go_wp2
  go_ret
  exact ⟨rfl, rfl⟩
theorem words_any (x lo hi : Nat) (h : x < 18446744073709551616) (hlo : x % 4294967296 = lo) (hhi : x / 4294967296 = hi) (w : World) : Calls Tryd.prog 17 #[.int .u64 (x : Int)] w fun e w' => e = .returned (.tuple #[.int .u32 (lo : Int), .int .u32 (hi : Int)]) ∧ w = w' := by
  have e1 : IntKind.u32.wrap (x : Int) = (lo : Int) := by rw [IntKind.wrap_u32]; omega
  have e2 : (x : Int) / 4294967296 = (hi : Int) := by omega
  have e3 : IntKind.u32.wrap (hi : Int) = (hi : Int) := by rw [IntKind.wrap_u32]; omega
  have e4 : IntKind.u64.wrap (hi : Int) = (hi : Int) := by rw [IntKind.wrap_u64]; omega
  clear h hlo hhi
  go_enter Tryd.func17, Tryd.ntmps17
  go_wp2
  exact bodyPost_ret (results_tmp2 rfl _ _ _) rfl ⟨rfl, rfl⟩
theorem at_nil (i : Int) (w : World) : Calls Tryd.prog 13 #[.pointer none, .int .i64 i] w fun e w' => e = .returned (.tuple #[.int .u32 0, .int .u32 0]) ∧ w = w' := by
  go_enter Tryd.func13, Tryd.ntmps13
  go_wp2
  exact bodyPost_ret (results_tmp2 rfl _ _ _) rfl ⟨rfl, rfl⟩
theorem at_below (x : Nat) (i : Int) (hi : i < 0) (w : World) : Calls Tryd.prog 13 #[.pointer (some ⟨x, 0, none⟩), .int .i64 i] w fun e w' => e = .returned (.tuple #[.int .u32 0, .int .u32 0]) ∧ w = w' := by
  have h : decide (i < 0) = true := by simpa using hi
  go_enter Tryd.func13, Tryd.ntmps13
  go_wp2
  exact bodyPost_ret (results_tmp2 rfl _ _ _) rfl ⟨rfl, rfl⟩
end Go.Proofs.YtnbdmkgldjhcaaaDoor
