/- General texts: arguments that came in, owned rows, worlds that keep most. Conditions: those typed. -/
import Derived.Test.YtfoodaobiknihaaGreatDoorRows
import Derived.WalkKit
import Derived.ProofKit
import Derived.OwnWalk
import Derived.SizedLaws
import Derived.OpenShut
import Derived.Deep.Draws
import Derived.Maps.AppendAt
import Derived.Deep.WholeRow
import Derived.LoopTactic
import Derived.IntWalk
import Derived.Lib.Hide
import Derived.Outline
import Derived.Deep.DeepFit
import Derived.Lib.AppendStr
import Derived.Laws.BytesArg
import Derived.Lib.BufferRead
import Derived.Deep.AppendLies
import Derived.RegionTactic
import Derived.ChangeAlike
import Derived.Deep.QuietTactic
import Derived.BigQuiet
import Derived.Deep.RegionLaw
import Derived.SliceStrings
namespace Go.Proofs.YtfoodaobiknihaaGreatDoor
set_option maxRecDepth 50000
open Go.ChangeShapes Go.WideShapes Go.ChangeAt Go.RowKit Go.WideMaps Go.WideElems
open Go.ChangeMaps (open_string)
def Reads (w : World) (B : Nat) (A : Option Addr) (xs : List Value) : Prop :=
  ∀ k, (h : k < xs.length) → ∃ b off, A = some ⟨b, off, none⟩ ∧ b < B ∧ w.cell? ⟨b, off + k, none⟩ = some xs[k]
section
variable {w w' : World} {B B' : Nat} {A : Option Addr} {xs : List Value}
theorem Reads.keep (h : Reads w B A xs) (hk : ∀ p : Addr, p.block < B → w'.cell? p = w.cell? p) : Reads w' B A xs := fun k hl => by
  obtain ⟨b, off, e, hb, hc⟩ := h k hl
  exact ⟨b, off, e, hb, (hk ⟨b, off + k, none⟩ hb).trans hc⟩
theorem Reads.more (h : Reads w B A xs) (hB : B ≤ B') : Reads w B' A xs := fun k hl => by
  obtain ⟨b, off, e, hb, hc⟩ := h k hl
  exact ⟨b, off, e, by omega, hc⟩
theorem Reads.below (h : Reads w B A xs) (hb : Below B w w') : Reads w' B A xs := h.keep fun _ hp => hb.cell hp
theorem Reads.of_own {base : Nat} {e : TypeId} {n c : Nat} (h : w.ownsRow base e 1 (.slice A n c) n xs) : Reads w w.heap.size A xs := fun k hl => by
  have hn : n = xs.length := by have := h.1; omega
  subst hn
  rcases h.2 with ⟨_, h0⟩ | ⟨g, cap, cur, hv, hb, hg, _⟩
  · omega
  · obtain ⟨rfl, _, rfl⟩ : A = some ⟨g, 0, none⟩ ∧ xs.length = xs.length ∧ c = cap := by injection hv; simp_all
    refine ⟨g, 0, rfl, ?_, ?_⟩
    · rcases Nat.lt_or_ge g w.heap.size with hlt | hge
      · exact hlt
      · rw [Array.getElem?_eq_none hge] at hg; cases hg
    · rw [Nat.zero_add, h.cellAt k (by omega)]; exact List.getElem?_eq_getElem hl
end
theorem own_form {w : World} {base : Nat} {e : TypeId} {n : Nat} {v : Value} {xs : List Value} (h : w.ownsRow base e 1 v n xs) : ∃ A c, v = .slice A n c ∧ n = xs.length ∧ (0 < n → ∃ g, A = some ⟨g, 0, none⟩ ∧ base ≤ g) ∧ n ≤ maxLen := by
  have hl := h.1
  rcases h.2 with ⟨rfl, rfl⟩ | ⟨g, cap, cur, rfl, hb, _, h1, h2, _⟩
  · exact ⟨none, 0, rfl, by omega, fun h => absurd h (by omega), Nat.zero_le _⟩
  · exact ⟨_, _, rfl, by omega, fun _ => ⟨g, rfl, hb⟩, by omega⟩
theorem trod_again {H : Type} {enc : TypeId × Value → H} {P : Program} (hl : laidOutB P = true) {W W' : World} (hb : Below W.heap.size W W') :
    ∀ {ts : List TypeId} {vs : List Value} {ds : List (DataW H)} {ps : List MemPlace}, (∀ t ∈ ts, P.readableRec t = true ∧ t < P.types.size) →
      DataW.TrodAll enc P W 0 (fun _ => true) true ts vs ds ps → (∀ x ∈ ps, x.block < W.heap.size) → DataW.TrodAll enc P W' 0 (fun b => decide (b < W.heap.size)) true ts vs ds ps
  | [], _, _, _, _, h, _ => by
    obtain ⟨rfl, rfl, rfl⟩ := trodAll_nil h
    exact trodAll_mk0
  | t :: ts, _, _, _, hr, h, hlt => by
    obtain ⟨v, vs, d, ds, p, q, rfl, rfl, rfl, h0, r0⟩ := trodAll_cons h
    refine trodAll_cons_mk (Below.trod hl (hr t (by simp)).1 (hr t (by simp)).2 h0 hb (fun x hx => hlt x (by simp [hx]))) ?_
    exact trod_again hl hb (fun t ht => hr t (by simp [ht])) r0 (fun x hx => hlt x (by simp [hx]))
theorem post_law {H : Type} {enc : TypeId × Value → H} {P : Program} {f : Func} {s : ChangeSpec} {W W' : World} {args : Array Value} {ds gs : List (DataW H)} {before p : List MemPlace}
    (hl : laidOutB P = true) (hr : ∀ t ∈ f.params.toList, P.readableRec t = true ∧ t < P.types.size) {tb : TypeId} (hres : f.resultTypes = #[tb]) (htb : P.underlying tb = some .bool) (hv : s.vars = [])
    (hW : DataW.Whole enc P f.params.toList s.vars false W args.toList ds gs before) (hA : DataW.TrodAll enc P W 0 (fun _ => true) true f.params.toList args.toList ds p) (hlt : ∀ x ∈ p, x.block < W.heap.size)
    (hs : s.fn H (ds ++ gs) = { results := [.lit (.bool true)], args := ds }) (hb : Below W.heap.size W W') : s.post enc P f false true false false W args (.bool true) W' := by
  refine ⟨ds, gs, before, [], p, [], hW, ?_, ?_, ?_, hb.frame _, fun h => by cases h⟩
  · rw [hs, hres]
    exact trodAll_cons_mk (shut_bool htb _) trodAll_mk0
  · rw [hs]
    exact trod_again hl hb hr hA hlt
  · rw [hs, hv]; rfl
theorem prog_own : ownKnob Tryz.prog.godebug = none := by kernel_rfl
theorem prog_laid : laidOutB Tryz.prog = true := by kernel_rfl
open Go.RowKit
def RowAt (w : World) (b : Nat) (t : TypeId) (C : Array Value) : Prop := w.heap[b]? = some (.cells C t (0, 0))
theorem run_index_arr {P : Program} {t e : TypeId} {n : Nat} {cs : Array Value} {v : Value} {k : IntKind} (w : World) (h : P.underlying t = some (.array n e)) (he : (P.info? e).map (·.size) = some 1) (ha : P.underlying e = some (.int k)) (i : Nat) (hi : i < n) (hv : cs[i]? = some v) :
    (Instr.index t (.agg cs) (.int .i64 (i : Int))).run P w = .ok v w := by
  cases hq : P.info? e with
  | none => simp [hq] at he
  | some q =>
    have hz : q.size = 1 := by simpa [hq] using he
    have hagg : ∀ w : World, (isAgg e).run P w = .ok false w := fun w => by
      unfold isAgg
      rw [Sem.run_bind, run_underlying ha w]
      rfl
    simp [Instr.index, run_underlying h, asIntOf, hi, go_sem, sizeOf, typeInfo, hq, hz, hagg, hv]
section
variable {P : Program} {ops : Array Oper} {rest : List Oper} {o : Oper} {a : Act} {w w' : World} {Q : Exit → Act → World → Prop}
theorem wpList_load_of (hgd : o.guard = none) (ty : TypeId) (x : Operand) (ho : o.op = .load ty x) (ad : Addr) (v : Value) (hx : a.eval x = .pointer (some ad)) (hl : (loadVar ty ad).run P w = .ok v w)
    (h : wpList P ops Q rest (a.put o.dst v) w) : wpList P ops Q (o :: rest) a w := wpList_plain hgd fun _ hK => by
  unfold Oper.wp execOp
  simp only [ho, hx, Instr.loadAt, Instr.sureAddr, Sem.run_bind, Sem.run_pure, Result.andThen_ok, hl]
  exact hK _ _ h
theorem wpList_store_of (hgd : o.guard = none) (ty : TypeId) (x y : Operand) (ho : o.op = .store ty x y) (ad : Addr) (v : Value) (hx : a.eval x = .pointer (some ad)) (hy : a.eval y = v) (hs : (storeVar ty ad v).run P w = .ok () w')
    (h : wpList P ops Q rest (a.put o.dst undef) w') : wpList P ops Q (o :: rest) a w := wpList_plain hgd fun _ hK => by
  unfold Oper.wp execOp
  simp only [ho, hx, hy, Instr.storeAt, Instr.sureAddr, Sem.run_bind, Sem.run_pure, Result.andThen_ok, hs]
  exact hK _ _ h
end
section
variable {w w' : World} {b B : Nat} {t : TypeId} {C : Array Value}
theorem RowAt.lt (h : RowAt w b t C) : b < w.heap.size := (Array.getElem?_eq_some_iff.1 h).1
theorem RowAt.cell (h : RowAt w b t C) (i : Nat) : w.cell? ⟨b, i, none⟩ = C[i]? := by
  have := cell_of_row w b i C t (0, 0) h
  simpa using this
theorem RowAt.frozen (h : RowAt w b t C) (i : Nat) : w.frozen? ⟨b, i, none⟩ = false := by
  unfold RowAt at h
  simp [World.frozen?, h]
theorem RowAt.new (w : World) (t : TypeId) (C : Array Value) : RowAt (w.alloc (.cells C t)) w.heap.size t C := heap_alloc_last w _
theorem RowAt.alloc (h : RowAt w b t C) (o : Obj) : RowAt (w.alloc o) b t C := by
  have hl := h.lt
  show (w.heap.push o)[b]? = _
  rw [Array.getElem?_push, if_neg (by omega)]; exact h
theorem RowAt.drew (h : RowAt w b t C) : RowAt w.drew b t C := h
theorem RowAt.drewN (h : RowAt w b t C) (k : Nat) : RowAt (w.drewN k) b t C := h
theorem RowAt.below (h : RowAt w b t C) (hb : Below B w w') (hB : b < B) : RowAt w' b t C := (hb.block b hB).trans h
theorem RowAt.setCell (h : RowAt w b t C) (i : Nat) (v : Value) : RowAt (w.setCell ⟨b, i, none⟩ v) b t (C.setIfInBounds i v) := by
  have hc := h.cell i
  rw [setCell_eq_setRow w b i C t (0, 0) v h]
  exact setRow_heap w b C _ t (0, 0) h
theorem RowAt.setOther (h : RowAt w b t C) (p : Addr) (hp : p.block ≠ b) (v : Value) : RowAt (w.setCell p v) b t C :=
  (Below.heap_setCell _ _ _ _ (fun e => hp e.symm)).trans h
theorem RowAt.setRow (h : RowAt w b t C) (C' : Array Value) : RowAt (w.setRow b C') b t C' := by
  unfold RowAt at *
  simp [World.setRow, Array.getElem?_modify, h]
theorem RowAt.setRowOther (h : RowAt w b t C) (g : Nat) (hg : g ≠ b) (C' : Array Value) : RowAt (w.setRow g C') b t C := by
  unfold RowAt at *
  simp [World.setRow, Array.getElem?_modify, h, hg]
theorem RowAt.load {P : Program} {n : Nat} {e : TypeId} (h : RowAt w b t C) (hu : P.underlying t = some (.array n e)) (hi : (P.info? t).map (·.size) = some C.size) : (loadVar t ⟨b, 0, none⟩).run P w = .ok (.agg C) w :=
  run_loadVar_row _ _ t t C (0, 0) _ h hu rfl hi
theorem RowAt.store {P : Program} {C' : Array Value} (h : RowAt w b t C) (hi : (P.info? t).map (·.size) = some C'.size) (ho : C.size = C'.size) (h1 : C'.all (·.oneCell') = true) : (storeVar t ⟨b, 0, none⟩ (.agg C')).run P w = .ok () (w.setRow b C') :=
  run_storeVar_row _ _ t t C C' h hi ho h1
theorem RowAt.loadAt {P : Program} {n : Nat} {e : TypeId} (h : RowAt w b t C) (hu : P.underlying t = some (.array n e)) (hi : (P.info? t).map (·.size) = some C.size) : (Instr.loadAt t (.pointer (some ⟨b, 0, none⟩))).run P w = .ok (.agg C) w := by
  simp only [Instr.loadAt, Instr.sureAddr, Sem.run_bind, Sem.run_pure, Result.andThen]
  exact h.load hu hi
theorem RowAt.storeAt {P : Program} {C' : Array Value} (h : RowAt w b t C) (hi : (P.info? t).map (·.size) = some C'.size) (ho : C.size = C'.size) (h1 : C'.all (·.oneCell') = true) : (Instr.storeAt t (.pointer (some ⟨b, 0, none⟩)) (.agg C')).run P w = .ok () (w.setRow b C') := by
  simp only [Instr.storeAt, Instr.sureAddr, Sem.run_bind, Sem.run_pure, Result.andThen]
  exact h.store hi ho h1
theorem results_row_tmp {P : Program} {fn : Func} {p u : Tmp} {ty : TypeId} (hr : fn.results = #[.cell p ty, .tmp u]) (tmps : Array Value) {d : TypeDesc}
    (hp : tmps.getD p undef = .pointer (some ⟨b, 0, none⟩)) (h : RowAt w b t C) (hu : P.underlying ty = some d) (hd : (match d with | .struct _ | .array _ _ => true | _ => false) = true) (hi : (P.info? ty).map (·.size) = some C.size) :
    (results fn tmps).run P w = .ok (.tuple #[.agg C, tmps.getD u undef]) w := by
  have hp' : tmps[p]?.getD undef = .pointer (some ⟨b, 0, none⟩) := by simpa using hp
  simp [results, hr, hp', asAddr, run_loadVar_row w b t ty C (0, 0) d h hu hd hi]
theorem below_drewN (hb : Below B w w') (k : Nat) : Below B w (w'.drewN k) := ⟨hb.os, hb.tape, hb.output, hb.size, hb.block⟩
theorem below_setRow (hb : Below B w w') {g : Nat} (hg : B ≤ g) (C' : Array Value) : Below B w (w'.setRow g C') := by
  exact hb.trans ⟨rfl, rfl, rfl, Nat.le_of_eq (setRow_size _ _ _).symm, fun k hk => setRow_other _ _ _ _ (by omega)⟩
end
open Go.RowKit
theorem RowAt.step {w w' : World} {b : Nat} {t : TypeId} {C : Array Value} (h : RowAt w b t C) (hb : Below w.heap.size w w') : RowAt w' b t C := h.below hb h.lt
section
variable {P : Program} {w : World} {b : Nat} {t ty : TypeId} {C : Array Value}
theorem sub_load (h : RowAt w b t C) (hA : ∀ w : World, (isAgg ty).run P w = .ok true w) {n : Nat} (hi : (P.info? ty).map (·.size) = some n) (off : Nat) (xs : List Value) (hl : xs.length = n) (hx : ∀ j v, xs[j]? = some v → C[off + j]? = some v) :
    (loadVar ty ⟨b, off, none⟩).run P w = .ok (.agg xs.toArray) w := by
  have hr := run_loadCells_list (P := P) w ⟨b, off, none⟩ xs (fun j v hv => by
    have hadd : (⟨b, off, none⟩ : Addr).add j = ⟨b, off + j, none⟩ := by unfold Addr.add; split <;> simp_all
    rw [hadd, cell_of_row w b (off + j) _ _ _ h]
    exact hx j v hv)
  rw [hl] at hr
  cases hq : P.info? ty with
  | none => rw [hq] at hi; simp at hi
  | some i =>
    have hsz : i.size = n := by rw [hq] at hi; simpa using hi
    simp [loadVar, Sem.run_bind, hA, sizeOf, typeInfo, hq, hsz, hr]
theorem sub_store (h : RowAt w b t C) {n : Nat} (hi : (P.info? ty).map (·.size) = some n) (off : Nat) (xs : List Value) (hl : xs.length = n) (hC : off + n ≤ C.size) (h1 : ∀ v ∈ xs, v.oneCell' = true) :
    (storeVar ty ⟨b, off, none⟩ (.agg xs.toArray)).run P w = .ok () (w.setRow b (C.toList.take off ++ xs ++ C.toList.drop (off + n)).toArray) := by
  have hst := run_storeCells_at P b off t xs 0 C w h (by omega) h1
  rw [Nat.add_zero, hl] at hst
  cases hq : P.info? ty with
  | none => rw [hq] at hi; simp at hi
  | some i =>
    have hsz : i.size = n := by rw [hq] at hi; simpa using hi
    simpa [storeVar, sizeOf, typeInfo, hq, Value.cells, hsz, hl] using hst
end
theorem wpList_load_want {P : Program} {ops : Array Oper} {rest : List Oper} {o : Oper} {a : Act} {w : World} {Q : Exit → Act → World → Prop} (hw : Region.wanted o (yielded ops a.tmps) = true) (ty : TypeId) (x : Operand) (ho : o.op = .load ty x) (ad : Addr) (v : Value) (hx : a.eval x = .pointer (some ad)) (hl : (loadVar ty ad).run P w = .ok v w)
    (h : wpList P ops Q rest (a.put o.dst v) w) : wpList P ops Q (o :: rest) a w := wpList_step fun K hK => by
  rw [if_pos hw]
  unfold Oper.wp execOp
  simp only [ho, hx, Instr.loadAt, Instr.sureAddr, Sem.run_bind, Sem.run_pure, Result.andThen_ok, hl]
  exact hK _ _ h
end Go.Proofs.YtfoodaobiknihaaGreatDoor
namespace Go.Proofs.YtfoodaobiknihaaGreatDoor.Rot
set_option maxRecDepth 50000
def rotl (b x s : Nat) : Nat := x * 2 ^ s % 2 ^ b + x / 2 ^ (b - s)
theorem rotl_parts (b q r s : Nat) (hs : s ≤ b) (hr : r < 2 ^ (b - s)) (_ : q < 2 ^ s) : rotl b (q * 2 ^ (b - s) + r) s = r * 2 ^ s + q := by
  have hb : 2 ^ b = 2 ^ (b - s) * 2 ^ s := by rw [← Nat.pow_add, Nat.sub_add_cancel hs]
  have hp : 0 < 2 ^ (b - s) := Nat.two_pow_pos _
  have e1 : (q * 2 ^ (b - s) + r) / 2 ^ (b - s) = q := by
    rw [Nat.add_comm, Nat.add_mul_div_right _ _ hp, Nat.div_eq_of_lt hr, Nat.zero_add]
  have hlt : r * 2 ^ s < 2 ^ b := by rw [hb]; exact Nat.mul_lt_mul_of_pos_right hr (Nat.two_pow_pos _)
  have e2 : (q * 2 ^ (b - s) + r) * 2 ^ s % 2 ^ b = r * 2 ^ s := by
    have h1 : (q * 2 ^ (b - s) + r) * 2 ^ s = r * 2 ^ s + 2 ^ b * q := by
      rw [Nat.add_mul, Nat.mul_assoc, ← hb, Nat.mul_comm q, Nat.add_comm]
    rw [h1, Nat.add_mul_mod_self_left, Nat.mod_eq_of_lt hlt]
  unfold rotl
  rw [e1, e2]
theorem div_lt (b x s : Nat) (hs : s ≤ b) (hx : x < 2 ^ b) : x / 2 ^ (b - s) < 2 ^ s := by
  apply Nat.div_lt_of_lt_mul
  rw [← Nat.pow_add, Nat.sub_add_cancel hs]
  exact hx
theorem rotl_split (b x s : Nat) (hs : s ≤ b) (hx : x < 2 ^ b) : rotl b x s = x % 2 ^ (b - s) * 2 ^ s + x / 2 ^ (b - s) := by
  have h := rotl_parts b (x / 2 ^ (b - s)) (x % 2 ^ (b - s)) s hs (Nat.mod_lt _ (Nat.two_pow_pos _)) (div_lt b x s hs hx)
  rw [show x / 2 ^ (b - s) * 2 ^ (b - s) + x % 2 ^ (b - s) = x from by rw [Nat.mul_comm]; exact Nat.div_add_mod _ _] at h
  exact h
theorem rotl_lt (b x s : Nat) (hs : s ≤ b) (hx : x < 2 ^ b) : rotl b x s < 2 ^ b := by
  rw [rotl_split b x s hs hx]
  have h1 := div_lt b x s hs hx
  have h2 : x % 2 ^ (b - s) < 2 ^ (b - s) := Nat.mod_lt _ (Nat.two_pow_pos _)
  have hb : 2 ^ b = 2 ^ (b - s) * 2 ^ s := by rw [← Nat.pow_add, Nat.sub_add_cancel hs]
  have h3 : (x % 2 ^ (b - s) + 1) * 2 ^ s ≤ 2 ^ (b - s) * 2 ^ s := Nat.mul_le_mul_right _ h2
  rw [Nat.add_mul, ← hb] at h3
  omega
theorem mask64 (k : Int) : bits .and .u64 (IntKind.u64.wrap k) 63 = k % 64 := by
  have h := bits_mask .u64 64 (by decide) (fun n h0 h1 => by rw [IntKind.wrap_u64]; omega) 6 (by decide) (IntKind.u64.wrap k) (by rw [IntKind.wrap_u64]; omega) (by rw [IntKind.wrap_u64]; omega)
  rw [IntKind.wrap_u64] at *
  simp at h
  rw [h]
theorem or64 (x s : Nat) (hx : x < 2 ^ 64) (hs : s < 64) : bits .or .u64 (IntKind.u64.wrap ((x : Int) * 2 ^ s)) ((x : Int) / 2 ^ (64 - s)) = (rotl 64 x s : Nat) := by
  have e1 : IntKind.u64.wrap ((x : Int) * 2 ^ s) = ((x * 2 ^ s % 2 ^ 64 : Nat) : Int) := by rw [IntKind.wrap_u64]; simp only [Int.natCast_emod, Int.natCast_mul, Int.natCast_pow]; rfl
  have e2 : (x : Int) / 2 ^ (64 - s) = ((x / 2 ^ (64 - s) : Nat) : Int) := by push_cast; rfl
  have hm : x * 2 ^ s % 2 ^ 64 % 2 ^ s = 0 := by
    rw [Nat.mod_mod_of_dvd _ (Nat.pow_dvd_pow 2 (by omega))]; exact Nat.mul_mod_left _ _
  have hl := div_lt 64 x s (by omega) hx
  have hl2 : 2 ^ s < 2 ^ 64 := Nat.pow_lt_pow_right (by decide) hs
  have ht : x * 2 ^ s % 2 ^ 64 < 2 ^ 64 := Nat.mod_lt _ (by decide)
  rw [e1, e2, bits_join .u64 64 (by decide) (fun n h0 h1 => by rw [IntKind.wrap_u64]; omega) s _ _ (Int.natCast_nonneg _) (by exact_mod_cast hm) (by exact_mod_cast ht) (Int.natCast_nonneg _) (by exact_mod_cast hl) (by exact_mod_cast Nat.lt_trans hl hl2)]
  rfl
end Go.Proofs.YtfoodaobiknihaaGreatDoor.Rot
namespace Go.Proofs.YtfoodaobiknihaaGreatDoor
set_option maxRecDepth 50000
open Go.RowKit Rot
theorem rot64_any (x : Nat) (k : Int) (hx : x < 2 ^ 64) (w : World) : Calls Tryz.prog 141 #[.int .u64 (x : Int), .int .i64 k] w fun e w' => e = .returned (.int .u64 (rotl 64 x (k % 64).toNat : Nat)) ∧ w = w' := by
  have h0 : 0 ≤ k % 64 := by omega
  have h1 : k % 64 ≤ 63 := by omega
  have hs := mask64 k
  generalize k % 64 = s at *
  obtain ⟨n, rfl⟩ := Int.eq_ofNat_of_zero_le h0
  have ho := or64 x n hx (by omega)
  have H := Lib.hid ho
  clear ho
  go_enter Tryz.func141, Tryz.ntmps141
  go_wp2
  go_ret
  refine ⟨?_, rfl⟩
  simp [H.out]
theorem neg64 (k : Int) : (wrap64 (-k)) % 64 = (-k) % 64 := by unfold wrap64; omega
theorem right64_any (x : Nat) (k : Int) (hx : x < 2 ^ 64) (w : World) : Calls Tryz.prog 139 #[.int .u64 (x : Int), .int .i64 k] w fun e w' => e = .returned (.int .u64 (rotl 64 x ((-k) % 64).toNat : Nat)) ∧ w = w' := by
  go_enter Tryz.func139, Tryz.ntmps139
  go_wp2_with (go_at_call 141; refine (rot64_any _ _ hx _).mono ?_; rintro e w' ⟨rfl, rfl⟩)
  go_ret
  refine ⟨?_, rfl⟩
  simp [neg64]
open Go.RowKit
def bytesOf (p : Nat → Nat) (n x : Nat) : List Nat := (List.range n).map fun i => x / 2 ^ (8 * p i) % 256
def u8s (l : List Nat) : List Value := l.map fun x : Nat => .int .u8 (x : Int)
def u32s (l : List Nat) : List Value := l.map fun x : Nat => .int .u32 (x : Int)
def u64s (l : List Nat) : List Value := l.map fun x : Nat => .int .u64 (x : Int)
def Orders (g : FuncId) (p : Nat → Nat) (n : Nat) : Prop := (∀ (args : Array Value) (w : World), (callFunc g args).run Tryz.prog w = .ok (.enter g args) w) ∧
  ∀ (i : Nat) (w : World), i < n → Calls Tryz.prog g #[.int .i64 (i : Int), .int .i64 (n : Int)] w fun e w' => e = .returned (.int .i64 (p i : Nat)) ∧ w = w'
theorem enters {P : Program} {f : FuncId} {fn : Func} (hf : P.funcs[f]? = some fn) (hname : (fn.name == "runtime.NumGoroutine") = false) (hb : fn.body.isNone = false) (args : Array Value) (w : World) :
    (callFunc f args).run P w = .ok (.enter f args) w := by
  simp only [beq_eq_false_iff_ne, ne_eq] at hname
  have hb' : ¬ fn.body = none := fun h => by rw [h] at hb; cases hb
  simp [callFunc, hf, hname, hb']
theorem low_any (n : Nat) : Orders 76 (fun i => i) n := ⟨fun args w => enters Tryz.func76 (by kernel_rfl) (by kernel_rfl) args w, fun i w _ => by
  go_enter Tryz.func76, Tryz.ntmps76
  go_wp2
  go_ret
  exact ⟨rfl, rfl⟩⟩
theorem Tryz.info5 : (Tryz.prog.info? 5).map (fun i => (i.zero, i.size, i.bytes)) = some (some (.int .u8 0), 1, 1) := by kernel_rfl
theorem bytesOf_snoc (p : Nat → Nat) (n x : Nat) : bytesOf p (n + 1) x = bytesOf p n x ++ [x / 2 ^ (8 * p n) % 256] := by
  unfold bytesOf; rw [List.range_succ, List.map_append]; rfl
theorem bytesOf_length (p : Nat → Nat) (n x : Nat) : (bytesOf p n x).length = n := by simp [bytesOf]
theorem u8s_append (a b : List Nat) : u8s (a ++ b) = u8s a ++ u8s b := by simp [u8s]
theorem u8s_length (a : List Nat) : (u8s a).length = a.length := by simp [u8s]
theorem u32s_length (a : List Nat) : (u32s a).length = a.length := by simp [u32s]
theorem u64s_length (a : List Nat) : (u64s a).length = a.length := by simp [u64s]
theorem flat_snoc (f : Nat → List Nat) (xs : List Nat) (k : Nat) (h : k < xs.length) : (xs.take (k + 1)).flatMap f = (xs.take k).flatMap f ++ f xs[k] := by
  rw [List.take_succ_eq_append_getElem h, List.flatMap_append]; simp
theorem u32_at (xs : List Nat) (k : Nat) (h : k < (u32s xs).length) : (u32s xs)[k] = .int .u32 ((xs[k]'(by simpa [u32s] using h) : Nat) : Int) := by simp [u32s]
theorem u64_at (xs : List Nat) (k : Nat) (h : k < (u64s xs).length) : (u64s xs)[k] = .int .u64 ((xs[k]'(by simpa [u64s] using h) : Nat) : Int) := by simp [u64s]
theorem u8_at (xs : List Nat) (k : Nat) (h : k < (u8s xs).length) : (u8s xs)[k] = .int .u8 ((xs[k]'(by simpa [u8s] using h) : Nat) : Int) := by simp [u8s]
theorem one_new (w : World) (u : Value) (t : TypeId) : ∀ j v, [u][j]? = some v → (w.alloc (.cells #[u] t)).cell? ((⟨w.heap.size, 0, none⟩ : Addr).add j) = some v := by
  intro j v hj
  match j, hj with
  | 0, hj => simp at hj; subst hj; simp [Addr.add]
theorem one_cell (u : Value) (h : u.oneCell' = true) : ∀ v ∈ [u], v.oneCell' = true := by
  intro v hv; simp at hv; subst hv; exact h
theorem rel_step {w wr w2 : World} {e : TypeId} {v v' : Value} {n n' : Nat} {xs ys : List Value} {o : Obj} (hb : Below w.heap.size w wr) (hsz : w.heap.size ≤ wr.heap.size) (hown : wr.ownsRow w.heap.size e 1 v n xs)
    (hown2 : w2.ownsRow w.heap.size e 1 v' n' ys) (hg : (wr.alloc o).grownBy w2 v.ownBlock) : w2.ownsRow w.heap.size e 1 v' n' ys ∧ Below w.heap.size w w2 :=
  ⟨hown2, (hb.alloc hsz o).grown hg (by simp; omega) (fun k hk => (hown.lt k hk).1)⟩
set_option maxHeartbeats 1600000 in
theorem laid64_any (g : FuncId) (p : Nat → Nat) (hp : ∀ i, i < 8 → p i < 8) (ho : Orders g p 8) (A : Option Addr) (c : Nat) (xs : List Nat) (w : World) (hr : Reads w w.heap.size A (u64s xs)) (hlen : xs.length ≤ 1000000) (hx : ∀ x ∈ xs, x < 2 ^ 64) :
    Calls Tryz.prog 136 #[.slice A xs.length c, .int .i64 8, .func (.func g) #[] #[]] w fun e w' => ∃ v, e = .returned v ∧ w'.ownsRow w.heap.size 5 1 v (8 * xs.length) (u8s (xs.flatMap (bytesOf p 8))) ∧ Below w.heap.size w w' := by
  obtain ⟨i0, hi, hz0, hz1, hz2⟩ := info_parts Tryz.info5
  obtain ⟨M, hM⟩ : ∃ M : Nat, (xs.length : Int) * 8 = (M : Int) := ⟨xs.length * 8, by simp⟩
  have hMb : M ≤ 8000000 := by omega
  have hlen63 : xs.length ≤ 9223372036854775807 := by omega
  obtain ⟨hcf, hoi⟩ := ho
  have hoi4 : ∀ (i : Nat) (w : World), i < 8 → Calls Tryz.prog g #[.int .i64 (i : Int), .int .i64 8] w fun e w' => e = .returned (.int .i64 (p i : Nat)) ∧ w = w' := hoi
  have Ho := Lib.hid hoi4
  have Hx := Lib.hid hx
  have Hp := Lib.hid hp
  have Hr := Lib.hid hr
  clear hoi hoi4 hx hp hr
  go_enter Tryz.func136, Tryz.ntmps136
  go_wp2_with (at_make; refine wpList_make_own _ rfl _ _ 86 rfl w.heap.size 5 i0 (.int .u8 0) 1 Tryz.underlying86 hi hz0 hz1 _ _ _ M rfl rfl (by omega) ?c1 ?c2 ?c3 ?_)
  case c1 => simp [hz2]; omega
  case c2 => unfold maxLen; omega
  case c3 => exact Nat.le_refl _
  intro w1 hown1 hg1
  have hb1 : Below w.heap.size w w1 := (Below.refl _ _).grown hg1 (Nat.le_refl _) (by simp)
  clear hg1
  go_wp2
  go_loopw [7, 18] (fun v i wr => ∃ k : Nat, k ≤ xs.length ∧ i = .int .i64 k ∧ wr.ownsRow w.heap.size 5 1 v (8 * k) (u8s ((xs.take k).flatMap (bytesOf p 8))) ∧ Below w.heap.size w wr) (fun _ i _ => xs.length - (intOf i).toNat)
  case atStart => exact ⟨0, Nat.zero_le _, rfl, hown1, hb1⟩
  case round =>
    obtain ⟨k, hk, rfl, hown, hb⟩ := hrel
    by_cases hlt : k < xs.length
    · obtain ⟨b, off, rfl, hbB, hcell⟩ := (Hr.out.below hb) k (by rw [u64s_length]; exact hlt)
      rw [u64_at] at hcell
      have hx0 := Hx.out xs[k] (List.getElem_mem hlt)
      have hfl := flat_snoc (bytesOf p 8) xs k hlt
      have Hfl := Lib.hid hfl
      clear hfl
      generalize hxx : xs[k] = x at *
      have hx1 : x ≤ 18446744073709551615 := by omega
      clear hxx hown1 hb1 hM
      generalize (xs.take k).flatMap (bytesOf p 8) = F at *
      go_wp2
      obtain ⟨wo, rfl⟩ : ∃ wo : World, wo = wr := ⟨_, rfl⟩
      go_loopw [7, 23] (fun v j wr => ∃ m : Nat, m ≤ 8 ∧ j = .int .i64 m ∧ wr.ownsRow w.heap.size 5 1 v (8 * k + m) (u8s (F ++ bytesOf p m x)) ∧ Below w.heap.size w wr) (fun _ j _ => 8 - (intOf j).toNat)
      case atStart => exact ⟨0, Nat.zero_le _, rfl, by simpa [bytesOf] using hown, hb⟩
      case round =>
        obtain ⟨m, hm, rfl, hown, hb⟩ := hrel
        by_cases hm4 : m < 8
        · have hpm := Hp.out m hm4
          have hsz := hb.size
          go_wp2_with (first
            | (at_builtin; refine wpList_append_own _ rfl (.tmp 26) (.tmp 35) 86 rfl w.heap.size 5 i0 (.int .u8 0) 1 1 Tryz.underlying86 hi hz0 hz1 hz2 rfl (by decide) _ _ _ rfl (hown.alloc _) ⟨wr.heap.size, 0, none⟩ 1 1 [.int .u8 ((x : Int) / 2 ^ (8 * p m) % 256)] rfl rfl ?c1 ?c2 ?c3 ?c4 ?c5 ?_)
            | (with_reducible refine (Ho.out m _ hm4).mono ?_; rintro e w' ⟨rfl, rfl⟩))
          case c1 => exact one_new _ _ _
          case c2 => exact one_cell _ rfl
          case c3 => unfold maxLen; omega
          case c4 => omega
          case c5 => simp; omega
          intro v' w2 hown2 hg2 _
          have R := rel_step hb hsz hown hown2 hg2
          have hbs := bytesOf_snoc p m x
          have Hbs := Lib.hid hbs
          clear hbs hown2 hg2 hown hb
          go_wp2
          go_roundw
          case rel => exact ⟨m + 1, by omega, by go_num, by rw [Hbs.out, ← List.append_assoc, u8s_append, ← Nat.add_assoc]; simpa [u8s] using R.1, R.2⟩
          case measure => simp [intOf]; omega
        · obtain rfl : m = 8 := by omega
          go_wp2
          go_roundw
          case rel => exact ⟨k + 1, by omega, by go_num, by rw [Hfl.out, Nat.mul_add]; exact hown, hb⟩
          case measure => simp [intOf]; omega
    · obtain rfl : k = xs.length := by omega
      rw [List.take_length] at hown
      go_wp2
      go_ret
      exact ⟨_, rfl, hown, hb⟩
def Held (n : Nat) (lz : Bool) (r : List UInt8) : Prop := r.length ≤ n ∧ (r.length = n → lz = true)
structure Cut (n : Nat) (lz : Bool) (all : List UInt8) (bs : List (List UInt8)) (r : List UInt8) : Prop where
  whole : all = bs.flatten ++ r
  each : ∀ b ∈ bs, b.length = n
  held : Held n lz r
  more : lz = true → bs ≠ [] → r ≠ []
structure Mid (n : Nat) (lz : Bool) (all : List UInt8) (bs : List (List UInt8)) (h s : List UInt8) : Prop where
  whole : all = bs.flatten ++ h
  each : ∀ b ∈ bs, b.length = n
  held : Held n lz h
  more : lz = true → bs ≠ [] → h ≠ [] ∨ s ≠ []
theorem flat_len {n : Nat} : ∀ {bs : List (List UInt8)}, (∀ b ∈ bs, b.length = n) → bs.flatten.length = bs.length * n
  | [], _ => by simp
  | b :: bs, h => by
    rw [List.flatten_cons, List.length_append, flat_len (fun x hx => h x (by simp [hx])), h b (by simp), List.length_cons, Nat.succ_mul]
    omega
theorem flat_inj {n : Nat} : ∀ {bs cs : List (List UInt8)}, (∀ b ∈ bs, b.length = n) → (∀ b ∈ cs, b.length = n) → bs.length = cs.length → bs.flatten = cs.flatten → bs = cs
  | [], [], _, _, _, _ => rfl
  | [], _ :: _, _, _, h, _ => by simp at h
  | _ :: _, [], _, _, h, _ => by simp at h
  | b :: bs, c :: cs, h1, h2, h3, h4 => by
    rw [List.flatten_cons, List.flatten_cons] at h4
    obtain ⟨e1, e2⟩ := List.append_inj h4 (by rw [h1 b (by simp), h2 c (by simp)])
    rw [e1, flat_inj (fun x hx => h1 x (by simp [hx])) (fun x hx => h2 x (by simp [hx])) (by simpa using h3) e2]
theorem not_fewer {n k k' a a' : Nat} (h : k * n + a = k' * n + a') (hx : a < n ∨ a ≤ n ∧ (k' ≠ 0 → 1 ≤ a')) : ¬ k < k' := by
  intro hk
  obtain ⟨d, rfl⟩ : ∃ d, k' = k + 1 + d := ⟨k' - (k + 1), by omega⟩
  have e : (k + 1 + d) * n = k * n + n + d * n := by rw [Nat.add_mul, Nat.succ_mul]
  rw [e] at h
  have : 0 ≤ d * n := Nat.zero_le _
  rcases hx with hx | ⟨h1, h2⟩
  · omega
  · have := h2 (by omega); omega
theorem Cut.bounds {n : Nat} {lz : Bool} {all : List UInt8} {bs : List (List UInt8)} {r : List UInt8} (h : Cut n lz all bs r) : r.length < n ∨ r.length ≤ n ∧ (lz = true) := by
  obtain ⟨h1, h2⟩ := h.held
  by_cases e : r.length = n
  · exact .inr ⟨h1, h2 e⟩
  · left; omega
theorem cut_one {n : Nat} {lz : Bool} {all : List UInt8} {bs cs : List (List UInt8)} {r t : List UInt8} (h : Cut n lz all bs r) (k : Cut n lz all cs t) : bs = cs ∧ r = t := by
  have e : bs.length * n + r.length = cs.length * n + t.length := by
    rw [← flat_len h.each, ← flat_len k.each, ← List.length_append, ← List.length_append, ← h.whole, ← k.whole]
  have b1 : r.length < n ∨ r.length ≤ n ∧ (cs.length ≠ 0 → 1 ≤ t.length) := by
    rcases h.bounds with b | ⟨b, l⟩
    · exact .inl b
    · refine .inr ⟨b, fun hc => ?_⟩
      have := k.more l (by intro e; rw [e] at hc; simp at hc)
      exact List.length_pos_iff.2 this
  have b2 : t.length < n ∨ t.length ≤ n ∧ (bs.length ≠ 0 → 1 ≤ r.length) := by
    rcases k.bounds with b | ⟨b, l⟩
    · exact .inl b
    · refine .inr ⟨b, fun hc => ?_⟩
      have := h.more l (by intro e; rw [e] at hc; simp at hc)
      exact List.length_pos_iff.2 this
  have x1 := not_fewer e b1
  have x2 := not_fewer e.symm b2
  have el : bs.length = cs.length := by omega
  have ef := h.whole.symm.trans k.whole
  obtain ⟨e1, e2⟩ := List.append_inj ef (by rw [flat_len h.each, flat_len k.each, el])
  exact ⟨flat_inj h.each k.each el e1, e2⟩
theorem Cut.more_parts {n : Nat} {lz : Bool} {all p : List UInt8} {bs cs : List (List UInt8)} {r t : List UInt8} (h : Cut n lz all bs r) (k : Cut n lz (r ++ p) cs t) : Cut n lz (all ++ p) (bs ++ cs) t := by
  refine ⟨?_, ?_, k.held, ?_⟩
  · rw [h.whole, List.append_assoc, k.whole]; simp
  · intro b hb
    rcases List.mem_append.1 hb with hb | hb
    · exact h.each b hb
    · exact k.each b hb
  · intro hl hne
    by_cases hc : cs = []
    · have hb : bs ≠ [] := by intro e; exact hne (by rw [e, hc]; rfl)
      have hr := h.more hl hb
      have hw := k.whole
      rw [hc, List.flatten_nil, List.nil_append] at hw
      rw [← hw]
      intro e
      exact hr (List.append_eq_nil_iff.1 e).1
    · exact k.more hl hc
theorem Cut.nothing {n : Nat} {lz : Bool} {r : List UInt8} (h : Held n lz r) : Cut n lz r [] r := ⟨by simp, by simp, h, fun _ h => absurd rfl h⟩
theorem Mid.of_cut {n : Nat} {lz : Bool} {all s : List UInt8} {bs : List (List UInt8)} {r : List UInt8} (h : Cut n lz all bs r) : Mid n lz all bs r s := ⟨h.whole, h.each, h.held, fun a b => .inl (h.more a b)⟩
theorem Mid.cut {n : Nat} {lz : Bool} {all : List UInt8} {bs : List (List UInt8)} {r : List UInt8} (h : Mid n lz all bs r []) : Cut n lz all bs r := ⟨h.whole, h.each, h.held, fun a b => (h.more a b).resolve_right (by simp)⟩
theorem Mid.on {n : Nat} {lz : Bool} {all s : List UInt8} {bs : List (List UInt8)} {h : List UInt8} (hn : 0 < n) (m : Mid n lz all bs h s) {q : Nat} (hq : h.length + (s.take q).length = n) (hw : lz = true → 0 < (s.drop q).length) :
    Mid n lz (all ++ s.take q) (bs ++ [h ++ s.take q]) [] (s.drop q) := by
  refine ⟨?_, ?_, ⟨by simp, fun e => by simp at e; omega⟩, fun l _ => .inr (List.length_pos_iff.1 (hw l))⟩
  · rw [m.whole]; simp
  · intro b hb
    rcases List.mem_append.1 hb with hb | hb
    · exact m.each b hb
    · simp at hb; subst hb; rw [List.length_append]; exact hq
theorem Mid.off {n : Nat} {lz : Bool} {all s : List UInt8} {bs : List (List UInt8)} {h : List UInt8} (hs : s ≠ []) (m : Mid n lz all bs h s) {q : Nat} (hq : q = min s.length (n - h.length))
    (hw : ¬ (h.length + (s.take q).length = n ∧ (lz = true → 0 < (s.drop q).length))) : Mid n lz (all ++ s.take q) bs (h ++ s.take q) (s.drop q) := by
  have hh := m.held.1
  have hsl := List.length_pos_iff.2 hs
  have ht : (s.take q).length = q := by rw [List.length_take]; omega
  have hd : (s.drop q).length = s.length - q := List.length_drop
  refine ⟨by rw [m.whole]; simp, m.each, ⟨by rw [List.length_append]; omega, fun e => ?_⟩, fun l hb => .inl ?_⟩
  · rw [List.length_append] at e
    cases hlz : lz with
    | true => rfl
    | false => exact absurd ⟨e, fun c => by rw [hlz] at c; cases c⟩ hw
  · intro e
    have := congrArg List.length e
    rw [List.length_append, ht] at this
    simp at this
    omega
open Go.RowKit
def cs (l : List UInt8) : List Value := l.map fun b => Value.int .u8 b.toNat
def tx (l : List UInt8) : ByteArray := ⟨l.toArray⟩
def tl (s : ByteArray) : List UInt8 := s.data.toList
theorem cs_append (a b : List UInt8) : cs (a ++ b) = cs a ++ cs b := by simp [cs]
theorem cs_length (a : List UInt8) : (cs a).length = a.length := by simp [cs]
theorem tl_tx (l : List UInt8) : tl (tx l) = l := by simp [tl, tx]
theorem tx_tl (s : ByteArray) : tx (tl s) = s := by unfold tx tl; rw [Array.toArray_toList]
theorem tl_length (s : ByteArray) : (tl s).length = s.size := by unfold tl; rw [Array.length_toList]; rfl
theorem tx_size (l : List UInt8) : (tx l).size = l.length := by rw [← tl_length, tl_tx]
theorem tl_inj {a b : ByteArray} (h : tl a = tl b) : a = b := by rw [← tx_tl a, h, tx_tl]
theorem cs_at (l : List UInt8) (k : Nat) (h : k < (cs l).length) : (cs l)[k] = .int .u8 ((l[k]'(by simpa [cs] using h)).toNat : Int) := by simp [cs]
theorem cs_one (l : List UInt8) : ∀ u ∈ cs l, u.oneCell' = true := by
  intro u hu
  obtain ⟨x, _, rfl⟩ := List.mem_map.1 hu
  rfl
theorem fd_info_u8 : (Tryz.prog.info? 5).map (fun i => (i.zero, i.size, i.bytes)) = some (some (.int .u8 0), 1, 1) := by kernel_rfl
theorem conv_text (w : World) {B : Nat} {v : Value} {n : Nat} {l : List UInt8} (h : w.ownsRow B 5 1 v n (cs l)) : (convert 86 9 v).run Tryz.prog w = .ok (.string (tx l)) w := by
  rcases h.2 with ⟨rfl, rfl⟩ | ⟨g, cap, cur, rfl, _, hg, h1, h2, h3, h4⟩
  · obtain rfl : l = [] := by have := h.1; rw [cs_length] at this; exact List.eq_nil_of_length_eq_zero (by omega)
    exact Lib.run_convert_nil_bytes w 86 9 5 0 Tryz.underlying86 Tryz.underlying5 Tryz.underlying9
  · have hn : l.length = n := by have := h.1; rw [cs_length] at this; omega
    have hR := Reads.of_own h
    have e : tx l = strOfNums (l.map fun b => (b.toNat : Int)) := by
      unfold tx strOfNums
      congr 1
      congr 1
      rw [List.map_map]
      conv => lhs; rw [← List.map_id l]
      exact List.map_congr_left fun b _ => by simp
    rw [e]
    refine run_convert_bytes_arg w 86 5 Tryz.underlying86 Tryz.underlying5 g 0 n cap _ (by simpa using hn) (fun i hi => ?_) 9 Tryz.underlying9
    obtain ⟨b', off', hb', _, hc⟩ := hR i (by rw [cs_length]; omega)
    injection hb' with hb'
    injection hb' with e1 e2
    subst e1; subst e2
    rw [hc, cs_at]
    simp [List.getD, List.getElem?_eq_getElem (show i < l.length by omega)]
theorem below_step {a b c : World} (h : Below a.heap.size a b) (k : Below b.heap.size b c) : Below a.heap.size a c := h.trans (k.mono h.size)
structure Kept (M : Nat → Prop) (w w' : World) : Prop where
  os : w'.os = w.os
  tape : w'.tape = w.tape
  output : w'.output = w.output
  size : w.heap.size ≤ w'.heap.size
  block : ∀ k, k < w.heap.size → ¬ M k → w'.heap[k]? = w.heap[k]?
section
variable {M M' : Nat → Prop} {a b c w w' : World}
theorem Kept.refl (M : Nat → Prop) (w : World) : Kept M w w := ⟨rfl, rfl, rfl, Nat.le_refl _, fun _ _ _ => rfl⟩
theorem Kept.trans (h : Kept M a b) (k : Kept M' b c) (hM : ∀ x, x < a.heap.size → M' x → M x) : Kept M a c :=
  ⟨k.os.trans h.os, k.tape.trans h.tape, k.output.trans h.output, Nat.le_trans h.size k.size, fun i hi hn => (k.block i (Nat.lt_of_lt_of_le hi h.size) fun x => hn (hM i hi x)).trans (h.block i hi hn)⟩
theorem Kept.of_below (h : Below w.heap.size w w') : Kept M w w' := ⟨h.os, h.tape, h.output, h.size, fun i hi _ => h.block i hi⟩
theorem Kept.below {B : Nat} (h : Kept M w w') (hB : B ≤ w.heap.size) (hM : ∀ x, M x → B ≤ x) : Below B w w' :=
  ⟨h.os, h.tape, h.output, h.size, fun i hi => h.block i (by omega) fun x => by have := hM i x; omega⟩
theorem Kept.drew (h : Kept M w w') : Kept M w w'.drew := ⟨h.os, h.tape, h.output, h.size, h.block⟩
theorem Kept.set (h : Kept M w w') {p : Addr} (hp : M p.block ∨ w.heap.size ≤ p.block) (u : Value) : Kept M w (w'.setCell p u) :=
  ⟨h.os, h.tape, h.output, by simpa [World.setCell] using h.size, fun i hi hn => (Below.heap_setCell w' p u i (fun e => by subst e; rcases hp with hp | hp; exact hn hp; omega)).trans (h.block i hi hn)⟩
theorem Kept.alloc (h : Kept M w w') (o : Obj) : Kept M w (w'.alloc o) :=
  ⟨h.os, h.tape, h.output, Nat.le_trans h.size (by simp), fun i hi hn => (Below.heap_alloc w' o i (Nat.lt_of_lt_of_le hi h.size)).trans (h.block i hi hn)⟩
theorem Kept.grown (h : Kept M a w) {row : Option Nat} (hg : w.grownBy w' row) (hr : ∀ k, row = some k → M k ∨ a.heap.size ≤ k) : Kept M a w' :=
  ⟨hg.os.trans h.os, hg.tape.trans h.tape, hg.output.trans h.output, Nat.le_trans h.size hg.size, fun i hi hn => (hg.block i (Nat.lt_of_lt_of_le hi h.size) (fun e => by rcases hr i e.symm with x | x; exact hn x; omega)).trans (h.block i hi hn)⟩
theorem own_kept {base : Nat} {e : TypeId} {n : Nat} {v : Value} {xs : List Value} (h : w.ownsRow base e 1 v n xs) (hk : Kept M w w') (hM : ∀ k, v.ownBlock = some k → ¬ M k) : w'.ownsRow base e 1 v n xs := by
  refine ⟨h.1, ?_⟩
  rcases h.2 with hn | ⟨g, cap, cur, rfl, hb, hgg, rest⟩
  · exact .inl hn
  · refine .inr ⟨g, cap, cur, rfl, hb, ?_, rest⟩
    rw [hk.block g (Array.getElem?_eq_some_iff.1 hgg).1 (hM g rfl)]
    exact hgg
theorem own_base {base base' : Nat} {e : TypeId} {n : Nat} {v : Value} {xs : List Value} (h : w.ownsRow base e 1 v n xs) (hM : ∀ k, v.ownBlock = some k → base' ≤ k) : w.ownsRow base' e 1 v n xs := by
  refine ⟨h.1, ?_⟩
  rcases h.2 with hn | ⟨g, cap, cur, rfl, hb, rest⟩
  · exact .inl hn
  · exact .inr ⟨g, cap, cur, rfl, hM g rfl, rest⟩
end
def FeedRow (w : World) (F n : Nat) (lz : Bool) (v : Value) (t : Nat) : Prop := w.heap[F]? = some (.cells #[.int .i64 (n : Int), .bool lz, v, .int .i64 (t : Int)] 225 (0, 0))
section
variable {w w' : World} {F n : Nat} {lz : Bool} {v : Value} {t : Nat}
theorem FeedRow.lt (h : FeedRow w F n lz v t) : F < w.heap.size := by
  rcases Nat.lt_or_ge F w.heap.size with hl | hl
  · exact hl
  · unfold FeedRow at h; rw [Array.getElem?_eq_none hl] at h; cases h
theorem FeedRow.at_ (h : FeedRow w F n lz v t) : w.cell? ⟨F, 0, none⟩ = some (.int .i64 (n : Int)) ∧ w.cell? ⟨F, 1, none⟩ = some (.bool lz) ∧ w.cell? ⟨F, 2, none⟩ = some v ∧ w.cell? ⟨F, 3, none⟩ = some (.int .i64 (t : Int)) ∧ w.frozen? ⟨F, 2, none⟩ = false ∧ w.frozen? ⟨F, 3, none⟩ = false := by
  unfold FeedRow at h
  refine ⟨?_, ?_, ?_, ?_, ?_, ?_⟩ <;> simp [World.cell?, World.frozen?, h]
theorem FeedRow.keep (h : FeedRow w F n lz v t) {M : Nat → Prop} (hk : Kept M w w') (hM : ¬ M F) : FeedRow w' F n lz v t := (hk.block F h.lt hM).trans h
theorem FeedRow.below (h : FeedRow w F n lz v t) (hk : Below w.heap.size w w') : FeedRow w' F n lz v t := (hk.block F h.lt).trans h
theorem FeedRow.drew (h : FeedRow w F n lz v t) : FeedRow w.drew F n lz v t := h
theorem FeedRow.grown (h : FeedRow w F n lz v t) {row : Option Nat} (hg : w.grownBy w' row) (hr : row ≠ some F) : FeedRow w' F n lz v t := (hg.block F h.lt fun e => hr e.symm).trans h
theorem FeedRow.other (h : FeedRow w F n lz v t) {a : Addr} (ha : F ≠ a.block) (u : Value) : FeedRow (w.setCell a u) F n lz v t := (Below.heap_setCell w a u F ha).trans h
theorem FeedRow.alloc (h : FeedRow w F n lz v t) (o : Obj) : FeedRow (w.alloc o) F n lz v t := (Below.heap_alloc w o F h.lt).trans h
theorem FeedRow.set2 (h : FeedRow w F n lz v t) (v' : Value) : FeedRow (w.setCell ⟨F, 2, none⟩ v') F n lz v' t := by
  unfold FeedRow at *
  simp only [World.setCell, Array.getElem?_modify, if_true, h]; rfl
theorem FeedRow.set3 (h : FeedRow w F n lz v t) (t' : Nat) : FeedRow (w.setCell ⟨F, 3, none⟩ (.int .i64 (t' : Int))) F n lz v t' := by
  unfold FeedRow at *
  simp only [World.setCell, Array.getElem?_modify, if_true, h]; rfl
theorem FeedRow.new (w : World) (n : Nat) (lz : Bool) (v : Value) (t : Nat) : FeedRow (w.alloc (.cells #[.int .i64 (n : Int), .bool lz, v, .int .i64 (t : Int)] 225)) w.heap.size n lz v t := by
  unfold FeedRow World.alloc; exact Array.getElem?_push_size
end
theorem run_append_text (w : World) (base : Nat) (ty : TypeId) {v : Value} {n : Nat} {xs : List Value} (hown : w.ownsRow base 5 1 v n xs) (s : ByteArray) (h : n + s.size ≤ 1000000000) (hbase : base ≤ w.heap.size) :
    ∃ v' w', (Builtin.append_ #[86, 9] ty #[v, .string s]).run Tryz.prog w = .ok v' w' ∧ w'.ownsRow base 5 1 v' (n + s.size) (xs ++ cs (tl s)) ∧ w.grownBy w' v.ownBlock ∧ (v'.ownBlock = v.ownBlock ∨ ∃ g, v'.ownBlock = some g ∧ w.heap.size ≤ g) := by
  obtain ⟨i0, hi, hz0, hz1, hz2⟩ := info_parts fd_info_u8
  have hm : n + s.size ≤ maxLen := by unfold maxLen; omega
  obtain ⟨v', w', hr, h1, h2, _⟩ := Lib.run_append_own_string (P := Tryz.prog) w base 86 9 ty 5 i0 Tryz.underlying86 Tryz.underlying9 hi hz0 hz1 hz2 v n xs hown s hm (by omega) hbase
  refine ⟨v', w', hr, h1, h2, ?_⟩
  rcases hown.2 with ⟨rfl, rfl⟩ | ⟨g, cap, cur, rfl, hbg, hg, hnc, hcm, hcs, htake⟩
  · have hx : xs = [] := List.eq_nil_of_length_eq_zero (by simpa using hown.1)
    subst hx
    obtain ⟨v2, w2, hr2, k1, _, _⟩ := Lib.run_append_own_string (P := Tryz.prog) w w.heap.size 86 9 ty 5 i0 Tryz.underlying86 Tryz.underlying9 hi hz0 hz1 hz2 _ 0 [] (World.ownsRow_nil _ _ _ _) s hm (by omega) (Nat.le_refl _)
    rw [hr] at hr2
    injection hr2 with e1 e2
    subst e1
    cases hv : v'.ownBlock with
    | none => exact .inl rfl
    | some k => exact .inr ⟨k, rfl, (k1.lt k hv).1⟩
  · have hxl : xs.length = n := by simpa using hown.1
    by_cases hroom : n + s.size ≤ cap
    · have hr2 := Lib.run_append_room_string (P := Tryz.prog) w 86 9 ty 5 i0 Tryz.underlying86 Tryz.underlying9 hi hz1 g n cap cur hg s hroom (by omega)
      rw [hr] at hr2
      injection hr2 with e1 e2
      subst e1
      exact .inl rfl
    · have holds : ∀ j u, xs[j]? = some u → w.cell? ((⟨g, 0, none⟩ : Addr).add j) = some u := hown.cells (g := g) rfl
      have hr2 := Lib.run_append_grow_string (P := Tryz.prog) w 86 9 ty 5 i0 (.int .u8 0) Tryz.underlying86 Tryz.underlying9 hi hz0 ⟨g, 0, none⟩ n cap xs (by rw [hz1]; simpa using hxl) holds s (by omega) (by omega) (by rw [hz2]; exact growslice_fits (by omega) (by omega))
      rw [hr] at hr2
      injection hr2 with e1 e2
      subst e1
      exact .inr ⟨_, rfl, Nat.le_refl _⟩
theorem step_append_text {ops : Array Oper} {o : Oper} {a : Act} {w : World} {K : Act → World → Prop} {Q : Exit → Act → World → Prop} {E : Prop} (hgd : o.guard = none) (sl x : Operand)
    (ho : o.op = .call { callee := .builtin .append, args := #[sl, x], argTypes := #[86, 9] })
    (base : Nat) {v : Value} {n : Nat} {xs : List Value} (hs : a.eval sl = v) (hown : w.ownsRow base 5 1 v n xs) (s : ByteArray) (hx : a.eval x = .string s) (hb : n + s.size ≤ 1000000000) (hbase : base ≤ w.heap.size)
    (h : ∀ v' w', w'.ownsRow base 5 1 v' (n + s.size) (xs ++ cs (tl s)) → w.grownBy w' v.ownBlock → (v'.ownBlock = v.ownBlock ∨ ∃ g, v'.ownBlock = some g ∧ w.heap.size ≤ g) → K (a.put o.dst v') w') :
    if Region.wanted o (yielded ops a.tmps) = true then Oper.wp Tryz.prog o a w K Q else E := by
  have hw : Region.wanted o (yielded ops a.tmps) = true := by simp [Region.wanted, hgd]
  rw [if_pos hw]
  obtain ⟨v', w', hr, h1, h2, h3⟩ := run_append_text w base o.type hown s hb hbase
  unfold Oper.wp execOp
  simp only [ho, resolve, invoke, builtin, Sem.run_bind, Sem.run_pure, Result.andThen_ok, List.map_toArray, List.map_cons, List.map_nil, hs, hx, hr]
  exact h v' w' h1 h2 h3
open Go.ChangeShapes Go.WideShapes Go.ChangeAt Go.RowKit Go.ChangeMaps
end Go.Proofs.YtfoodaobiknihaaGreatDoor
