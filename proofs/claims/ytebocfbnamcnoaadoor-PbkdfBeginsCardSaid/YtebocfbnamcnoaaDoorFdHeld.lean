/- A feed in memory: its four fields, and the row of bytes that it holds; memory that is kept but for some blocks; a text's bytes put behind a row of one's own, and where the row lies then. No condition but those typed. -/
import Derived.Test.YtebocfbnamcnoaaDoorFdPure
import Derived.Lib.AppendStr
import Derived.Lib.Hide
import Derived.Laws.BytesArg
import Derived.Lib.BufferRead
import Derived.Deep.AppendLies
import Derived.IntWalk
import Derived.LoopTactic
import Derived.Outline
import Derived.RegionTactic
import Derived.ChangeAlike
import Derived.Deep.QuietTactic
import Derived.BigQuiet
import Derived.Deep.RegionLaw
namespace Go.Proofs.YtebocfbnamcnoaaDoor
set_option maxRecDepth 50000
open Go.RowKit

/-- bytes as cells, as a text, and a text's bytes -/
def cs (l : List UInt8) : List Value := l.map fun b => Value.int .u8 b.toNat
def tx (l : List UInt8) : ByteArray := ⟨l.toArray⟩
def tl (s : ByteArray) : List UInt8 := s.data.toList
theorem cs_tl (s : ByteArray) : Lib.strCells s = cs (tl s) := rfl
theorem cs_append (a b : List UInt8) : cs (a ++ b) = cs a ++ cs b := by simp [cs]
theorem cs_length (a : List UInt8) : (cs a).length = a.length := by simp [cs]
theorem tl_tx (l : List UInt8) : tl (tx l) = l := by simp [tl, tx]
theorem tx_tl (s : ByteArray) : tx (tl s) = s := by unfold tx tl; rw [Array.toArray_toList]
theorem tl_length (s : ByteArray) : (tl s).length = s.size := by unfold tl; rw [Array.length_toList]; rfl
theorem tx_size (l : List UInt8) : (tx l).size = l.length := by rw [← tl_length, tl_tx]
theorem tx_inj {a b : List UInt8} (h : tx a = tx b) : a = b := by rw [← tl_tx a, h, tl_tx]
theorem tl_inj {a b : ByteArray} (h : tl a = tl b) : a = b := by rw [← tx_tl a, h, tx_tl]
theorem cs_at (l : List UInt8) (k : Nat) (h : k < (cs l).length) : (cs l)[k] = .int .u8 ((l[k]'(by simpa [cs] using h)).toNat : Int) := by simp [cs]
theorem cs_one (l : List UInt8) : ∀ u ∈ cs l, u.oneCell' = true := by
  intro u hu
  obtain ⟨x, _, rfl⟩ := List.mem_map.1 hu
  rfl

theorem fd_info_u8 : (Tryd.prog.info? 5).map (fun i => (i.zero, i.size, i.bytes)) = some (some (.int .u8 0), 1, 1) := by kernel_rfl

/-- a row of bytes as a text -/
theorem conv_text (w : World) {B : Nat} {v : Value} {n : Nat} {l : List UInt8} (h : w.ownsRow B 5 1 v n (cs l)) : (convert 48 9 v).run Tryd.prog w = .ok (.string (tx l)) w := by
  rcases h.2 with ⟨rfl, rfl⟩ | ⟨g, cap, cur, rfl, _, hg, h1, h2, h3, h4⟩
  · obtain rfl : l = [] := by have := h.1; rw [cs_length] at this; exact List.eq_nil_of_length_eq_zero (by omega)
    exact Lib.run_convert_nil_bytes w 48 9 5 0 Tryd.underlying48 Tryd.underlying5 Tryd.underlying9
  · have hn : l.length = n := by have := h.1; rw [cs_length] at this; omega
    have hR := Reads.of_own h
    have e : tx l = strOfNums (l.map fun b => (b.toNat : Int)) := by
      unfold tx strOfNums
      congr 1
      congr 1
      rw [List.map_map]
      conv => lhs; rw [← List.map_id l]
      exact List.map_congr_left fun b _ => by simp
    rw [e]
    refine run_convert_bytes_arg w 48 5 Tryd.underlying48 Tryd.underlying5 g 0 n cap _ (by simpa using hn) (fun i hi => ?_) 9 Tryd.underlying9
    obtain ⟨b', off', hb', _, hc⟩ := hR i (by rw [cs_length]; omega)
    injection hb' with hb'
    injection hb' with e1 e2
    subst e1; subst e2
    rw [hc, cs_at]
    simp [List.getD, List.getElem?_eq_getElem (show i < l.length by omega)]

theorem below_step {a b c : World} (h : Below a.heap.size a b) (k : Below b.heap.size b c) : Below a.heap.size a c := h.trans (k.mono h.size)

/-- memory is as it was, but for the blocks of M and new ones -/
structure Kept (M : Nat → Prop) (w w' : World) : Prop where
  os : w'.os = w.os
  tape : w'.tape = w.tape
  output : w'.output = w.output
  size : w.heap.size ≤ w'.heap.size
  block : ∀ k, k < w.heap.size → ¬ M k → w'.heap[k]? = w.heap[k]?
section
variable {M M' : Nat → Prop} {a b c w w' : World}
theorem Kept.refl (M : Nat → Prop) (w : World) : Kept M w w := ⟨rfl, rfl, rfl, Nat.le_refl _, fun _ _ _ => rfl⟩
theorem Kept.trans (h : Kept M a b) (k : Kept M' b c) (hM : ∀ x, x < a.heap.size → M' x → M x) : Kept M a c :=
  ⟨k.os.trans h.os, k.tape.trans h.tape, k.output.trans h.output, Nat.le_trans h.size k.size, fun i hi hn => (k.block i (Nat.lt_of_lt_of_le hi h.size) fun x => hn (hM i hi x)).trans (h.block i hi hn)⟩
theorem Kept.mono (h : Kept M w w') (hM : ∀ x, x < w.heap.size → M x → M' x) : Kept M' w w' := ⟨h.os, h.tape, h.output, h.size, fun i hi hn => h.block i hi fun x => hn (hM i hi x)⟩
theorem Kept.of_below (h : Below w.heap.size w w') : Kept M w w' := ⟨h.os, h.tape, h.output, h.size, fun i hi _ => h.block i hi⟩
theorem Kept.below {B : Nat} (h : Kept M w w') (hB : B ≤ w.heap.size) (hM : ∀ x, M x → B ≤ x) : Below B w w' :=
  ⟨h.os, h.tape, h.output, h.size, fun i hi => h.block i (by omega) fun x => by have := hM i x; omega⟩
theorem Kept.drew (h : Kept M w w') : Kept M w w'.drew := ⟨h.os, h.tape, h.output, h.size, h.block⟩
theorem Kept.set (h : Kept M w w') {p : Addr} (hp : M p.block ∨ w.heap.size ≤ p.block) (u : Value) : Kept M w (w'.setCell p u) :=
  ⟨h.os, h.tape, h.output, by simpa [World.setCell] using h.size, fun i hi hn => (Below.heap_setCell w' p u i (fun e => by subst e; rcases hp with hp | hp; exact hn hp; omega)).trans (h.block i hi hn)⟩
theorem Kept.alloc (h : Kept M w w') (o : Obj) : Kept M w (w'.alloc o) :=
  ⟨h.os, h.tape, h.output, Nat.le_trans h.size (by simp), fun i hi hn => (Below.heap_alloc w' o i (Nat.lt_of_lt_of_le hi h.size)).trans (h.block i hi hn)⟩
theorem Kept.grown (h : Kept M a w) {row : Option Nat} (hg : w.grownBy w' row) (hr : ∀ k, row = some k → M k ∨ a.heap.size ≤ k) : Kept M a w' :=
  ⟨hg.os.trans h.os, hg.tape.trans h.tape, hg.output.trans h.output, Nat.le_trans h.size hg.size, fun i hi hn => (hg.block i (Nat.lt_of_lt_of_le hi h.size) (fun e => by rcases hr i e.symm with x | x; exact hn x; omega)).trans (h.block i hi hn)⟩
theorem Kept.grownBy (h : Kept (fun _ => False) w w') (row : Option Nat) : w.grownBy w' row := ⟨h.os, h.tape, h.output, h.size, fun i hi _ => h.block i hi id⟩
theorem own_kept {base : Nat} {e : TypeId} {n : Nat} {v : Value} {xs : List Value} (h : w.ownsRow base e 1 v n xs) (hk : Kept M w w') (hM : ∀ k, v.ownBlock = some k → ¬ M k) : w'.ownsRow base e 1 v n xs := by
  refine ⟨h.1, ?_⟩
  rcases h.2 with hn | ⟨g, cap, cur, rfl, hb, hgg, rest⟩
  · exact .inl hn
  · refine .inr ⟨g, cap, cur, rfl, hb, ?_, rest⟩
    rw [hk.block g (Array.getElem?_eq_some_iff.1 hgg).1 (hM g rfl)]
    exact hgg
theorem own_base {base base' : Nat} {e : TypeId} {n : Nat} {v : Value} {xs : List Value} (h : w.ownsRow base e 1 v n xs) (hM : ∀ k, v.ownBlock = some k → base' ≤ k) : w.ownsRow base' e 1 v n xs := by
  refine ⟨h.1, ?_⟩
  rcases h.2 with hn | ⟨g, cap, cur, rfl, hb, rest⟩
  · exact .inl hn
  · exact .inr ⟨g, cap, cur, rfl, hM g rfl, rest⟩
end

/-- the four fields of a feed -/
def FeedRow (w : World) (F n : Nat) (lz : Bool) (v : Value) (t : Nat) : Prop := w.heap[F]? = some (.cells #[.int .i64 (n : Int), .bool lz, v, .int .i64 (t : Int)] 109 (0, 0))
section
variable {w w' : World} {F n : Nat} {lz : Bool} {v : Value} {t : Nat}
theorem FeedRow.lt (h : FeedRow w F n lz v t) : F < w.heap.size := by
  rcases Nat.lt_or_ge F w.heap.size with hl | hl
  · exact hl
  · unfold FeedRow at h; rw [Array.getElem?_eq_none hl] at h; cases h
theorem FeedRow.at_ (h : FeedRow w F n lz v t) : w.cell? ⟨F, 0, none⟩ = some (.int .i64 (n : Int)) ∧ w.cell? ⟨F, 1, none⟩ = some (.bool lz) ∧ w.cell? ⟨F, 2, none⟩ = some v ∧ w.cell? ⟨F, 3, none⟩ = some (.int .i64 (t : Int)) ∧ w.frozen? ⟨F, 2, none⟩ = false ∧ w.frozen? ⟨F, 3, none⟩ = false := by
  unfold FeedRow at h
  refine ⟨?_, ?_, ?_, ?_, ?_, ?_⟩ <;> simp [World.cell?, World.frozen?, h]
theorem FeedRow.keep (h : FeedRow w F n lz v t) {M : Nat → Prop} (hk : Kept M w w') (hM : ¬ M F) : FeedRow w' F n lz v t := (hk.block F h.lt hM).trans h
theorem FeedRow.below (h : FeedRow w F n lz v t) (hk : Below w.heap.size w w') : FeedRow w' F n lz v t := (hk.block F h.lt).trans h
theorem FeedRow.drew (h : FeedRow w F n lz v t) : FeedRow w.drew F n lz v t := h
theorem FeedRow.grown (h : FeedRow w F n lz v t) {row : Option Nat} (hg : w.grownBy w' row) (hr : row ≠ some F) : FeedRow w' F n lz v t := (hg.block F h.lt fun e => hr e.symm).trans h
theorem FeedRow.other (h : FeedRow w F n lz v t) {a : Addr} (ha : F ≠ a.block) (u : Value) : FeedRow (w.setCell a u) F n lz v t := (Below.heap_setCell w a u F ha).trans h
theorem FeedRow.alloc (h : FeedRow w F n lz v t) (o : Obj) : FeedRow (w.alloc o) F n lz v t := (Below.heap_alloc w o F h.lt).trans h
theorem FeedRow.set2 (h : FeedRow w F n lz v t) (v' : Value) : FeedRow (w.setCell ⟨F, 2, none⟩ v') F n lz v' t := by
  unfold FeedRow at *
  simp only [World.setCell, Array.getElem?_modify, if_true, h]; rfl
theorem FeedRow.set3 (h : FeedRow w F n lz v t) (t' : Nat) : FeedRow (w.setCell ⟨F, 3, none⟩ (.int .i64 (t' : Int))) F n lz v t' := by
  unfold FeedRow at *
  simp only [World.setCell, Array.getElem?_modify, if_true, h]; rfl
theorem FeedRow.new (w : World) (n : Nat) (lz : Bool) (v : Value) (t : Nat) : FeedRow (w.alloc (.cells #[.int .i64 (n : Int), .bool lz, v, .int .i64 (t : Int)] 109)) w.heap.size n lz v t := by
  unfold FeedRow World.alloc; exact Array.getElem?_push_size
end

/-- where the row lies to which a text's bytes were put -/
theorem run_append_text (w : World) (base : Nat) (ty : TypeId) {v : Value} {n : Nat} {xs : List Value} (hown : w.ownsRow base 5 1 v n xs) (s : ByteArray) (h : n + s.size ≤ 1000000000) (hbase : base ≤ w.heap.size) :
    ∃ v' w', (Builtin.append_ #[48, 9] ty #[v, .string s]).run Tryd.prog w = .ok v' w' ∧ w'.ownsRow base 5 1 v' (n + s.size) (xs ++ cs (tl s)) ∧ w.grownBy w' v.ownBlock ∧ (v'.ownBlock = v.ownBlock ∨ ∃ g, v'.ownBlock = some g ∧ w.heap.size ≤ g) := by
  obtain ⟨i0, hi, hz0, hz1, hz2⟩ := info_parts fd_info_u8
  have hm : n + s.size ≤ maxLen := by unfold maxLen; omega
  obtain ⟨v', w', hr, h1, h2, _⟩ := Lib.run_append_own_string (P := Tryd.prog) w base 48 9 ty 5 i0 Tryd.underlying48 Tryd.underlying9 hi hz0 hz1 hz2 v n xs hown s hm (by omega) hbase
  refine ⟨v', w', hr, h1, h2, ?_⟩
  rcases hown.2 with ⟨rfl, rfl⟩ | ⟨g, cap, cur, rfl, hbg, hg, hnc, hcm, hcs, htake⟩
  · have hx : xs = [] := List.eq_nil_of_length_eq_zero (by simpa using hown.1)
    subst hx
    obtain ⟨v2, w2, hr2, k1, _, _⟩ := Lib.run_append_own_string (P := Tryd.prog) w w.heap.size 48 9 ty 5 i0 Tryd.underlying48 Tryd.underlying9 hi hz0 hz1 hz2 _ 0 [] (World.ownsRow_nil _ _ _ _) s hm (by omega) (Nat.le_refl _)
    rw [hr] at hr2
    injection hr2 with e1 e2
    subst e1
    cases hv : v'.ownBlock with
    | none => exact .inl rfl
    | some k => exact .inr ⟨k, rfl, (k1.lt k hv).1⟩
  · have hxl : xs.length = n := by simpa using hown.1
    by_cases hroom : n + s.size ≤ cap
    · have hr2 := Lib.run_append_room_string (P := Tryd.prog) w 48 9 ty 5 i0 Tryd.underlying48 Tryd.underlying9 hi hz1 g n cap cur hg s hroom (by omega)
      rw [hr] at hr2
      injection hr2 with e1 e2
      subst e1
      exact .inl rfl
    · have holds : ∀ j u, xs[j]? = some u → w.cell? ((⟨g, 0, none⟩ : Addr).add j) = some u := hown.cells (g := g) rfl
      have hr2 := Lib.run_append_grow_string (P := Tryd.prog) w 48 9 ty 5 i0 (.int .u8 0) Tryd.underlying48 Tryd.underlying9 hi hz0 ⟨g, 0, none⟩ n cap xs (by rw [hz1]; simpa using hxl) holds s (by omega) (by omega) (by rw [hz2]; exact growslice_fits (by omega) (by omega))
      rw [hr] at hr2
      injection hr2 with e1 e2
      subst e1
      exact .inr ⟨_, rfl, Nat.le_refl _⟩

/-- likewise at a step of a statement whose order is open -/
theorem step_append_text {ops : Array Oper} {o : Oper} {a : Act} {w : World} {K : Act → World → Prop} {Q : Exit → Act → World → Prop} {E : Prop} (hgd : o.guard = none) (sl x : Operand)
    (ho : o.op = .call { callee := .builtin .append, args := #[sl, x], argTypes := #[48, 9] })
    (base : Nat) {v : Value} {n : Nat} {xs : List Value} (hs : a.eval sl = v) (hown : w.ownsRow base 5 1 v n xs) (s : ByteArray) (hx : a.eval x = .string s) (hb : n + s.size ≤ 1000000000) (hbase : base ≤ w.heap.size)
    (h : ∀ v' w', w'.ownsRow base 5 1 v' (n + s.size) (xs ++ cs (tl s)) → w.grownBy w' v.ownBlock → (v'.ownBlock = v.ownBlock ∨ ∃ g, v'.ownBlock = some g ∧ w.heap.size ≤ g) → K (a.put o.dst v') w') :
    if Region.wanted o (yielded ops a.tmps) = true then Oper.wp Tryd.prog o a w K Q else E := by
  have hw : Region.wanted o (yielded ops a.tmps) = true := by simp [Region.wanted, hgd]
  rw [if_pos hw]
  obtain ⟨v', w', hr, h1, h2, h3⟩ := run_append_text w base o.type hown s hb hbase
  unfold Oper.wp execOp
  simp only [ho, resolve, invoke, builtin, Sem.run_bind, Sem.run_pure, Result.andThen_ok, List.map_toArray, List.map_cons, List.map_nil, hs, hx, hr]
  exact h v' w' h1 h2 h3
end Go.Proofs.YtebocfbnamcnoaaDoor
