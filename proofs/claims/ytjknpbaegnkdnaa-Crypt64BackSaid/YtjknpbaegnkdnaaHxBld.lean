/- A strings.Builder that a call has made, with room for so many bytes more: what Grow, WriteByte and String do to it. Conditions: those typed. -/
import Derived.Test.YtjknpbaegnkdnaaFdHeld
import Derived.Test.YtjknpbaegnkdnaaBld
import Derived.Test.YtjknpbaegnkdnaaLaid
import Derived.OneCell
import Derived.Laws.Rows
import Derived.Laws.IdiomCopy
import Derived.Lib.Builder
import Derived.Lib.AppendStr
import Derived.Lib.UnsafeStr
import Derived.Lib.MakeNoZero
import Derived.WalkKit
import Derived.Laws.Externs
namespace Go.Proofs.Ytjknpbaegnkdnaa
set_option maxRecDepth 50000
open Go.RowKit

theorem b_size : (Try.prog.info? 53).map (·.size) = some 2 := by kernel_rfl
theorem b_lies : liesAt Try.prog Try.prog.depth 53 (2 / Try.prog.cellsOf 53) 0 53 1 = true := by kernel_rfl
set_option maxHeartbeats 1600000 in
theorem copycheck_new (b : Nat) (w : World) (h0 : w.cell? ⟨b, 0, none⟩ = some (.pointer none)) (hs : w.shape? b = some (53, 2)) (hf : w.frozen? ⟨b, 0, none⟩ = false) :
    Calls Try.prog 25 #[.pointer (some ⟨b, 0, none⟩)] w fun e w' => e = .returned (.tuple #[]) ∧ w' = w.setCell ⟨b, 0, none⟩ (.pointer (some ⟨b, 0, none⟩)) := by
  obtain ⟨j, hj, hjs⟩ := Option.map_eq_some_iff.1 b_size
  have k1 := Lib.run_to_unsafe w ⟨b, 0, none⟩ Try.underlying51 Try.underlying66 hj (by rw [hjs]; decide) hs (Nat.zero_lt_succ 1)
  have k2 : (callFunc 27 #[.pointer (some ⟨b, 0, none⟩)]).run Try.prog w = .ok (.value (.pointer (some ⟨b, 0, none⟩))) w := by
    rw [run_callFunc_extern Try.func27 (by kernel_rfl) (by kernel_rfl) (by kernel_rfl) (e := Extern.AbiNoEscape.same) (by kernel_rfl)]
    rfl
  have k3 := Lib.run_from_unsafe (dst := 51) w ⟨b, 0, none⟩ Try.underlying66 Try.underlying51 hj hs b_lies
  go_enter Try.func25, Try.ntmps25
  go_wp2
  go_end0
  exact ⟨rfl, rfl⟩
set_option maxHeartbeats 1600000 in
theorem copycheck_old (b : Nat) (w : World) (h0 : w.cell? ⟨b, 0, none⟩ = some (.pointer (some ⟨b, 0, none⟩))) :
    Calls Try.prog 25 #[.pointer (some ⟨b, 0, none⟩)] w fun e w' => e = .returned (.tuple #[]) ∧ w' = w := by
  obtain ⟨j, hj, hjs⟩ := Option.map_eq_some_iff.1 b_size
  have k1 := Lib.run_neq_ptr_same (P := Try.prog) w ⟨b, 0, none⟩ Try.underlying51 hj
  go_enter Try.func25, Try.ntmps25
  go_wp2
  go_end0
  exact ⟨rfl, rfl⟩
/-- a builder's first cell: nothing, or itself -/
def Self (b : Nat) (p : Value) : Prop := p = .pointer none ∨ p = .pointer (some ⟨b, 0, none⟩)
theorem copycheck_any {B b n : Nat} {xs : List Value} {p v : Value} {w : World} (hp : Self b p) (hB : B ≤ b) (h2 : w.heap[b]? = some (.cells #[p, v] 53 (0, 0))) (h3 : w.ownsRow B 5 1 v n xs) (h4 : v.ownBlock ≠ some b) :
    Calls Try.prog 25 #[.pointer (some ⟨b, 0, none⟩)] w fun e w' => e = .returned (.tuple #[]) ∧ w'.heap[b]? = some (.cells #[.pointer (some ⟨b, 0, none⟩), v] 53 (0, 0)) ∧ w'.ownsRow B 5 1 v n xs ∧ Below B w w' := by
  have c0 : w.cell? ⟨b, 0, none⟩ = some p := by rw [Lib.cell_of_heap h2]; rfl
  rcases hp with rfl | rfl
  · refine (copycheck_new b w c0 (by simp [World.shape?, h2]) (Lib.frozen_of_heap h2 0)).mono ?_
    rintro e w' ⟨rfl, rfl⟩
    have hbk : (w.setCell ⟨b, 0, none⟩ (.pointer (some ⟨b, 0, none⟩))).heap[b]? = some (.cells #[.pointer (some ⟨b, 0, none⟩), v] 53 (0, 0)) := by
      rw [heap_setCell_same w b 0 _ _ _ h2]; rfl
    exact ⟨rfl, hbk, ownsRow_setCell_other h3 h4 _, (Below.refl B w).setCell (p := ⟨b, 0, none⟩) hB _⟩
  · refine (copycheck_old b w c0).mono ?_
    rintro e w' ⟨rfl, rfl⟩
    exact ⟨rfl, h2, h3, Below.refl _ _⟩

/-- room for m more behind n -/
def Room (v : Value) (n m : Nat) : Prop := m = 0 ∨ ∃ A cap, v = .slice A n cap ∧ n + m ≤ cap
theorem Room.less {v : Value} {n m k : Nat} (h : Room v n m) (hk : k ≤ m) : Room v n k := by
  rcases h with h | ⟨A, cap, h1, h2⟩
  · exact .inl (by omega)
  · exact .inr ⟨A, cap, h1, by omega⟩
/-- a builder in a block of its own, from B on, the bytes that it holds, and for how many more it has room -/
def BldR (w : World) (B b : Nat) (l : List UInt8) (m : Nat) : Prop :=
  ∃ p v, Self b p ∧ B ≤ b ∧ w.heap[b]? = some (.cells #[p, v] 53 (0, 0)) ∧ w.ownsRow B 5 1 v l.length (cs l) ∧ v.ownBlock ≠ some b ∧ Room v l.length m
/-- one that nothing was written to, nor grown -/
def BldN (w : World) (B b : Nat) : Prop :=
  ∃ p, Self b p ∧ B ≤ b ∧ w.heap[b]? = some (.cells #[p, .slice none 0 0] 53 (0, 0))
theorem BldN.new (w : World) : BldN (w.alloc (.cells #[.pointer none, .slice none 0 0] 53)) w.heap.size w.heap.size := ⟨_, .inl rfl, Nat.le_refl _, heap_alloc_new w _⟩
theorem BldN.bld {w : World} {B b : Nat} (h : BldN w B b) : BldR w B b [] 0 := by
  obtain ⟨p, h1, h2, h3⟩ := h
  exact ⟨p, _, h1, h2, h3, by simpa [cs] using World.ownsRow_nil _ _ _ _, by simp [Value.ownBlock], .inl rfl⟩
theorem BldR.lt {w : World} {B b : Nat} {l : List UInt8} {m : Nat} (h : BldR w B b l m) : b < w.heap.size := by
  obtain ⟨p, v, _, _, h2, _⟩ := h
  exact (Array.getElem?_eq_some_iff.1 h2).1
theorem BldR.less {w : World} {B b : Nat} {l : List UInt8} {m k : Nat} (h : BldR w B b l m) (hk : k ≤ m) : BldR w B b l k := by
  obtain ⟨p, v, h1, h2, h3, h4, h5, h6⟩ := h
  exact ⟨p, v, h1, h2, h3, h4, h5, h6.less hk⟩
theorem BldR.below {w w' : World} {B b : Nat} {l : List UInt8} {m : Nat} (h : BldR w B b l m) (hb : Below w.heap.size w w') : BldR w' B b l m := by
  have hl := h.lt
  obtain ⟨p, v, h1, h2, h3, h4, h5, h6⟩ := h
  exact ⟨p, v, h1, h2, (hb.block b hl).trans h3, own_kept (M := fun _ => False) h4 (Kept.of_below hb) fun _ _ h => h, h5, h6⟩
theorem BldR.is {w : World} {B b : Nat} {l : List UInt8} {m : Nat} (h : BldR w B b l m) : Lib.IsBuilder 53 5 B b (cs l) w := by
  obtain ⟨p, v, h1, h2, h3, h4, h5, h6⟩ := h
  have hl : (cs l).length = l.length := by simp [cs]
  rw [← hl] at h4
  rcases h1 with rfl | rfl
  · exact .inl ⟨h2, v, h3, h4, h5⟩
  · exact .inr ⟨h2, v, h3, h4, h5⟩
theorem bstring_any {B b : Nat} {l : List UInt8} {m : Nat} {w : World} (h : BldR w B b l m) (hBw : B ≤ w.heap.size) :
    Calls Try.prog 21 #[.pointer (some ⟨b, 0, none⟩)] w fun e w' => e = .returned (.string (tx l)) ∧ Below B w w' := Builder_String_any B b l w h.is hBw

/-- one byte put behind an owned row: room is kept -/
theorem run_append_bld (w : World) (base : Nat) (ty : TypeId) {v : Value} {n : Nat} {xs : List Value} (hown : w.ownsRow base 5 1 v n xs) {m : Nat} (hr : Room v n m) (a : Addr) (c : Nat) (u : Value) (hu : ∀ j x, [u][j]? = some x → w.cell? (a.add j) = some x) (h1 : ∀ x ∈ [u], x.oneCell' = true)
    (h : 1 ≤ m ∨ n + 1 ≤ 140737488355328) (hbase : base ≤ w.heap.size) :
    ∃ v' w', (Builtin.append_ #[35, 35] ty #[v, .slice (some a) 1 c]).run Try.prog w = .ok v' w' ∧ w'.ownsRow base 5 1 v' (n + 1) (xs ++ [u]) ∧ w.grownBy w' v.ownBlock ∧ Room v' (n + 1) (m - 1) := by
  obtain ⟨i0, hi, hz0, hz1, hz2⟩ := info_parts fd_info_u8
  by_cases hm : m = 0
  · subst hm
    obtain ⟨v', w', r1, r2, r3, _⟩ := run_append_own (P := Try.prog) w base 35 ty 5 i0 (.int .u8 0) 1 1 Try.underlying35 hi hz0 hz1 hz2 rfl (by decide) v n xs hown a 1 c [u] rfl hu h1 (by unfold maxLen; omega) (by omega) hbase
    exact ⟨v', w', r1, r2, r3, .inl rfl⟩
  · rcases hr with hr | ⟨A, cap, rfl, hcap⟩
    · exact absurd hr hm
    · rcases hown.2 with ⟨e, _⟩ | ⟨g, cap', cur, e, hbg, hg, hnc, hcm, hcs, htake⟩
      · injection e with e1 e2 e3; omega
      · injection e with e1 e2 e3
        subst e1; subst e3
        have hxl : xs.length = n := by simpa using hown.1
        have hfit : n * i0.size + [u].length ≤ cur.size := by rw [hz1]; simp; omega
        have hrr := run_append_room (P := Try.prog) w 35 ty 5 i0 Try.underlying35 hi g n cap cur hg a 1 c [u] (by rw [hz1]; rfl) hu h1 (by omega) hfit
        rw [hz1] at hrr
        refine ⟨_, _, hrr, ⟨by simp [hxl], .inr ⟨g, cap, _, rfl, hbg, setRow_heap w g cur _ _ _ hg, by omega, hcm, ?_, ?_⟩⟩, ⟨rfl, rfl, rfl, by simp, fun k _ hk => setRow_other w g k _ (fun e => hk (by simp [Value.ownBlock, e]))⟩, .inr ⟨_, cap, rfl, by omega⟩⟩
        · simp only [List.size_toArray, List.length_append, List.length_take, List.length_drop, Array.length_toList, List.length_singleton]
          omega
        · rw [htake]
          have : (n + 1) * 1 = (xs ++ [u]).length := by simp [hxl]
          rw [this]
          exact List.take_left
theorem wpList_append_bld {ops : Array Oper} {rest : List Oper} {o : Oper} {a : Act} {w : World} {Q : Exit → Act → World → Prop} (hgd : o.guard = none) (sl x : Operand)
    (ho : o.op = .call { callee := .builtin .append, args := #[sl, x], argTypes := #[35, 35] })
    (base : Nat) {v : Value} {n : Nat} {xs : List Value} (hs : a.eval sl = v) (hown : w.ownsRow base 5 1 v n xs) {m : Nat} (hr : Room v n m) (ad : Addr) (c : Nat) (u : Value) (hx : a.eval x = .slice (some ad) 1 c) (hu : ∀ j x, [u][j]? = some x → w.cell? (ad.add j) = some x) (h1 : ∀ x ∈ [u], x.oneCell' = true)
    (hb : 1 ≤ m ∨ n + 1 ≤ 140737488355328) (hbase : base ≤ w.heap.size)
    (h : ∀ v' w', w'.ownsRow base 5 1 v' (n + 1) (xs ++ [u]) → w.grownBy w' v.ownBlock → Room v' (n + 1) (m - 1) → wpList Try.prog ops Q rest (a.put o.dst v') w') : wpList Try.prog ops Q (o :: rest) a w :=
  wpList_plain hgd fun _ hK => by
    obtain ⟨v', w', hrun, h2, h3, h4⟩ := run_append_bld w base o.type hown hr ad c u hu h1 hb hbase
    unfold Oper.wp execOp
    simp only [ho, resolve, invoke, builtin, Sem.run_bind, Sem.run_pure, Result.andThen_ok, List.map_toArray, List.map_cons, List.map_nil, hs, hx, hrun]
    exact hK _ _ (h v' w' h2 h3 h4)

set_option maxHeartbeats 3200000 in
theorem wbyte_any (B b : Nat) (l : List UInt8) (m : Nat) (x : UInt8) (w : World) (h : BldR w B b l m) (hm : 1 ≤ m ∨ l.length + 1 ≤ 140737488355328) (hBw : B ≤ w.heap.size) :
    Calls Try.prog 20 #[.pointer (some ⟨b, 0, none⟩), .int .u8 (x.toNat : Int)] w fun e w' => e = .returned .nilIface ∧ BldR w' B b (l ++ [x]) (m - 1) ∧ Below B w w' := by
  obtain ⟨p, v, hp, hB, h2, h3, h4, h5⟩ := h
  have hlt : b < w.heap.size := (Array.getElem?_eq_some_iff.1 h2).1
  obtain ⟨L, hL⟩ : ∃ L, L = l ++ [x] := ⟨_, rfl⟩
  rw [← hL]
  have HC := Lib.hid (copycheck_any hp hB h2 h3 h4)
  have H5 := Lib.hid h5
  have HCS : Hid (cs l ++ [.int .u8 (x.toNat : Int)] = cs L) := Lib.hid (by simp [cs, hL])
  have HLL : Hid (l.length + 1 = L.length) := Lib.hid (by simp [hL])
  clear h5 h3 h2 hp hL
  go_enter Try.func20, Try.ntmps20
  go_wp2_with fail
  refine HC.out.mono ?_
  rintro e w1 ⟨rfl, g2, g3, g5⟩
  have hsz := g5.size
  have hlt1 : b < w1.heap.size := (Array.getElem?_eq_some_iff.1 g2).1
  have c1 : w1.cell? ⟨b, 1, none⟩ = some v := by rw [Lib.cell_of_heap g2]; rfl
  go_wp2_with (at_builtin; refine wpList_append_bld rfl (.tmp 11) (.tmp 13) rfl B rfl (g3.alloc _) H5.out ⟨w1.heap.size, 0, none⟩ 1 (.int .u8 (x.toNat : Int)) rfl ?c2 ?c3 hm ?c5 ?_)
  case c2 => exact one_new _ _ _
  case c3 => exact one_cell _ rfl
  case c5 => simp; omega
  intro v' w2 hown' hgrow hroom
  have hb1 : (w1.alloc (.cells #[.int .u8 (x.toNat : Int)] 5)).heap[b]? = some (.cells #[.pointer (some ⟨b, 0, none⟩), v] 53 (0, 0)) := (heap_alloc_old w1 _ hlt1).trans g2
  have hb2 : w2.heap[b]? = some (.cells #[.pointer (some ⟨b, 0, none⟩), v] 53 (0, 0)) := by
    rw [hgrow.block b (by simp; omega) (fun e => h4 e.symm)]
    exact hb1
  have d1 : w2.cell? ⟨b, 1, none⟩ = some v := by rw [Lib.cell_of_heap hb2]; rfl
  have f1 : w2.frozen? ⟨b, 1, none⟩ = false := Lib.frozen_of_heap hb2 1
  have hlow : ∀ k, v.ownBlock = some k → B ≤ k := fun k hk => (g3.lt k hk).1
  have hba : Below B w (w1.alloc (.cells #[.int .u8 (x.toNat : Int)] 5)) := g5.alloc (by omega) _
  have hbg : Below B w w2 := hba.grown hgrow (by simp; omega) hlow
  rw [HCS.out, HLL.out] at hown'
  rw [HLL.out] at hroom
  obtain ⟨A', c', rfl, hnl, _, _⟩ := own_form hown'
  clear hnl
  have HR := Lib.hid hroom
  have HO := Lib.hid hown'
  have HB := Lib.hid (hbg.setCell (p := ⟨b, 1, none⟩) hB (.slice A' L.length c'))
  have HB2 := Lib.hid hb2
  have hne : (Value.slice A' L.length c').ownBlock ≠ some b := Lib.ownBlock_ne hown' hb2 (by decide)
  clear hown' hgrow g3 g5 hroom hba hbg hb1 hlow
  go_wp2
  go_ret
  refine ⟨rfl, ⟨_, _, .inr rfl, hB, ?_, ownsRow_setCell_other HO.out hne _, hne, HR.out⟩, HB.out⟩
  rw [heap_setCell_same w2 b 1 _ _ _ HB2.out]; rfl
end Go.Proofs.Ytjknpbaegnkdnaa
