/- Texts one behind the other; the document's Bytes and Joined by their contracts. Conditions: those typed. A strings.Builder that a call has made, with room for so many bytes more: what Grow, WriteByte and String do to it. Conditions: those typed. Grow of a strings.Builder. Conditions: those typed. Operations of a statement whose order is open, one by one, each in the very world that it finds. No condition. -/
import Derived.Test.YtccpcjbffibkkaaFh
import Derived.LoopTactic
import Derived.WalkMore
import Derived.Lib.IndexBytes
import Derived.Test.YtccpcjbffibkkaaBld
import Derived.Test.YtccpcjbffibkkaaLaid
import Derived.OneCell
import Derived.Laws.Rows
import Derived.Laws.IdiomCopy
import Derived.Lib.Builder
import Derived.Lib.AppendStr
import Derived.Lib.UnsafeStr
import Derived.Lib.MakeNoZero
import Derived.WalkKit
import Derived.Laws.Externs
import Derived.Test.YtccpcjbffibkkaaArr
import Derived.Test.YtccpcjbffibkkaaGen
import Derived.Laws.AppendOwn
namespace Go.Proofs.Ytccpcjbffibkkaa
set_option maxRecDepth 50000
open Go.RowKit

def stv (l : List ByteArray) : List Value := l.map Value.string
theorem stv_length (l : List ByteArray) : (stv l).length = l.length := by simp [stv]
theorem stv_at (l : List ByteArray) (k : Nat) (h : k < (stv l).length) : (stv l)[k] = .string (l[k]'(by simpa [stv] using h)) := by simp [stv]
/-- all texts' bytes, one text behind the other -/
def jn (l : List ByteArray) : List UInt8 := l.flatMap tl
theorem jn_snoc (l : List ByteArray) (k : Nat) (h : k < l.length) : jn (l.take (k + 1)) = jn (l.take k) ++ tl l[k] := by
  unfold jn; rw [List.take_succ_eq_append_getElem h, List.flatMap_append]; simp
theorem jn_take_le (l : List ByteArray) (k : Nat) : (jn (l.take k)).length ≤ (jn l).length := by
  have e : jn l = jn (l.take k) ++ jn (l.drop k) := by unfold jn; rw [← List.flatMap_append, List.take_append_drop]
  rw [e, List.length_append]; omega
theorem jn_le_one (l : List ByteArray) (M : Nat) (h : ∀ s ∈ l, s.size ≤ M) : ∀ k, k ≤ l.length → (jn (l.take k)).length ≤ k * M
  | 0, _ => by simp [jn]
  | k + 1, hk => by
    rw [jn_snoc l k hk, List.length_append, tl_length, Nat.succ_mul]
    have := jn_le_one l M h k (by omega)
    have := h l[k] (List.getElem_mem hk)
    omega

theorem tx_append (a b : List UInt8) : tx (a ++ b) = tx a ++ tx b := by
  apply tl_inj
  rw [tl_tx]
  unfold tl tx
  rw [ByteArray.data_append]
  simp
end Go.Proofs.Ytccpcjbffibkkaa

namespace Go.Proofs.Ytccpcjbffibkkaa
set_option maxRecDepth 50000
open Go.RowKit

theorem b_size : (Try.prog.info? 61).map (·.size) = some 2 := by kernel_rfl
theorem b_lies : liesAt Try.prog Try.prog.depth 61 (2 / Try.prog.cellsOf 61) 0 61 1 = true := by kernel_rfl
set_option maxHeartbeats 1600000 in
theorem copycheck_new (b : Nat) (w : World) (h0 : w.cell? ⟨b, 0, none⟩ = some (.pointer none)) (hs : w.shape? b = some (61, 2)) (hf : w.frozen? ⟨b, 0, none⟩ = false) :
    Calls Try.prog 42 #[.pointer (some ⟨b, 0, none⟩)] w fun e w' => e = .returned (.tuple #[]) ∧ w' = w.setCell ⟨b, 0, none⟩ (.pointer (some ⟨b, 0, none⟩)) := by
  obtain ⟨j, hj, hjs⟩ := Option.map_eq_some_iff.1 b_size
  have k1 := Lib.run_to_unsafe w ⟨b, 0, none⟩ Try.underlying59 Try.underlying100 hj (by rw [hjs]; decide) hs (Nat.zero_lt_succ 1)
  have k2 : (callFunc 52 #[.pointer (some ⟨b, 0, none⟩)]).run Try.prog w = .ok (.value (.pointer (some ⟨b, 0, none⟩))) w := by
    rw [run_callFunc_extern Try.func52 (by kernel_rfl) (by kernel_rfl) (by kernel_rfl) (e := Extern.AbiNoEscape.same) (by kernel_rfl)]
    rfl
  have k3 := Lib.run_from_unsafe (dst := 59) w ⟨b, 0, none⟩ Try.underlying100 Try.underlying59 hj hs b_lies
  go_enter Try.func42, Try.ntmps42
  go_wp2
  go_end0
  exact ⟨rfl, rfl⟩
set_option maxHeartbeats 1600000 in
theorem copycheck_old (b : Nat) (w : World) (h0 : w.cell? ⟨b, 0, none⟩ = some (.pointer (some ⟨b, 0, none⟩))) :
    Calls Try.prog 42 #[.pointer (some ⟨b, 0, none⟩)] w fun e w' => e = .returned (.tuple #[]) ∧ w' = w := by
  obtain ⟨j, hj, hjs⟩ := Option.map_eq_some_iff.1 b_size
  have k1 := Lib.run_neq_ptr_same (P := Try.prog) w ⟨b, 0, none⟩ Try.underlying59 hj
  go_enter Try.func42, Try.ntmps42
  go_wp2
  go_end0
  exact ⟨rfl, rfl⟩
/-- a builder's first cell: nothing, or itself -/
def Self (b : Nat) (p : Value) : Prop := p = .pointer none ∨ p = .pointer (some ⟨b, 0, none⟩)
theorem copycheck_any {B b n : Nat} {xs : List Value} {p v : Value} {w : World} (hp : Self b p) (hB : B ≤ b) (h2 : w.heap[b]? = some (.cells #[p, v] 61 (0, 0))) (h3 : w.ownsRow B 5 1 v n xs) (h4 : v.ownBlock ≠ some b) :
    Calls Try.prog 42 #[.pointer (some ⟨b, 0, none⟩)] w fun e w' => e = .returned (.tuple #[]) ∧ w'.heap[b]? = some (.cells #[.pointer (some ⟨b, 0, none⟩), v] 61 (0, 0)) ∧ w'.ownsRow B 5 1 v n xs ∧ Below B w w' := by
  have c0 : w.cell? ⟨b, 0, none⟩ = some p := by rw [Lib.cell_of_heap h2]; rfl
  rcases hp with rfl | rfl
  · refine (copycheck_new b w c0 (by simp [World.shape?, h2]) (Lib.frozen_of_heap h2 0)).mono ?_
    rintro e w' ⟨rfl, rfl⟩
    have hbk : (w.setCell ⟨b, 0, none⟩ (.pointer (some ⟨b, 0, none⟩))).heap[b]? = some (.cells #[.pointer (some ⟨b, 0, none⟩), v] 61 (0, 0)) := by
      rw [heap_setCell_same w b 0 _ _ _ h2]; rfl
    exact ⟨rfl, hbk, ownsRow_setCell_other h3 h4 _, (Below.refl B w).setCell (p := ⟨b, 0, none⟩) hB _⟩
  · refine (copycheck_old b w c0).mono ?_
    rintro e w' ⟨rfl, rfl⟩
    exact ⟨rfl, h2, h3, Below.refl _ _⟩

/-- room for m more behind n -/
def Room (v : Value) (n m : Nat) : Prop := m = 0 ∨ ∃ A cap, v = .slice A n cap ∧ n + m ≤ cap
theorem Room.less {v : Value} {n m k : Nat} (h : Room v n m) (hk : k ≤ m) : Room v n k := by
  rcases h with h | ⟨A, cap, h1, h2⟩
  · exact .inl (by omega)
  · exact .inr ⟨A, cap, h1, by omega⟩
/-- a builder in a block of its own, from B on, the bytes that it holds, and for how many more it has room -/
def BldR (w : World) (B b : Nat) (l : List UInt8) (m : Nat) : Prop :=
  ∃ p v, Self b p ∧ B ≤ b ∧ w.heap[b]? = some (.cells #[p, v] 61 (0, 0)) ∧ w.ownsRow B 5 1 v l.length (cs l) ∧ v.ownBlock ≠ some b ∧ Room v l.length m
/-- one that nothing was written to, nor grown -/
def BldN (w : World) (B b : Nat) : Prop :=
  ∃ p, Self b p ∧ B ≤ b ∧ w.heap[b]? = some (.cells #[p, .slice none 0 0] 61 (0, 0))
theorem BldN.new (w : World) : BldN (w.alloc (.cells #[.pointer none, .slice none 0 0] 61)) w.heap.size w.heap.size := ⟨_, .inl rfl, Nat.le_refl _, heap_alloc_new w _⟩
theorem BldN.bld {w : World} {B b : Nat} (h : BldN w B b) : BldR w B b [] 0 := by
  obtain ⟨p, h1, h2, h3⟩ := h
  exact ⟨p, _, h1, h2, h3, by simpa [cs] using World.ownsRow_nil _ _ _ _, by simp [Value.ownBlock], .inl rfl⟩
theorem BldR.lt {w : World} {B b : Nat} {l : List UInt8} {m : Nat} (h : BldR w B b l m) : b < w.heap.size := by
  obtain ⟨p, v, _, _, h2, _⟩ := h
  exact (Array.getElem?_eq_some_iff.1 h2).1
theorem BldR.less {w : World} {B b : Nat} {l : List UInt8} {m k : Nat} (h : BldR w B b l m) (hk : k ≤ m) : BldR w B b l k := by
  obtain ⟨p, v, h1, h2, h3, h4, h5, h6⟩ := h
  exact ⟨p, v, h1, h2, h3, h4, h5, h6.less hk⟩
theorem BldR.below {w w' : World} {B b : Nat} {l : List UInt8} {m : Nat} (h : BldR w B b l m) (hb : Below w.heap.size w w') : BldR w' B b l m := by
  have hl := h.lt
  obtain ⟨p, v, h1, h2, h3, h4, h5, h6⟩ := h
  exact ⟨p, v, h1, h2, (hb.block b hl).trans h3, own_kept (M := fun _ => False) h4 (Kept.of_below hb) fun _ _ h => h, h5, h6⟩
theorem BldR.is {w : World} {B b : Nat} {l : List UInt8} {m : Nat} (h : BldR w B b l m) : Lib.IsBuilder 61 5 B b (cs l) w := by
  obtain ⟨p, v, h1, h2, h3, h4, h5, h6⟩ := h
  have hl : (cs l).length = l.length := by simp [cs]
  rw [← hl] at h4
  rcases h1 with rfl | rfl
  · exact .inl ⟨h2, v, h3, h4, h5⟩
  · exact .inr ⟨h2, v, h3, h4, h5⟩
theorem bstring_any {B b : Nat} {l : List UInt8} {m : Nat} {w : World} (h : BldR w B b l m) (hBw : B ≤ w.heap.size) :
    Calls Try.prog 28 #[.pointer (some ⟨b, 0, none⟩)] w fun e w' => e = .returned (.string (tx l)) ∧ Below B w w' := Builder_String_any B b l w h.is hBw

/-- one byte put behind an owned row: room is kept -/
theorem run_append_bld (w : World) (base : Nat) (ty : TypeId) {v : Value} {n : Nat} {xs : List Value} (hown : w.ownsRow base 5 1 v n xs) {m : Nat} (hr : Room v n m) (a : Addr) (c : Nat) (u : Value) (hu : ∀ j x, [u][j]? = some x → w.cell? (a.add j) = some x) (h1 : ∀ x ∈ [u], x.oneCell' = true)
    (h : 1 ≤ m ∨ n + 1 ≤ 140737488355328) (hbase : base ≤ w.heap.size) :
    ∃ v' w', (Builtin.append_ #[48, 48] ty #[v, .slice (some a) 1 c]).run Try.prog w = .ok v' w' ∧ w'.ownsRow base 5 1 v' (n + 1) (xs ++ [u]) ∧ w.grownBy w' v.ownBlock ∧ Room v' (n + 1) (m - 1) := by
  obtain ⟨i0, hi, hz0, hz1, hz2⟩ := info_parts fd_info_u8
  by_cases hm : m = 0
  · subst hm
    obtain ⟨v', w', r1, r2, r3, _⟩ := run_append_own (P := Try.prog) w base 48 ty 5 i0 (.int .u8 0) 1 1 Try.underlying48 hi hz0 hz1 hz2 rfl (by decide) v n xs hown a 1 c [u] rfl hu h1 (by unfold maxLen; omega) (by omega) hbase
    exact ⟨v', w', r1, r2, r3, .inl rfl⟩
  · rcases hr with hr | ⟨A, cap, rfl, hcap⟩
    · exact absurd hr hm
    · rcases hown.2 with ⟨e, _⟩ | ⟨g, cap', cur, e, hbg, hg, hnc, hcm, hcs, htake⟩
      · injection e with e1 e2 e3; omega
      · injection e with e1 e2 e3
        subst e1; subst e3
        have hxl : xs.length = n := by simpa using hown.1
        have hfit : n * i0.size + [u].length ≤ cur.size := by rw [hz1]; simp; omega
        have hrr := run_append_room (P := Try.prog) w 48 ty 5 i0 Try.underlying48 hi g n cap cur hg a 1 c [u] (by rw [hz1]; rfl) hu h1 (by omega) hfit
        rw [hz1] at hrr
        refine ⟨_, _, hrr, ⟨by simp [hxl], .inr ⟨g, cap, _, rfl, hbg, setRow_heap w g cur _ _ _ hg, by omega, hcm, ?_, ?_⟩⟩, ⟨rfl, rfl, rfl, by simp, fun k _ hk => setRow_other w g k _ (fun e => hk (by simp [Value.ownBlock, e]))⟩, .inr ⟨_, cap, rfl, by omega⟩⟩
        · simp only [List.size_toArray, List.length_append, List.length_take, List.length_drop, Array.length_toList, List.length_singleton]
          omega
        · rw [htake]
          have : (n + 1) * 1 = (xs ++ [u]).length := by simp [hxl]
          rw [this]
          exact List.take_left
theorem wpList_append_bld {ops : Array Oper} {rest : List Oper} {o : Oper} {a : Act} {w : World} {Q : Exit → Act → World → Prop} (hgd : o.guard = none) (sl x : Operand)
    (ho : o.op = .call { callee := .builtin .append, args := #[sl, x], argTypes := #[48, 48] })
    (base : Nat) {v : Value} {n : Nat} {xs : List Value} (hs : a.eval sl = v) (hown : w.ownsRow base 5 1 v n xs) {m : Nat} (hr : Room v n m) (ad : Addr) (c : Nat) (u : Value) (hx : a.eval x = .slice (some ad) 1 c) (hu : ∀ j x, [u][j]? = some x → w.cell? (ad.add j) = some x) (h1 : ∀ x ∈ [u], x.oneCell' = true)
    (hb : 1 ≤ m ∨ n + 1 ≤ 140737488355328) (hbase : base ≤ w.heap.size)
    (h : ∀ v' w', w'.ownsRow base 5 1 v' (n + 1) (xs ++ [u]) → w.grownBy w' v.ownBlock → Room v' (n + 1) (m - 1) → wpList Try.prog ops Q rest (a.put o.dst v') w') : wpList Try.prog ops Q (o :: rest) a w :=
  wpList_plain hgd fun _ hK => by
    obtain ⟨v', w', hrun, h2, h3, h4⟩ := run_append_bld w base o.type hown hr ad c u hu h1 hb hbase
    unfold Oper.wp execOp
    simp only [ho, resolve, invoke, builtin, Sem.run_bind, Sem.run_pure, Result.andThen_ok, List.map_toArray, List.map_cons, List.map_nil, hs, hx, hrun]
    exact hK _ _ (h v' w' h2 h3 h4)

set_option maxHeartbeats 3200000 in
theorem wbyte_any (B b : Nat) (l : List UInt8) (m : Nat) (x : UInt8) (w : World) (h : BldR w B b l m) (hm : 1 ≤ m ∨ l.length + 1 ≤ 140737488355328) (hBw : B ≤ w.heap.size) :
    Calls Try.prog 27 #[.pointer (some ⟨b, 0, none⟩), .int .u8 (x.toNat : Int)] w fun e w' => e = .returned .nilIface ∧ BldR w' B b (l ++ [x]) (m - 1) ∧ Below B w w' := by
  obtain ⟨p, v, hp, hB, h2, h3, h4, h5⟩ := h
  have hlt : b < w.heap.size := (Array.getElem?_eq_some_iff.1 h2).1
  obtain ⟨L, hL⟩ : ∃ L, L = l ++ [x] := ⟨_, rfl⟩
  rw [← hL]
  have HC := Lib.hid (copycheck_any hp hB h2 h3 h4)
  have H5 := Lib.hid h5
  have HCS : Hid (cs l ++ [.int .u8 (x.toNat : Int)] = cs L) := Lib.hid (by simp [cs, hL])
  have HLL : Hid (l.length + 1 = L.length) := Lib.hid (by simp [hL])
  clear h5 h3 h2 hp hL
  go_enter Try.func27, Try.ntmps27
  go_wp2_with fail
  refine HC.out.mono ?_
  rintro e w1 ⟨rfl, g2, g3, g5⟩
  have hsz := g5.size
  have hlt1 : b < w1.heap.size := (Array.getElem?_eq_some_iff.1 g2).1
  have c1 : w1.cell? ⟨b, 1, none⟩ = some v := by rw [Lib.cell_of_heap g2]; rfl
  go_wp2_with (at_builtin; refine wpList_append_bld rfl (.tmp 11) (.tmp 13) rfl B rfl (g3.alloc _) H5.out ⟨w1.heap.size, 0, none⟩ 1 (.int .u8 (x.toNat : Int)) rfl ?c2 ?c3 hm ?c5 ?_)
  case c2 => exact one_new _ _ _
  case c3 => exact one_cell _ rfl
  case c5 => simp; omega
  intro v' w2 hown' hgrow hroom
  have hb1 : (w1.alloc (.cells #[.int .u8 (x.toNat : Int)] 5)).heap[b]? = some (.cells #[.pointer (some ⟨b, 0, none⟩), v] 61 (0, 0)) := (heap_alloc_old w1 _ hlt1).trans g2
  have hb2 : w2.heap[b]? = some (.cells #[.pointer (some ⟨b, 0, none⟩), v] 61 (0, 0)) := by
    rw [hgrow.block b (by simp; omega) (fun e => h4 e.symm)]
    exact hb1
  have d1 : w2.cell? ⟨b, 1, none⟩ = some v := by rw [Lib.cell_of_heap hb2]; rfl
  have f1 : w2.frozen? ⟨b, 1, none⟩ = false := Lib.frozen_of_heap hb2 1
  have hlow : ∀ k, v.ownBlock = some k → B ≤ k := fun k hk => (g3.lt k hk).1
  have hba : Below B w (w1.alloc (.cells #[.int .u8 (x.toNat : Int)] 5)) := g5.alloc (by omega) _
  have hbg : Below B w w2 := hba.grown hgrow (by simp; omega) hlow
  rw [HCS.out, HLL.out] at hown'
  rw [HLL.out] at hroom
  obtain ⟨A', c', rfl, hnl, _, _⟩ := own_form hown'
  clear hnl
  have HR := Lib.hid hroom
  have HO := Lib.hid hown'
  have HB := Lib.hid (hbg.setCell (p := ⟨b, 1, none⟩) hB (.slice A' L.length c'))
  have HB2 := Lib.hid hb2
  have hne : (Value.slice A' L.length c').ownBlock ≠ some b := Lib.ownBlock_ne hown' hb2 (by decide)
  clear hown' hgrow g3 g5 hroom hba hbg hb1 hlow
  go_wp2
  go_ret
  refine ⟨rfl, ⟨_, _, .inr rfl, hB, ?_, ownsRow_setCell_other HO.out hne _, hne, HR.out⟩, HB.out⟩
  rw [heap_setCell_same w2 b 1 _ _ _ HB2.out]; rfl
end Go.Proofs.Ytccpcjbffibkkaa

namespace Go.Proofs.Ytccpcjbffibkkaa
set_option maxRecDepth 50000
open Go.RowKit

theorem size_u8 : (Try.prog.info? 5).map (·.size) = some 1 := by kernel_rfl
/-- an owned row copied into the front of a new block -/
theorem copy_front {w : World} {base g n cap' : Nat} {v : Value} {xs : List Value} {C : Array Value} (ty : TypeId) (hg : w.heap[g]? = some (.cells C 5 (0, 0))) (hn : n ≤ C.size) (hown : w.ownsRow base 5 1 v n xs) (h1 : ∀ u ∈ xs, u.oneCell' = true) :
    (Builtin.copy_ #[48, 48] ty #[.slice (some ⟨g, 0, none⟩) n cap', v]).run Try.prog w = .ok (goInt (n : Int)) (w.setRow g (xs ++ C.toList.drop n).toArray) := by
  have hxl : xs.length = n := by simpa using hown.1
  by_cases h0 : n = 0
  · subst h0
    have hx : xs = [] := List.eq_nil_of_length_eq_zero hxl
    subst hx
    have e : (([] : List Value) ++ C.toList.drop 0).toArray = C := by simp
    rw [e, setRow_self w g C _ _ hg]
    rcases hown.2 with ⟨rfl, _⟩ | ⟨g', cap, cur, rfl, _⟩
    · exact run_copy_none w _ _ _ 5 _ _ 0 cap' 0 0 Try.underlying48 size_u8 rfl
    · exact run_copy_none w _ _ _ 5 _ _ 0 cap' 0 cap Try.underlying48 size_u8 rfl
  · rcases hown.2 with ⟨_, e⟩ | ⟨g', cap, cur, rfl, _⟩
    · exact absurd e h0
    · have hr := run_copy_row (P := Try.prog) w 48 48 ty 5 g 0 n cap' ⟨g', 0, none⟩ n cap C 5 xs Try.underlying48 size_u8 hg (by rw [hxl]; exact (Nat.min_self n).symm) (hown.cells rfl) (by omega) h1
      rw [hxl] at hr
      simpa using hr

set_option maxHeartbeats 3200000 in
theorem grow_any {B b n k cap : Nat} {A : Option Addr} {l : List UInt8} {w : World} (hB : B ≤ b) (h2 : w.heap[b]? = some (.cells #[.pointer (some ⟨b, 0, none⟩), .slice A n cap] 61 (0, 0))) (h3 : w.ownsRow B 5 1 (.slice A n cap) n (cs l)) (hnc : n ≤ cap) (hk : 2 * cap + k ≤ 281474976710656) (hBw : B ≤ w.heap.size) :
    Calls Try.prog 43 #[.pointer (some ⟨b, 0, none⟩), .int .i64 (k : Int)] w fun e w' => e = .returned (.tuple #[]) ∧ (∃ v, w'.heap[b]? = some (.cells #[.pointer (some ⟨b, 0, none⟩), v] 61 (0, 0)) ∧ w'.ownsRow B 5 1 v n (cs l) ∧ v.ownBlock ≠ some b ∧ Room v n (2 * cap + k - n)) ∧ Below B w w' := by
  obtain ⟨C, hrun, hle, hmax⟩ := Lib.run_makeNoZero (P := Try.prog) w.drew #[3] 48 5 Try.underlying48 (2 * cap + k) hk
  have hlt : b < w.heap.size := (Array.getElem?_eq_some_iff.1 h2).1
  have hcall : (callFunc 53 #[.int .i64 (2 * (cap : Int) + (k : Int))]).run Try.prog w.drew = .ok (.value (.slice (some ⟨w.drew.heap.size, 0, none⟩) (2 * cap + k) C.size)) (w.drew.drew.drew.alloc (.cells C 5)) := by
    rw [show (2 * (cap : Int) + (k : Int)) = ((2 * cap + k : Nat) : Int) by omega, run_callFunc_extern Try.func53 (by kernel_rfl) (by kernel_rfl) (by kernel_rfl) (e := Extern.BytealgMakeNoZero.makeNoZero #[3] #[48]) (by kernel_rfl), hrun]
    rfl
  have hwm : IntKind.i64.wrap (2 * (cap : Int)) = 2 * (cap : Int) := by rw [IntKind.wrap_i64]; omega
  have hwa : IntKind.i64.wrap (2 * (cap : Int) + (k : Int)) = 2 * (cap : Int) + (k : Int) := by rw [IntKind.wrap_i64]; omega
  have c1 : w.drew.cell? ⟨b, 1, none⟩ = some (.slice A n cap) := by
    have : w.drew.heap[b]? = _ := h2
    rw [Lib.cell_of_heap this]; rfl
  have c2 : (w.alloc (.cells C 5)).cell? ⟨b, 1, none⟩ = some (.slice A n cap) := by
    have : (w.alloc (.cells C 5)).heap[b]? = _ := (Lib.alloc_old w _ b hlt).trans h2
    rw [Lib.cell_of_heap this]; rfl
  have f2 : (w.alloc (.cells C 5)).frozen? ⟨b, 1, none⟩ = false := Lib.frozen_of_heap ((Lib.alloc_old w _ b hlt).trans h2) 1
  have hnC : n ≤ C.size := by omega
  have H2 := Lib.hid h2
  have H3 := Lib.hid h3
  clear hrun h2 h3
  go_enter Try.func43, Try.ntmps43
  go_wp2
  go_region
  obtain ⟨w3, hw3⟩ : ∃ w3, w3 = (w.alloc (.cells C 5)).drew.drew.drew := ⟨_, rfl⟩
  have e0 : w3.heap = (w.alloc (.cells C 5)).heap := by rw [hw3]; rfl
  rw [← hw3]
  have g0 : w3.heap[w.heap.size]? = some (.cells C 5 (0, 0)) := by rw [e0]; exact heap_alloc_new w _
  have g1 : w3.heap[b]? = some (.cells #[.pointer (some ⟨b, 0, none⟩), .slice A n cap] 61 (0, 0)) := by rw [e0]; exact (heap_alloc_old w _ hlt).trans H2.out
  have g2 : w3.ownsRow B 5 1 (.slice A n cap) n (cs l) := by rw [hw3]; exact H3.out.alloc _
  have HB3 : Hid (Below B w w3) := Lib.hid (by rw [hw3]; exact (((((Below.refl B w).alloc hBw _).drew).drew).drew))
  clear c1 c2 f2 hcall hwm hwa hw3 e0
  have hcp := copy_front (cap' := C.size) 3 g0 hnC g2 (cs_one l)
  obtain ⟨w4, hw4⟩ : ∃ w4, w4 = w3.setRow w.heap.size (cs l ++ C.toList.drop n).toArray := ⟨_, rfl⟩
  rw [← hw4] at hcp
  have c1 : w3.cell? ⟨b, 1, none⟩ = some (.slice A n cap) := by rw [Lib.cell_of_heap g1]; rfl
  have k0 : w4.heap[w.heap.size]? = some (.cells (cs l ++ C.toList.drop n).toArray 5 (0, 0)) := by rw [hw4]; exact setRow_heap w3 _ _ _ _ _ g0
  have k1 : w4.heap[b]? = some (.cells #[.pointer (some ⟨b, 0, none⟩), .slice A n cap] 61 (0, 0)) := by rw [hw4, setRow_other w3 _ b _ (by omega)]; exact g1
  have HB4 : Hid (Below B w w4) := Lib.hid (by rw [hw4]; exact below_setRow HB3.out hBw _)
  have c2 : w4.cell? ⟨b, 1, none⟩ = some (.slice A n cap) := by rw [Lib.cell_of_heap k1]; rfl
  have f2 : w4.frozen? ⟨b, 1, none⟩ = false := Lib.frozen_of_heap k1 1
  have hcl : (cs l).length = n := by have := g2.1; omega
  have HO : Hid (w4.ownsRow B 5 1 (.slice (some ⟨w.heap.size, 0, none⟩) n C.size) n (cs l)) := Lib.hid ⟨g2.1, .inr ⟨w.heap.size, C.size, _, rfl, hBw, k0, hnC, hmax (by unfold maxLen; omega), by simp; omega, by
    rw [Nat.mul_one, ← hcl]; exact List.take_left⟩⟩
  have K1 := Lib.hid k1
  have HL := Lib.hid hle
  have HLT := Lib.hid hlt
  clear hw4 g0 g1 g2 k0 k1 hcl hle hmax H2 H3 HB3 hlt
  go_wp2
  go_end0
  have hne : (Value.slice (some ⟨w.heap.size, 0, none⟩) n C.size).ownBlock ≠ some b := by simp only [Value.ownBlock]; intro e; injection e with e; have := HLT.out; omega
  refine ⟨rfl, ⟨_, ?_, ownsRow_setCell_other HO.out hne _, hne, .inr ⟨_, _, rfl, ?_⟩⟩, HB4.out.setCell (p := ⟨b, 1, none⟩) hB _⟩
  · rw [heap_setCell_same w4 b 1 _ _ _ K1.out]; rfl
  · have := HL.out; omega

theorem below_undrawn {B q : Nat} {w w' : World} (h : Below B (w.drewN q) w') : Below B w w' := ⟨h.os, h.tape, h.output, h.size, h.block⟩
set_option maxHeartbeats 3200000 in
theorem ggrow_any {B b n k cap : Nat} {A : Option Addr} {p : Value} {l : List UInt8} {w : World} (hp : Self b p) (hB : B ≤ b) (h2 : w.heap[b]? = some (.cells #[p, .slice A n cap] 61 (0, 0))) (h3 : w.ownsRow B 5 1 (.slice A n cap) n (cs l)) (h4 : (Value.slice A n cap).ownBlock ≠ some b) (hnc : n ≤ cap) (hcm : cap ≤ maxLen) (hk : cap < n + k → 2 * cap + k ≤ 281474976710656) (hBw : B ≤ w.heap.size) :
    Calls Try.prog 26 #[.pointer (some ⟨b, 0, none⟩), .int .i64 (k : Int)] w fun e w' => e = .returned (.tuple #[]) ∧ (∃ v, w'.heap[b]? = some (.cells #[.pointer (some ⟨b, 0, none⟩), v] 61 (0, 0)) ∧ w'.ownsRow B 5 1 v n (cs l) ∧ v.ownBlock ≠ some b ∧ Room v n k ∧ (n + k ≤ cap → v = .slice A n cap)) ∧ Below B w w' := by
  have HC := Lib.hid (copycheck_any hp hB h2 h3 h4)
  have H4 := Lib.hid h4
  have hsub : IntKind.i64.wrap ((cap : Int) - (n : Int)) = (cap : Int) - (n : Int) := by rw [IntKind.wrap_i64]; unfold maxLen at hcm; omega
  have hk0 : decide ((k : Int) < 0) = false := by simp
  clear h2 h3 hp h4
  by_cases hroom : cap < n + k
  · have hd : decide ((cap : Int) - (n : Int) < (k : Int)) = true := by simp; omega
    have HK := Lib.hid (hk hroom)
    have HNR := Lib.hid hroom
    clear hk
    go_enter Try.func26, Try.ntmps26
    go_wp2_with fail
    refine HC.out.mono ?_
    rintro e w1 ⟨rfl, g2, g3, g5⟩
    have c1 : w1.cell? ⟨b, 1, none⟩ = some (.slice A n cap) := by rw [Lib.cell_of_heap g2]; rfl
    have hBw1 : B ≤ w1.heap.size := Nat.le_trans hBw g5.size
    have G := Lib.hid (fun q => grow_any (w := w1.drewN q) hB g2 g3 hnc HK.out hBw1)
    have G5 := Lib.hid g5
    clear g2 g3 g5 HC
    go_wp2
    go_quiet (fail)
    go_wp2_with fail
    refine (G.out _).mono ?_
    rintro e w2 ⟨rfl, ⟨v, k1, k2, k3, k4⟩, k5⟩
    have K5 := Lib.hid (G5.out.trans (below_undrawn k5))
    have K1 := Lib.hid k1
    have K2 := Lib.hid k2
    clear k1 k2 k5
    go_wp2
    go_end0
    exact ⟨rfl, ⟨v, K1.out, K2.out, k3, k4.less (by omega), fun h => by have := HNR.out; omega⟩, K5.out⟩
  · have hd : decide ((cap : Int) - (n : Int) < (k : Int)) = false := by simp; omega
    have HR := Lib.hid hroom
    clear hk hroom
    go_enter Try.func26, Try.ntmps26
    go_wp2_with fail
    refine HC.out.mono ?_
    rintro e w1 ⟨rfl, g2, g3, g5⟩
    have c1 : w1.cell? ⟨b, 1, none⟩ = some (.slice A n cap) := by rw [Lib.cell_of_heap g2]; rfl
    have G2 := Lib.hid g2
    have G3 := Lib.hid g3
    have G5 := Lib.hid g5
    clear g2 g3 g5 HC
    go_wp2
    go_quiet (fail)
    go_wp2
    go_end0
    exact ⟨rfl, ⟨_, G2.out, G3.out, H4.out, .inr ⟨_, _, rfl, by have := HR.out; omega⟩, fun _ => rfl⟩, below_drewN G5.out _⟩
/-- Grow of one that nothing was written to, nor grown: room for so many -/
theorem grow_new {B b k : Nat} {w : World} (h : BldN w B b) (hk : k ≤ 281474976710656) (hBw : B ≤ w.heap.size) :
    Calls Try.prog 26 #[.pointer (some ⟨b, 0, none⟩), .int .i64 (k : Int)] w fun e w' => e = .returned (.tuple #[]) ∧ BldR w' B b [] k ∧ (k = 0 → BldN w' B b) ∧ Below B w w' := by
  obtain ⟨p, h1, h2, h3⟩ := h
  refine (ggrow_any (n := 0) (cap := 0) (A := none) (l := []) h1 h2 h3 (World.ownsRow_nil _ _ _ _) (by simp [Value.ownBlock]) (Nat.le_refl _) (Nat.zero_le _) (fun _ => by omega) hBw).mono ?_
  rintro e w' ⟨rfl, ⟨v, k1, k2, k3, k4, k5⟩, k6⟩
  refine ⟨rfl, ⟨_, v, .inr rfl, h2, k1, k2, k3, k4⟩, fun h0 => ?_, k6⟩
  subst h0
  rw [k5 (Nat.le_refl _)] at k1
  exact ⟨_, .inr rfl, h2, k1⟩
/-- .. of any one -/
theorem grow_more {B b k m : Nat} {l : List UInt8} {w : World} (h : BldR w B b l m) (hk : 3 * (l.length + k) ≤ 281474976710656) (hBw : B ≤ w.heap.size) :
    Calls Try.prog 26 #[.pointer (some ⟨b, 0, none⟩), .int .i64 (k : Int)] w fun e w' => e = .returned (.tuple #[]) ∧ BldR w' B b l k ∧ Below B w w' := by
  obtain ⟨p, v, h1, h2, h3, h4, h5, h6⟩ := h
  obtain ⟨A, c, rfl, _, _, _⟩ := own_form h4
  have hc : l.length ≤ c ∧ c ≤ maxLen := by
    rcases h4.2 with ⟨e, e2⟩ | ⟨g, cap, cur, e, _, _, e1, e2, _⟩
    · injection e with _ _ e3; unfold maxLen; omega
    · injection e with _ _ e3; omega
  refine (ggrow_any h1 h2 h3 h4 h5 hc.1 hc.2 (fun hr => by omega) hBw).mono ?_
  rintro e w' ⟨rfl, ⟨v, k1, k2, k3, k4, _⟩, k6⟩
  exact ⟨rfl, ⟨_, v, .inr rfl, h2, k1, k2, k3, k4⟩, k6⟩
end Go.Proofs.Ytccpcjbffibkkaa

namespace Go.Proofs.Ytccpcjbffibkkaa
set_option maxRecDepth 50000
open Go.RowKit

section
variable {P : Program} {ops : List Oper} {ms : List Nat} {vs : List Value} {W : Nat → World → Prop} {a0 : Act} {Q : Exit → Act → World → Prop}
/-- an operation that leaves memory as it is -/
theorem seq_exact {i : Nat} {o : Oper} (hk : decide (kindOf ops ms i < 2) = true) (H : ∀ a w k, SCtx ops vs a0 i o a → W k w → Does P (fun v w' => v = vs.getD i undef ∧ w' = w) o a w Q) : SPart P ops ms vs W a0 Q i o := by
  intro a w k C hW _ _ _
  rw [if_pos (by simpa using hk)]
  refine Oper.wp_mono ?_ (H a w k C hW)
  rintro a' w' ⟨v, rfl, ⟨rfl, rfl⟩, hb⟩
  exact ⟨rfl, hW⟩
theorem quiet_call {f : FuncId} {args : Array Value} {w : World} {v u : Value} (h : Calls P f args w fun e w' => e = .returned v ∧ w' = w) (hu : v = u) : Calls P f args w fun e w' => ∃ x, e = .returned x ∧ (x = u ∧ w' = w) ∧ Below w.heap.size w w' :=
  h.mono fun e w' ⟨h1, h2⟩ => ⟨v, h1, ⟨hu, h2⟩, by rw [h2]; exact Below.refl _ _⟩
theorem turn_value {a : Act} {w w' : World} {o : Oper} {v : Value} {R : World → Prop} (h : (execOp a.eval o).run P w = .ok (.value v) w') (hR : R w') : o.wp P a w (fun a' w' => a' = a.put o.dst v ∧ R w') Q := by
  unfold Oper.wp
  rw [h]
  exact ⟨rfl, hR⟩
theorem hx_ixt_run {ev : Operand → Value} {x y : Operand} {o : Oper} {t : TypeId} {s : ByteArray} {i : Nat} {w : World} (hop : o.op = .index t x y) (ht : P.underlying t = some .string) (hx : ev x = .string s) (hy : ev y = .int .i64 (i : Int)) (hi : i < s.size) : (execOp ev o).run P w = .ok (.value (.int .u8 ((s[i]'hi).toNat : Int))) w := by
  simp [execOp, hop, hx, hy, run_index_string w t s .i64 (i : Int) ht, hi]
theorem append_run {ev : Operand → Value} {x y : Operand} {o : Oper} {t : TypeId} {v1 v2 v : Value} {w w' : World} (hop : o.op = .call { callee := .builtin .append, args := #[x, y], argTypes := #[t, t] }) (hx : ev x = v1) (hy : ev y = v2) (hr : (Builtin.append_ #[t, t] o.type #[v1, v2]).run P w = .ok v w') : (execOp ev o).run P w = .ok (.value v) w' := by
  simp only [execOp, hop, resolve, invoke, builtin, Sem.run_bind, Sem.run_pure, Result.andThen_ok, List.map_toArray, List.map_cons, List.map_nil, hx, hy, hr]
end
theorem slice_run1 {ev : Operand → Value} {x : Operand} {o : Oper} {z : Int} (w : World) (hop : o.op = .buildSlice 48 1 #[(0, x)]) (hx : ev x = .int .u8 z) : (execOp ev o).run Try.prog w = .ok (.value (.slice (some ⟨w.heap.size, 0, none⟩) 1 1)) (w.alloc (.cells #[.int .u8 z] 5)) := by
  simp [execOp, hop, hx, go_sem]
/-- three worlds, one behind the other -/
def wdec (a b c : World) : Nat → World
  | 0 => a
  | 1 => b
  | _ => c
theorem own_drew0 {w : World} {B : Nat} {e : TypeId} {v : Value} {n : Nat} {xs : List Value} (h : w.ownsRow B e 1 v n xs) : w.drew.ownsRow B e 1 v n xs := h
theorem own_drew {w : World} {B : Nat} {e : TypeId} {v : Value} {n : Nat} {xs : List Value} (h : w.ownsRow B e 1 v n xs) (o : Obj) : (w.drew.alloc o).ownsRow B e 1 v n xs := (own_drew0 h).alloc o
end Go.Proofs.Ytccpcjbffibkkaa
