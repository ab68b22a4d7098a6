/- Feeds of bytes, by their contracts. Conditions: those typed. -/
import Derived.Test.YtfoodaobiknihaaGreatDoorKi
import Derived.Lib.SliceRun
import Derived.Deep.LoopGhost
import Derived.WalkMore
import Derived.Lib.IndexBytes
import Derived.Maps.AppendAt
namespace Go.Proofs.YtfoodaobiknihaaGreatDoor
set_option maxRecDepth 50000
open Go.RowKit
theorem new_good (n : Nat) (lz : Bool) (h1 : 1 ≤ n) (h2 : n ≤ 65536) (w : World) : Calls Tryz.prog 118 #[.int .i64 (n : Int), .bool lz] w fun e w' => e = .returned (.tuple #[.pointer (some ⟨w.heap.size, 0, none⟩), .int .i64 0]) ∧ FeedRow w' w.heap.size n lz (.slice none 0 0) 0 ∧ Below w.heap.size w w' := by
  go_enter Tryz.func118, Tryz.ntmps118
  go_wp2
  go_ret2
  exact ⟨rfl, FeedRow.new w n lz _ 0, (Below.refl _ _).alloc (Nat.le_refl _) _⟩
section
variable {F n t : Nat} {lz : Bool} {v : Value}
theorem total_any (w : World) (h : FeedRow w F n lz v t) : Calls Tryz.prog 121 #[.pointer (some ⟨F, 0, none⟩)] w fun e w' => e = .returned (.int .i64 (t : Int)) ∧ w = w' := by
  obtain ⟨x0, x1, x2, x3, x4, x5⟩ := h.at_
  go_enter Tryz.func121, Tryz.ntmps121
  go_wp2
  go_ret
  exact ⟨rfl, rfl⟩
end
theorem clip_any (A : Option Addr) (n c : Nat) (h : n ≤ c) (w : World) : Calls Tryz.prog 133 #[.slice A n c] w fun e w' => e = .returned (.slice A n n) ∧ w = w' := by
  go_enter Tryz.func133, Tryz.ntmps133
  go_wp2
  go_ret
  exact ⟨rfl, rfl⟩
theorem clone_any (v : Value) (n : Nat) {B : Nat} (l : List UInt8) (w : World) (h : w.ownsRow B 5 1 v n (cs l)) (hn : n ≤ 1000000000) : Calls Tryz.prog 131 #[v] w fun e w' => ∃ v', e = .returned v' ∧ w'.ownsRow w.heap.size 5 1 v' n (cs l) ∧ Below w.heap.size w w' := by
  obtain ⟨i0, hi, hz0, hz1, hz2⟩ := info_parts fd_info_u8
  have hl := h.1
  rw [cs_length, Nat.mul_one] at hl
  have HL := Lib.hid hl
  have qn : ∀ (w : World) (a : Option Addr) (n c n' c' : Nat), (binOp .eql 86 (.slice a n c) (.slice none n' c')).run Tryz.prog w = .ok (.bool a.isNone) w := fun w a n c n' c' => Lib.run_eql_slice_nil w _ _ a n c n' c' Tryz.underlying86
  clear hl
  rcases h.2 with ⟨rfl, rfl⟩ | ⟨g, cap, cur, rfl, _, hg, h1, h2, h3, h4⟩
  · clear h
    go_enter Tryz.func131, Tryz.ntmps131
    go_wp2
    go_ret
    obtain rfl : l = [] := List.eq_nil_of_length_eq_zero HL.out
    exact ⟨_, rfl, World.ownsRow_nil _ _ _ _, Below.refl _ _⟩
  · have hcell := h.cells (g := g) rfl
    have hlt : g < w.heap.size := (h.lt g rfl).2
    have hc2 : ∀ (o : Obj) j u, (cs l)[j]? = some u → (w.alloc o).cell? ((⟨g, 0, none⟩ : Addr).add j) = some u := fun o j u hu => by
      have e : ((⟨g, 0, none⟩ : Addr).add j).block = g := by unfold Addr.add; split <;> simp_all
      rw [World.cell?_of_block (w := w) (by rw [e]; exact Below.heap_alloc w o g hlt)]
      exact hcell j u hu
    have HC := Lib.hid hc2
    clear hc2 hcell hg h3 h4 h
    have hmade : (w.alloc (.cells #[] 5)).ownsRow w.heap.size 5 1 (.slice (some ⟨w.heap.size, 0, none⟩) 0 0) 0 [] := World.ownsRow_made w #[] 0 (Nat.le_refl _) (by unfold maxLen; omega) (by simp)
    have HM := Lib.hid hmade
    clear hmade
    go_enter Tryz.func131, Tryz.ntmps131
    go_wp2_with (at_builtin; refine wpList_append_own _ rfl (.tmp 5) (.tmp 6) 86 rfl w.heap.size 5 i0 (.int .u8 0) 1 1 Tryz.underlying86 hi hz0 hz1 hz2 rfl (by decide) _ 0 [] rfl HM.out ⟨g, 0, none⟩ n cap (cs l) rfl ?c1 ?c2 ?c3 ?c4 ?c5 ?c6 ?_)
    case c1 => rw [cs_length, HL.out, Nat.mul_one]
    case c2 => exact HC.out _
    case c3 => exact cs_one l
    case c4 => unfold maxLen; omega
    case c5 => omega
    case c6 => simp
    intro v' w2 hown2 hg2 _
    have hb : Below w.heap.size w w2 := ((Below.refl _ w).alloc (Nat.le_refl _) _).grown hg2 (by simp) (fun k hk => by injection hk with hk; simp at hk; omega)
    have HO := Lib.hid hown2
    clear hown2 hg2
    go_wp2
    go_ret
    exact ⟨_, rfl, HO.out, hb⟩
section
variable {F n t : Nat} {lz : Bool} {v : Value}
end
def wholeB (n : Nat) (lz : Bool) (m k : Nat) : Bool := decide (m = n) && (!lz || decide (0 < k))
theorem whole_any {F n t : Nat} {lz : Bool} {A : Option Addr} {m c : Nat} (w : World) (h : FeedRow w F n lz (.slice A m c) t) (k : Nat) : Calls Tryz.prog 132 #[.pointer (some ⟨F, 0, none⟩), .int .i64 (k : Int)] w fun e w' => e = .returned (.bool (wholeB n lz m k)) ∧ Below w.heap.size w w' := by
  obtain ⟨x0, x1, x2, x3, x4, x5⟩ := h.at_
  have hd : ∀ q, Below w.heap.size w (w.drewN q) := fun q => ⟨rfl, rfl, rfl, Nat.le_refl _, fun _ _ => rfl⟩
  by_cases h1 : m = n
  · subst h1
    cases lz with
    | true =>
      by_cases h2 : 0 < k
      · have e : wholeB m true m k = true := by simp [wholeB, h2]
        rw [e]
        have e2 : decide ((0 : Int) < (k : Int)) = true := by simpa using h2
        go_enter Tryz.func132, Tryz.ntmps132
        go_wp2
        go_quiet (fail)
        go_wp2
        go_ret
        exact ⟨rfl, hd _⟩
      · obtain rfl : k = 0 := by omega
        have e : wholeB m true m 0 = false := by simp [wholeB]
        rw [e]
        go_enter Tryz.func132, Tryz.ntmps132
        go_wp2
        go_quiet (fail)
        go_wp2
        go_ret
        exact ⟨rfl, hd _⟩
    | false =>
      have e : wholeB m false m k = true := by simp [wholeB]
      rw [e]
      go_enter Tryz.func132, Tryz.ntmps132
      go_wp2
      go_quiet (fail)
      go_wp2
      go_ret
      exact ⟨rfl, hd _⟩
  · have e : wholeB n lz m k = false := by simp [wholeB, h1]
    rw [e]
    have e1 : ((m : Int) == (n : Int)) = false := by rw [beq_eq_false_iff_ne]; omega
    go_enter Tryz.func132, Tryz.ntmps132
    go_wp2
    go_quiet (fail)
    go_wp2
    go_ret
    exact ⟨rfl, hd _⟩
open Go.RowKit
def Mine (F : Nat) (v : Value) : Nat → Prop := fun k => k = F ∨ v.ownBlock = some k
def Row (w : World) (g : Nat) (b : List UInt8) : Prop := ∃ cur fz, w.heap[g]? = some (.cells cur 5 fz) ∧ cur.toList.take b.length = cs b
theorem Row.lt {w : World} {g : Nat} {b : List UInt8} (h : Row w g b) : g < w.heap.size := by
  obtain ⟨cur, fz, hg, _⟩ := h
  exact (Array.getElem?_eq_some_iff.1 hg).1
theorem Row.of_eq {w w' : World} {g : Nat} {b : List UInt8} (h : Row w g b) (e : w'.heap[g]? = w.heap[g]?) : Row w' g b := by
  obtain ⟨cur, fz, hg, h2⟩ := h
  exact ⟨cur, fz, e.trans hg, h2⟩
theorem Row.reads {w : World} {g : Nat} {b : List UInt8} (h : Row w g b) : Reads w w.heap.size (some ⟨g, 0, none⟩) (cs b) := fun k hk => by
  refine ⟨g, 0, rfl, h.lt, ?_⟩
  obtain ⟨cur, fz, hg, h2⟩ := h
  rw [Nat.zero_add, cell_of_row w g k cur _ fz hg]
  have e : cur.toList[k]? = (cur.toList.take b.length)[k]? := by rw [List.getElem?_take, if_pos (by rw [cs_length] at hk; exact hk)]
  rw [← Array.getElem?_toList, e, h2, List.getElem?_eq_getElem hk]
theorem Row.own {w : World} {B g c : Nat} {b : List UInt8} (h : w.ownsRow B 5 1 (.slice (some ⟨g, 0, none⟩) b.length c) b.length (cs b)) : Row w g b := by
  rcases h.2 with ⟨e, _⟩ | ⟨g', cap, cur, e, _, hg, _, _, _, h4⟩
  · cases e
  · injection e with e1 _ _
    injection e1 with e1
    injection e1 with e1 _ _
    subst e1
    exact ⟨cur, (0, 0), hg, by rw [Nat.mul_one] at h4; exact h4⟩
def Outs (w : World) (gs : List Nat) (bs : List (List UInt8)) : Prop := gs.length = bs.length ∧ ∀ i, (h : i < gs.length) → (h2 : i < bs.length) → Row w gs[i] bs[i]
theorem Outs.keep {w w' : World} {gs : List Nat} {bs : List (List UInt8)} (h : Outs w gs bs) (hk : ∀ g ∈ gs, g < w.heap.size → w'.heap[g]? = w.heap[g]?) : Outs w' gs bs :=
  ⟨h.1, fun i h1 h2 => (h.2 i h1 h2).of_eq (hk _ (List.getElem_mem h1) (h.2 i h1 h2).lt)⟩
theorem Outs.lt {w : World} {gs : List Nat} {bs : List (List UInt8)} (h : Outs w gs bs) : ∀ g ∈ gs, g < w.heap.size := by
  intro g hg
  obtain ⟨i, hi, rfl⟩ := List.getElem_of_mem hg
  exact (h.2 i hi (by rw [← h.1]; exact hi)).lt
theorem Outs.snoc {w : World} {gs : List Nat} {bs : List (List UInt8)} (h : Outs w gs bs) {g : Nat} {b : List UInt8} (hr : Row w g b) : Outs w (gs ++ [g]) (bs ++ [b]) := by
  refine ⟨by simp [h.1], fun i h1 h2 => ?_⟩
  by_cases hi : i < gs.length
  · rw [List.getElem_append_left hi, List.getElem_append_left (by rw [← h.1]; exact hi)]
    exact h.2 i hi _
  · have e : i = gs.length := by simp at h1; omega
    subst e
    have e2 := h.1
    have e3 : (gs ++ [g])[gs.length]'h1 = g := by simp
    have e4 : (bs ++ [b])[gs.length]'h2 = b := by rw [List.getElem_append_right (by omega)]; simp [e2]
    rw [e3, e4]
    exact hr
def sls (n : Nat) (gs : List Nat) : List Value := gs.map fun g => Value.slice (some ⟨g, 0, none⟩) n n
structure Put1 (w0 w : World) (B F n : Nat) (lz : Bool) (v0 vb v : Value) (h : List UInt8) (t : Nat) (gs : List Nat) (bs : List (List UInt8)) : Prop where
  row : FeedRow w F n lz v t
  held : w.ownsRow B 5 1 v h.length (cs h)
  vF : ∀ k, v.ownBlock = some k → k ≠ F
  vat : ∀ k, v.ownBlock = some k → v0.ownBlock = some k ∨ w0.heap.size ≤ k
  list : w.ownsRow w0.heap.size 86 1 vb gs.length (sls n gs)
  apart : ∀ k, v.ownBlock = some k → ∀ j, vb.ownBlock = some j → k ≠ j
  outs : Outs w gs bs
  gat : ∀ g ∈ gs, v0.ownBlock = some g ∨ w0.heap.size ≤ g
  gF : ∀ g ∈ gs, g ≠ F
  gv : ∀ g ∈ gs, ∀ k, v.ownBlock = some k → g ≠ k
  gl : ∀ g ∈ gs, ∀ k, vb.ownBlock = some k → g ≠ k
  kept : Kept (Mine F v0) w0 w
  old : F < w0.heap.size
section
variable {w0 w w' : World} {B F n g c : Nat} {lz : Bool} {v0 vb v : Value} {h : List UInt8} {t : Nat} {gs : List Nat} {bs : List (List UInt8)}
theorem Put1.start (hr : FeedRow w F n lz v t) (hh : w.ownsRow B 5 1 v h.length (cs h)) (hv : ∀ k, v.ownBlock = some k → k ≠ F) : Put1 w w B F n lz v (.slice none 0 0) v h t [] [] :=
  ⟨hr, hh, hv, fun k hk => .inl hk, World.ownsRow_nil _ _ _ _, fun _ _ j hj => (by simp [Value.ownBlock] at hj), ⟨rfl, fun i h1 => absurd h1 (by simp)⟩, fun g hg => (by cases hg), fun g hg => (by cases hg), fun g hg => (by cases hg), fun g hg => (by cases hg), Kept.refl _ _, hr.lt⟩
theorem Put1.step (p : Put1 w0 w B F n lz v0 vb v h t gs bs) (hb : Below w.heap.size w w') : Put1 w0 w' B F n lz v0 vb v h t gs bs :=
  ⟨p.row.below hb, own_kept p.held (Kept.of_below (M := fun _ => False) hb) (fun _ _ => id), p.vF, p.vat, own_kept p.list (Kept.of_below (M := fun _ => False) hb) (fun _ _ => id), p.apart,
    p.outs.keep fun g _ hl => hb.block g hl, p.gat, p.gF, p.gv, p.gl, p.kept.trans (Kept.of_below (M := fun _ => False) hb) fun _ _ => False.elim, p.old⟩
theorem Put1.drew (p : Put1 w0 w B F n lz v0 vb v h t gs bs) : Put1 w0 w.drew B F n lz v0 vb v h t gs bs := p.step (Below.refl _ _).drew
theorem Kept.at_set (w : World) (F o : Nat) (u : Value) : Kept (fun k => k = F) w (w.setCell ⟨F, o, none⟩ u) := ⟨rfl, rfl, rfl, by simp [World.setCell], fun k _ hk => Below.heap_setCell _ _ _ k (by simpa using hk)⟩
theorem Put1.stored (p : Put1 w0 w B F n lz v0 vb v h t gs bs) {o : Nat} {u : Value} {t' : Nat} (hr : FeedRow (w.setCell ⟨F, o, none⟩ u) F n lz v t') : Put1 w0 (w.setCell ⟨F, o, none⟩ u) B F n lz v0 vb v h t' gs bs := by
  have hk := Kept.at_set w F o u
  refine ⟨hr, own_kept p.held hk fun k e => p.vF k e, p.vF, p.vat, own_kept p.list hk fun k e => ?_, p.apart, p.outs.keep fun g hg hl => hk.block g hl (p.gF g hg), p.gat, p.gF, p.gv, p.gl, p.kept.trans hk fun x _ hx => .inl hx, p.old⟩
  have := (p.list.lt k e).1
  have := p.old
  omega
theorem Put1.total (p : Put1 w0 w B F n lz v0 vb v h t gs bs) (t' : Nat) : Put1 w0 (w.setCell ⟨F, 3, none⟩ (.int .i64 (t' : Int))) B F n lz v0 vb v h t' gs bs := p.stored (p.row.set3 t')
theorem Put1.more (p : Put1 w0 w B F n lz v0 vb v h t gs bs) {v' : Value} {m : List UInt8} (ho : w'.ownsRow B 5 1 v' (h ++ m).length (cs (h ++ m))) (hg : w.grownBy w' v.ownBlock) (hat : v'.ownBlock = v.ownBlock ∨ ∃ g, v'.ownBlock = some g ∧ w.heap.size ≤ g) :
    Put1 w0 (w'.setCell ⟨F, 2, none⟩ v') B F n lz v0 vb v' (h ++ m) t gs bs := by
  have hsz := p.kept.size
  have hold := p.old
  have hv' : ∀ k, v'.ownBlock = some k → v.ownBlock = some k ∨ w.heap.size ≤ k := fun k hk => by
    rcases hat with e | ⟨g, e, hl⟩
    · exact .inl (by rw [← e]; exact hk)
    · rw [e] at hk; injection hk with hk; exact .inr (by omega)
  have hvF : ∀ k, v'.ownBlock = some k → k ≠ F := fun k hk => by
    rcases hv' k hk with e | e
    · exact p.vF k e
    · omega
  have hk := Kept.at_set w' F 2 v'
  refine ⟨(p.row.grown hg fun e => p.vF F e rfl).set2 v', own_kept ho hk fun k e => hvF k e, hvF, fun k e => ?_, own_kept (p.list.kept hg ?_) hk fun k e => ?_, fun k e j ej => ?_, (p.outs.keep fun g hm hl => hg.block g hl fun e => p.gv g hm g e.symm rfl).keep fun g hm _ => hk.block g (Nat.lt_of_lt_of_le (p.outs.lt g hm) hg.size) (p.gF g hm), p.gat, p.gF, fun g hm k e => ?_, p.gl, ?_, hold⟩
  · rcases hv' k e with e | e
    · exact p.vat k e
    · exact .inr (by omega)
  · cases hvb : vb.ownBlock with
    | none => exact .inl rfl
    | some j => exact .inr fun e => p.apart j e.symm j hvb rfl
  · have := (p.list.lt k e).1; omega
  · rcases hv' k e with e | e
    · exact p.apart k e j ej
    · have := (p.list.lt j ej).2; omega
  · rcases hv' k e with e | e
    · exact p.gv g hm k e
    · have := p.outs.lt g hm; omega
  · refine (p.kept.grown hg fun k e => ?_).set (.inl (.inl rfl)) _
    rcases p.vat k e with e | e
    · exact .inl (.inr e)
    · exact .inr e
theorem Put1.on (p : Put1 w0 w B F n lz v0 vb (.slice (some ⟨g, 0, none⟩) n c) h t gs bs) (hh : h.length = n) {vb' : Value} {o : Obj} (ho : w'.ownsRow w0.heap.size 86 1 vb' (gs.length + 1) (sls n gs ++ [.slice (some ⟨g, 0, none⟩) n n])) (hg : (w.alloc o).grownBy w' vb.ownBlock) (hat : vb'.ownBlock = vb.ownBlock ∨ vb'.ownBlock = some (w.alloc o).heap.size) :
    Put1 w0 (w'.setCell ⟨F, 2, none⟩ (.slice none 0 0)) B F n lz v0 vb' (.slice none 0 0) [] t (gs ++ [g]) (bs ++ [h]) := by
  have hsz := p.kept.size
  have hold := p.old
  have q := p.step ((Below.refl w.heap.size w).alloc (Nat.le_refl _) o)
  have hk := Kept.at_set w' F 2 (.slice none 0 0)
  have hvb : ∀ k, vb'.ownBlock = some k → vb.ownBlock = some k ∨ (w.alloc o).heap.size ≤ k := fun k hk => by
    rcases hat with e | e
    · exact .inl (by rw [← e]; exact hk)
    · rw [e] at hk; injection hk with hk; exact .inr (by omega)
  have hgF : g ≠ F := p.vF g rfl
  have hgl : g < w.heap.size := (p.held.lt g rfl).2
  have hpick : ∀ x ∈ gs ++ [g], x ∈ gs ∨ x = g := fun x hx => by
    rcases List.mem_append.1 hx with hx | hx
    · exact .inl hx
    · exact .inr (by simpa using hx)
  have hrow : Row w g h := by
    have := p.held
    rw [← hh] at this
    exact Row.own this
  have hone : ∀ k, (.slice none 0 0 : Value).ownBlock = some k → False := fun k hk => by simp [Value.ownBlock] at hk
  have hasz : (w.alloc o).heap.size = w.heap.size + 1 := by simp
  refine ⟨(q.row.grown hg fun e => ?_).set2 _, World.ownsRow_nil _ _ _ _, fun k e => (hone k e).elim, fun k e => (hone k e).elim, own_kept (by rw [List.length_append]; simpa [sls] using ho) hk fun k e => ?_, fun k e => (hone k e).elim, ?_, fun x hx => ?_, fun x hx => ?_, fun _ _ k e => (hone k e).elim, fun x hx k e => ?_, ?_, hold⟩
  · have := (p.list.lt F e).1; omega
  · have := (ho.lt k e).1; omega
  · refine Outs.snoc ?_ ?_
    · exact (q.outs.keep fun x hm hl => hg.block x hl fun e => q.gl x hm x e.symm rfl).keep fun x hm _ => hk.block x (Nat.lt_of_lt_of_le (q.outs.lt x hm) hg.size) (q.gF x hm)
    · refine (hrow.of_eq (Below.heap_alloc w o g hgl)).of_eq ?_ |>.of_eq (hk.block g ?_ hgF)
      · exact hg.block g (by omega) fun e => p.apart g rfl g e.symm rfl
      · have := hg.size; omega
  · rcases hpick x hx with hx | rfl
    · exact p.gat x hx
    · exact p.vat x rfl
  · rcases hpick x hx with hx | rfl
    · exact p.gF x hx
    · exact hgF
  · rcases hpick x hx with hx | rfl
    · rcases hvb k e with e | e
      · exact p.gl x hx k e
      · have := q.outs.lt x hx; omega
    · rcases hvb k e with e | e
      · exact p.apart x rfl k e
      · omega
  · refine (q.kept.grown hg fun k e => ?_).set (.inl (.inl rfl)) _
    exact .inr (p.list.lt k e).1
end
open Go.RowKit
def stv (l : List ByteArray) : List Value := l.map Value.string
theorem stv_length (l : List ByteArray) : (stv l).length = l.length := by simp [stv]
theorem stv_at (l : List ByteArray) (k : Nat) (h : k < (stv l).length) : (stv l)[k] = .string (l[k]'(by simpa [stv] using h)) := by simp [stv]
def jn (l : List ByteArray) : List UInt8 := l.flatMap tl
theorem jn_snoc (l : List ByteArray) (k : Nat) (h : k < l.length) : jn (l.take (k + 1)) = jn (l.take k) ++ tl l[k] := by
  unfold jn; rw [List.take_succ_eq_append_getElem h, List.flatMap_append]; simp
theorem jn_take_le (l : List ByteArray) (k : Nat) : (jn (l.take k)).length ≤ (jn l).length := by
  have e : jn l = jn (l.take k) ++ jn (l.drop k) := by unfold jn; rw [← List.flatMap_append, List.take_append_drop]
  rw [e, List.length_append]; omega
def Parts (w : World) (M : Nat → Prop) (A : Option Addr) (xs : List Value) : Prop := ∀ k, (h : k < xs.length) → ∃ b off, A = some ⟨b, off, none⟩ ∧ b < w.heap.size ∧ ¬ M b ∧ w.cell? ⟨b, off + k, none⟩ = some xs[k]
theorem Parts.keep {w w' : World} {M : Nat → Prop} {A : Option Addr} {xs : List Value} (h : Parts w M A xs) (hk : Kept M w w') : ∀ k, (h : k < xs.length) → ∃ b off, A = some ⟨b, off, none⟩ ∧ w'.cell? ⟨b, off + k, none⟩ = some xs[k] := fun k hl => by
  obtain ⟨b, off, e, hb, hm, hc⟩ := h k hl
  exact ⟨b, off, e, (World.cell?_of_block (w := w) (hk.block b hb hm)).trans hc⟩
theorem tl_front (s : ByteArray) (m : Nat) : tl (s.extract 0 m) = (tl s).take m := by
  unfold tl; rw [ByteArray.data_extract]; simp [Array.toList_extract]
theorem tl_back (s : ByteArray) (m : Nat) : tl (s.extract m s.size) = (tl s).drop m := Lib.extract_to_end s m
theorem front_size (s : ByteArray) (m : Nat) (h : m ≤ s.size) : (s.extract 0 m).size = m := by
  rw [← tl_length, tl_front, List.length_take, tl_length]; omega
theorem back_size (s : ByteArray) (m : Nat) : (s.extract m s.size).size = s.size - m := by
  rw [← tl_length, tl_back, List.length_drop, tl_length]
theorem own_cap {w : World} {base : Nat} {e : TypeId} {n m c : Nat} {A : Option Addr} {xs : List Value} (h : w.ownsRow base e 1 (.slice A n c) m xs) (hm : 0 < m) : n ≤ c ∧ n = m ∧ ∃ g, A = some ⟨g, 0, none⟩ := by
  rcases h.2 with ⟨_, e⟩ | ⟨g, cap, cur, e, _, _, h1, _⟩
  · omega
  · injection e with e1 e2 e3
    exact ⟨by omega, e2, g, e1⟩
theorem whole_yes {n m k : Nat} {lz : Bool} (h : wholeB n lz m k = true) : m = n ∧ (lz = true → 0 < k) := by
  simp [wholeB] at h
  exact ⟨h.1, fun l => by rcases h.2 with h | h; rw [l] at h; cases h; exact h⟩
theorem whole_no {n m k : Nat} {lz : Bool} (h : wholeB n lz m k = false) : ¬ (m = n ∧ (lz = true → 0 < k)) := by
  rintro ⟨rfl, h2⟩
  cases lz with
  | true => simp [wholeB, h2 rfl] at h
  | false => simp [wholeB] at h
def PutAt (w0 w : World) (B F n : Nat) (lz : Bool) (v0 : Value) (t : Nat) (X : List UInt8) (vb : Value) : Prop := ∃ v h gs bs, Put1 w0 w B F n lz v0 vb v h t gs bs ∧ Cut n lz X bs h
def PutIn (w0 w : World) (B F n : Nat) (lz : Bool) (v0 : Value) (t : Nat) (Y : List UInt8) (s : ByteArray) (g : Nat) (vb : Value) : Prop := ∃ v h gs bs X, Put1 w0 w B F n lz v0 vb v h t gs bs ∧ Mid n lz X bs h (tl s) ∧ X ++ tl s = Y ∧ g = 2 * s.size + if h.length = n then 1 else 0
theorem fd_info_row : (Tryz.prog.info? 86).map (fun i => (i.zero, i.size, i.bytes)) = some (some (.slice none 0 0), 1, 24) := by kernel_rfl
set_option maxHeartbeats 1600000 in
theorem put_any (F n t : Nat) (lz : Bool) (v0 : Value) {B : Nat} (l : List UInt8) (A : Option Addr) (c : Nat) (ps : List ByteArray) (w : World) (hr : FeedRow w F n lz v0 t) (hh : w.ownsRow B 5 1 v0 l.length (cs l)) (hB : B ≤ w.heap.size) (hv : ∀ k, v0.ownBlock = some k → k ≠ F)
    (hn : 1 ≤ n) (hn2 : n ≤ 65536) (hl : Held n lz l) (hp : Parts w (Mine F v0) A (stv ps)) (ht : t + (jn ps).length ≤ 1000000) (hps : ps.length ≤ 1000000) :
    Calls Tryz.prog 123 #[.pointer (some ⟨F, 0, none⟩), .slice A ps.length c] w fun e w' => ∃ vb, e = .returned vb ∧ PutAt w w' B F n lz v0 (t + (jn ps).length) (l ++ jn ps) vb := by
  obtain ⟨i0, hi, hz0, hz1, hz2⟩ := info_parts fd_info_row
  have HP := Lib.hid hp
  have HI := Lib.hid (Put1.start hr hh hv)
  obtain ⟨x0, x1, x2, x3, x4, x5⟩ := hr.at_
  have hlt := hr.lt
  have HL := Lib.hid hl
  clear hp hr hh hl hv x1 x2 x3 x4 x5
  go_enter Tryz.func123, Tryz.ntmps123
  go_wp2
  go_loopg [5, 20] ps.length (fun g vb i wr => ∃ k : Nat, k + g = ps.length ∧ i = .int .i64 k ∧ PutAt w wr B F n lz v0 (t + (jn (ps.take k)).length) (l ++ jn (ps.take k)) vb)
  case atStart => exact ⟨0, by omega, rfl, v0, l, [], [], by simpa [jn] using HI.out, by simpa [jn] using Cut.nothing HL.out⟩
  case round =>
    obtain ⟨k, hkg, rfl, hput⟩ := hrel
    clear HI x0
    obtain ⟨v, h, gs, bs, p, hc⟩ := hput
    by_cases hlt2 : k < ps.length
    · obtain ⟨g, rfl⟩ : ∃ g, gk = g + 1 := ⟨gk - 1, by omega⟩
      obtain ⟨b, off, rfl, hcell⟩ := HP.out.keep p.kept k (by rw [stv_length]; exact hlt2)
      rw [stv_at] at hcell
      have hsn := jn_snoc ps k hlt2
      have hle := jn_take_le ps (k + 1)
      have Hsn := Lib.hid hsn
      rw [hsn, List.length_append, tl_length] at hle
      have Hsl : Hid ((jn (ps.take (k + 1))).length = (jn (ps.take k)).length + ps[k].size) := Lib.hid (by rw [hsn, List.length_append, tl_length])
      clear hsn
      have HT : Hid (t + (jn (ps.take (k + 1))).length = t + (jn (ps.take k)).length + ps[k].size) := Lib.hid (by rw [Hsl.out]; omega)
      have hTb : t + (jn (ps.take k)).length ≤ 1000000 := by omega
      have hTc : t + (jn (ps.take k)).length + ps[k].size ≤ 1000000 := by omega
      generalize t + (jn (ps.take k)).length = T0 at *
      obtain ⟨T1, hT1⟩ : ∃ T1 : Nat, (T0 : Int) + (ps[k].size : Int) = (T1 : Int) := ⟨T0 + ps[k].size, by simp⟩
      have hT2 : T1 = T0 + ps[k].size := by omega
      have HT2 := Lib.hid hT2
      clear hT2
      generalize ps[k] = s at *
      generalize jn (ps.take k) = J at *
      obtain ⟨x0, x1, x2, x3, x4, x5⟩ := p.row.at_
      have P1 := Lib.hid p
      have HC := Lib.hid hc
      clear p hc
      go_wp2
      have Q1 := Lib.hid (P1.out.total T1)
      go_loopg [5, 7] (2 * s.size + if h.length = n then 1 else 0) (fun g vb x wy => ∃ s1 : ByteArray, x = .string s1 ∧ PutIn w wy B F n lz v0 T1 (l ++ (J ++ tl s)) s1 g vb)
      case atStart => exact ⟨s, rfl, v, h, gs, bs, l ++ J, Q1.out, Mid.of_cut HC.out, by rw [List.append_assoc], rfl⟩
      case round =>
        obtain ⟨s1, rfl, hput⟩ := hrel
        clear P1 HC Q1 x0 x1 x2 x3 x4 x5 hcell
        obtain ⟨v1, h1, gs1, bs1, X1, p, hm, hX, hg⟩ := hput
        by_cases hs0 : s1.size = 0
        · have hnil : tl s1 = [] := List.eq_nil_of_length_eq_zero (by rw [tl_length]; exact hs0)
          have e1 : s1.toList = [] := by rw [ByteArray.toList_eq]; exact hnil
          rw [hnil] at hm
          rw [hnil, List.append_nil] at hX
          have HX := Lib.hid hX
          have Hm := Lib.hid hm.cut
          have P1 := Lib.hid p
          clear hX hm p hg hnil hT1
          go_wp2
          go_roundg g
          case measure => omega
          case rel => exact ⟨k + 1, by omega, by go_num, v1, h1, gs1, bs1, by rw [HT.out, ← HT2.out]; exact P1.out, by rw [Hsn.out, ← HX.out]; exact Hm.out⟩
        · obtain ⟨x0, x1, x2, x3, x4, x5⟩ := p.row.at_
          obtain ⟨A1, c1, rfl, hq1, hq2, hq3⟩ := own_form p.held
          clear hq1 hq2 hq3
          have hne : s1.toList = [] → False := fun e => by
            have := congrArg List.length e
            rw [ByteArray.toList_eq] at this
            have e2 := tl_length s1
            unfold tl at e2
            simp [e2] at this
            exact hs0 (by simpa using this)
          have hne1 : s1.toList.isEmpty = false := by
            cases hc : s1.toList with
            | nil => exact (hne hc).elim
            | cons _ _ => rfl
          have hne2 : (s1.toList == []) = false := by
            cases hc : s1.toList with
            | nil => exact (hne hc).elim
            | cons _ _ => rfl
          have hh1 := hm.held.1
          obtain ⟨q, hq⟩ : ∃ q : Nat, (n : Int) - (h1.length : Int) = (q : Int) := ⟨n - h1.length, by omega⟩
          obtain ⟨m, hm1⟩ : ∃ m : Nat, (if q < s1.size then (q : Int) else (s1.size : Int)) = (m : Int) := ⟨min s1.size q, by split <;> omega⟩
          have hm2 : m = min s1.size (n - h1.length) := by split at hm1 <;> omega
          have hms : m ≤ s1.size := by omega
          have hmn : h1.length + m ≤ n := by omega
          have HM2 := Lib.hid hm2
          have hgb : gs1.length ≤ 1100000 := by
            have q1 := congrArg List.length hX
            have q2 := congrArg List.length hm.whole
            have q3 := Nat.le_mul_of_pos_right bs1.length (show 0 < n by omega)
            have q4 := p.outs.1
            have q5 := HL.out.1
            simp only [List.length_append, tl_length] at q1
            rw [List.length_append, flat_len hm.each] at q2
            omega
          have HG := Lib.hid hg
          have HX := Lib.hid hX
          have Hm := Lib.hid hm
          clear hg hX hm
          have P1 := Lib.hid p
          clear p hne hm2
          go_wp2
          go_region
          go_wp2
          have HF := Lib.hid (front_size s1 m hms)
          go_region_law ((refine step_append_text rfl (.tmp 52) (.tmp 55) rfl B (by simp [Act.eval]) P1.drew.drew.held (s1.extract 0 m) (by simp [Act.eval]) (by rw [HF.out]; omega) (by have := P1.out.kept.size; simp; omega) ?_; intro v2 w2 ho2 hg2 hat2; rw [HF.out, tl_front] at ho2; obtain ⟨A2, c2, rfl, hq1, hq2, hq3⟩ := own_form ho2; clear hq1 hq2 hq3; obtain ⟨y0, y1, y2, y3, y4, y5⟩ := ((P1.out.drew.drew.row).grown hg2 (fun e => P1.out.vF F e rfl)).at_))
          have hmt : ((tl s1).take m).length = m := by rw [List.length_take, tl_length]; omega
          have hmd : ((tl s1).drop m).length = s1.size - m := by rw [List.length_drop, tl_length]
          have hlen2 : (h1 ++ (tl s1).take m).length = h1.length + m := by rw [List.length_append, hmt]
          have Q := P1.out.drew.drew.more (m := (tl s1).take m) (by rw [hlen2, cs_append]; exact ho2) hg2 hat2
          have HM := Lib.hid (And.intro hmt (And.intro hmd hlen2))
          have W := Lib.hid (whole_any _ Q.row (s1.size - m))
          have Q2 := Lib.hid Q
          clear ho2 hg2 hat2 Q hmt hmd hlen2
          go_wp2_with fail
          refine (W.out).mono ?_
          rintro e w3 ⟨rfl, hb3⟩
          have Q3 := Lib.hid (Q2.out.step hb3)
          clear hb3 y0 y1 y2 y3 y4 y5 W Q2 x0 x1 x2 x3 x4 x5
          obtain ⟨x0, x1, x2, x3, x4, x5⟩ := Q3.out.row.at_
          by_cases hw : wholeB n lz (h1.length + m) (s1.size - m) = true
          · obtain ⟨hwn, hwk⟩ := whole_yes hw
            have HW := Lib.hid hwk
            have ho := Q3.out.held
            obtain ⟨hcap, hc9, g2, rfl⟩ := own_cap ho (by rw [HM.out.2.2]; omega)
            clear ho hwk hc9
            generalize h1.length + m = L2 at *
            obtain rfl : n = L2 := hwn.symm
            have hlist := Lib.hid Q3.out.list
            go_wp2_with fail
            refine (clip_any _ _ _ hcap _).mono ?_
            rintro e w4 ⟨rfl, rfl⟩
            go_wp2_with (at_builtin; refine wpList_append_own_at _ rfl (.tmp 66) (.tmp 72) 216 rfl w.heap.size 86 i0 (.slice none 0 0) 1 24 Tryz.underlying216 hi hz0 hz1 hz2 rfl (by decide) u5 gs1.length (sls n gs1) rfl (hlist.out.alloc _) ⟨w3.heap.size, 0, none⟩ 1 1 [.slice (some ⟨g2, 0, none⟩) n n] rfl rfl ?c1 ?c2 ?c3 ?c4 ?c5 ?_)
            case c1 => exact cell_one_new _ _ _
            case c2 => intro u hu; simp at hu; subst hu; rfl
            case c3 => unfold maxLen; omega
            case c4 => omega
            case c5 => have := Q3.out.kept.size; simp; omega
            intro v5 w5 ho5 hg5 hq5 hat5
            have hrow5 := (Q3.out.row.alloc (.cells #[.slice (some ⟨g2, 0, none⟩) n n] 86)).grown hg5 (fun e => by have := (hlist.out.lt F e).1; omega)
            have R := Lib.hid (Q3.out.on HM.out.2.2 ho5 hg5 (by simpa using hat5))
            clear hq5 ho5 hg5 hat5 x0 x1 x2 x3 x4 x5 hlist
            obtain ⟨x0, x1, x2, x3, x4, x5⟩ := hrow5.at_
            clear hrow5
            go_wp2
            have hsum : h1.length + m = n := by have := HM.out.2.2; rw [List.length_append, HM.out.1] at this; exact this
            have HS := Lib.hid hsum
            have hgk := HG.out
            have hmm := HM2.out
            go_roundg (2 * (s1.size - m))
            case measure =>
              split at hgk <;> omega
            case rel => 
              refine ⟨s1.extract m s1.size, rfl, .slice none 0 0, [], gs1 ++ [g2], bs1 ++ [h1 ++ (tl s1).take m], X1 ++ (tl s1).take m, R.out, ?_, ?_, ?_⟩
              · rw [tl_back]
                exact Hm.out.on (by omega) (by rw [HM.out.1]; exact hsum) (fun h => by rw [HM.out.2.1]; exact HW.out h)
              · rw [tl_back, List.append_assoc, List.take_append_drop]; exact HX.out
              · rw [back_size, if_neg (by simp; omega)]; rfl
          · have hw2 : wholeB n lz (h1.length + m) (s1.size - m) = false := by simpa using hw
            clear hw
            go_wp2
            have hgk := HG.out
            have hmm := HM2.out
            have hno := whole_no hw2
            go_roundg (2 * (s1.size - m) + if h1.length + m = n then 1 else 0)
            case measure =>
              have hno2 : h1.length + m = n → ¬ 0 < s1.size - m := fun e h => hno ⟨e, fun _ => h⟩
              split at hgk <;> split <;> omega
            case rel =>
              refine ⟨s1.extract m s1.size, rfl, _, h1 ++ (tl s1).take m, gs1, bs1, X1 ++ (tl s1).take m, Q3.out, ?_, ?_, ?_⟩
              · rw [tl_back]
                exact Hm.out.off (by intro e; exact hs0 (by rw [← tl_length, e]; rfl)) (by rw [tl_length]; exact hmm) (by rw [HM.out.1, HM.out.2.1]; exact hno)
              · rw [tl_back, List.append_assoc, List.take_append_drop]; exact HX.out
              · rw [back_size, HM.out.2.2]
    · obtain rfl : k = ps.length := by omega
      rw [List.take_length] at hc p
      have P1 := Lib.hid p
      have HC := Lib.hid hc
      clear p hc
      go_wp2
      go_ret
      exact ⟨_, rfl, v, h, gs, bs, P1.out, HC.out⟩
open Go.RowKit
theorem conv_row {w : World} {g n c : Nat} {b : List UInt8} (h : Row w g b) (hn : b.length = n) : (convert 86 9 (.slice (some ⟨g, 0, none⟩) n c)).run Tryz.prog w = .ok (.string (tx b)) w := by
  subst hn
  have e : tx b = strOfNums (b.map fun b => (b.toNat : Int)) := by
    unfold tx strOfNums
    congr 1
    congr 1
    rw [List.map_map]
    conv => lhs; rw [← List.map_id b]
    exact List.map_congr_left fun b _ => by simp
  rw [e]
  refine run_convert_bytes_arg w 86 5 Tryz.underlying86 Tryz.underlying5 g 0 _ c _ (by simp) (fun i hi => ?_) 9 Tryz.underlying9
  obtain ⟨b', off', hb', _, hc⟩ := h.reads i (by rw [cs_length]; omega)
  injection hb' with hb'
  injection hb' with e1 e2
  subst e1; subst e2
  rw [hc, cs_at]
  simp [List.getD, List.getElem?_eq_getElem hi]
open Go.RowKit
section
variable {w0 w w' : World} {B F n t c m : Nat} {lz : Bool} {v0 v : Value} {h : List UInt8} {gs : List Nat} {bs : List (List UInt8)} {A : Option Addr} {M : Nat → Prop}
end
theorem jn_two (s1 s2 : ByteArray) : jn [s1, s2] = tl s1 ++ tl s2 := by simp [jn]
theorem jn_one (s1 : ByteArray) : jn [s1] = tl s1 := by simp [jn]
end Go.Proofs.YtfoodaobiknihaaGreatDoor
