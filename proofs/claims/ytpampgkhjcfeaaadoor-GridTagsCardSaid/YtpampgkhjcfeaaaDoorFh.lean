/- Bytes cut into blocks of one length, and a rest: there is one way at most; and how one part after the other is cut. Conditions: those typed. A feed in memory: its four fields, and the row of bytes that it holds; memory that is kept but for some blocks; a text's bytes put behind a row of one's own, and where the row lies then. No condition but those typed. Arguments opened: a list of texts, each of which is no longer than what may come in; a text; a bool; an int. No condition. -/
import Derived.Test.YtpampgkhjcfeaaaDoorKit
import Derived.Lib.AppendStr
import Derived.Lib.Hide
import Derived.Laws.BytesArg
import Derived.Lib.BufferRead
import Derived.Deep.AppendLies
import Derived.IntWalk
import Derived.LoopTactic
import Derived.Outline
import Derived.RegionTactic
import Derived.ChangeAlike
import Derived.Deep.QuietTactic
import Derived.BigQuiet
import Derived.Deep.RegionLaw
import Derived.SliceStrings
namespace Go.Proofs.YtpampgkhjcfeaaaDoor
set_option maxRecDepth 50000

/-- what may be held by a feed of blocks of n bytes -/
def Held (n : Nat) (lz : Bool) (r : List UInt8) : Prop := r.length ≤ n ∧ (r.length = n → lz = true)
/-- these bytes are these blocks, and this rest -/
structure Cut (n : Nat) (lz : Bool) (all : List UInt8) (bs : List (List UInt8)) (r : List UInt8) : Prop where
  whole : all = bs.flatten ++ r
  each : ∀ b ∈ bs, b.length = n
  held : Held n lz r
  more : lz = true → bs ≠ [] → r ≠ []
/-- likewise, where s is still to come -/
structure Mid (n : Nat) (lz : Bool) (all : List UInt8) (bs : List (List UInt8)) (h s : List UInt8) : Prop where
  whole : all = bs.flatten ++ h
  each : ∀ b ∈ bs, b.length = n
  held : Held n lz h
  more : lz = true → bs ≠ [] → h ≠ [] ∨ s ≠ []

theorem flat_len {n : Nat} : ∀ {bs : List (List UInt8)}, (∀ b ∈ bs, b.length = n) → bs.flatten.length = bs.length * n
  | [], _ => by simp
  | b :: bs, h => by
    rw [List.flatten_cons, List.length_append, flat_len (fun x hx => h x (by simp [hx])), h b (by simp), List.length_cons, Nat.succ_mul]
    omega
theorem flat_inj {n : Nat} : ∀ {bs cs : List (List UInt8)}, (∀ b ∈ bs, b.length = n) → (∀ b ∈ cs, b.length = n) → bs.length = cs.length → bs.flatten = cs.flatten → bs = cs
  | [], [], _, _, _, _ => rfl
  | [], _ :: _, _, _, h, _ => by simp at h
  | _ :: _, [], _, _, h, _ => by simp at h
  | b :: bs, c :: cs, h1, h2, h3, h4 => by
    rw [List.flatten_cons, List.flatten_cons] at h4
    obtain ⟨e1, e2⟩ := List.append_inj h4 (by rw [h1 b (by simp), h2 c (by simp)])
    rw [e1, flat_inj (fun x hx => h1 x (by simp [hx])) (fun x hx => h2 x (by simp [hx])) (by simpa using h3) e2]
theorem not_fewer {n k k' a a' : Nat} (h : k * n + a = k' * n + a') (hx : a < n ∨ a ≤ n ∧ (k' ≠ 0 → 1 ≤ a')) : ¬ k < k' := by
  intro hk
  obtain ⟨d, rfl⟩ : ∃ d, k' = k + 1 + d := ⟨k' - (k + 1), by omega⟩
  have e : (k + 1 + d) * n = k * n + n + d * n := by rw [Nat.add_mul, Nat.succ_mul]
  rw [e] at h
  have : 0 ≤ d * n := Nat.zero_le _
  rcases hx with hx | ⟨h1, h2⟩
  · omega
  · have := h2 (by omega); omega
theorem Cut.bounds {n : Nat} {lz : Bool} {all : List UInt8} {bs : List (List UInt8)} {r : List UInt8} (h : Cut n lz all bs r) : r.length < n ∨ r.length ≤ n ∧ (lz = true) := by
  obtain ⟨h1, h2⟩ := h.held
  by_cases e : r.length = n
  · exact .inr ⟨h1, h2 e⟩
  · left; omega
theorem cut_one {n : Nat} {lz : Bool} {all : List UInt8} {bs cs : List (List UInt8)} {r t : List UInt8} (h : Cut n lz all bs r) (k : Cut n lz all cs t) : bs = cs ∧ r = t := by
  have e : bs.length * n + r.length = cs.length * n + t.length := by
    rw [← flat_len h.each, ← flat_len k.each, ← List.length_append, ← List.length_append, ← h.whole, ← k.whole]
  have b1 : r.length < n ∨ r.length ≤ n ∧ (cs.length ≠ 0 → 1 ≤ t.length) := by
    rcases h.bounds with b | ⟨b, l⟩
    · exact .inl b
    · refine .inr ⟨b, fun hc => ?_⟩
      have := k.more l (by intro e; rw [e] at hc; simp at hc)
      exact List.length_pos_iff.2 this
  have b2 : t.length < n ∨ t.length ≤ n ∧ (bs.length ≠ 0 → 1 ≤ r.length) := by
    rcases k.bounds with b | ⟨b, l⟩
    · exact .inl b
    · refine .inr ⟨b, fun hc => ?_⟩
      have := h.more l (by intro e; rw [e] at hc; simp at hc)
      exact List.length_pos_iff.2 this
  have x1 := not_fewer e b1
  have x2 := not_fewer e.symm b2
  have el : bs.length = cs.length := by omega
  have ef := h.whole.symm.trans k.whole
  obtain ⟨e1, e2⟩ := List.append_inj ef (by rw [flat_len h.each, flat_len k.each, el])
  exact ⟨flat_inj h.each k.each el e1, e2⟩
theorem Cut.more_parts {n : Nat} {lz : Bool} {all p : List UInt8} {bs cs : List (List UInt8)} {r t : List UInt8} (h : Cut n lz all bs r) (k : Cut n lz (r ++ p) cs t) : Cut n lz (all ++ p) (bs ++ cs) t := by
  refine ⟨?_, ?_, k.held, ?_⟩
  · rw [h.whole, List.append_assoc, k.whole]; simp
  · intro b hb
    rcases List.mem_append.1 hb with hb | hb
    · exact h.each b hb
    · exact k.each b hb
  · intro hl hne
    by_cases hc : cs = []
    · have hb : bs ≠ [] := by intro e; exact hne (by rw [e, hc]; rfl)
      have hr := h.more hl hb
      have hw := k.whole
      rw [hc, List.flatten_nil, List.nil_append] at hw
      rw [← hw]
      intro e
      exact hr (List.append_eq_nil_iff.1 e).1
    · exact k.more hl hc
theorem Cut.nothing {n : Nat} {lz : Bool} {r : List UInt8} (h : Held n lz r) : Cut n lz r [] r := ⟨by simp, by simp, h, fun _ h => absurd rfl h⟩
theorem Mid.of_cut {n : Nat} {lz : Bool} {all s : List UInt8} {bs : List (List UInt8)} {r : List UInt8} (h : Cut n lz all bs r) : Mid n lz all bs r s := ⟨h.whole, h.each, h.held, fun a b => .inl (h.more a b)⟩
theorem Mid.cut {n : Nat} {lz : Bool} {all : List UInt8} {bs : List (List UInt8)} {r : List UInt8} (h : Mid n lz all bs r []) : Cut n lz all bs r := ⟨h.whole, h.each, h.held, fun a b => (h.more a b).resolve_right (by simp)⟩
/-- a block is whole, and handed on -/
theorem Mid.on {n : Nat} {lz : Bool} {all s : List UInt8} {bs : List (List UInt8)} {h : List UInt8} (hn : 0 < n) (m : Mid n lz all bs h s) {q : Nat} (hq : h.length + (s.take q).length = n) (hw : lz = true → 0 < (s.drop q).length) :
    Mid n lz (all ++ s.take q) (bs ++ [h ++ s.take q]) [] (s.drop q) := by
  refine ⟨?_, ?_, ⟨by simp, fun e => by simp at e; omega⟩, fun l _ => .inr (List.length_pos_iff.1 (hw l))⟩
  · rw [m.whole]; simp
  · intro b hb
    rcases List.mem_append.1 hb with hb | hb
    · exact m.each b hb
    · simp at hb; subst hb; rw [List.length_append]; exact hq
/-- no block is whole, or it is kept -/
theorem Mid.off {n : Nat} {lz : Bool} {all s : List UInt8} {bs : List (List UInt8)} {h : List UInt8} (hs : s ≠ []) (m : Mid n lz all bs h s) {q : Nat} (hq : q = min s.length (n - h.length))
    (hw : ¬ (h.length + (s.take q).length = n ∧ (lz = true → 0 < (s.drop q).length))) : Mid n lz (all ++ s.take q) bs (h ++ s.take q) (s.drop q) := by
  have hh := m.held.1
  have hsl := List.length_pos_iff.2 hs
  have ht : (s.take q).length = q := by rw [List.length_take]; omega
  have hd : (s.drop q).length = s.length - q := List.length_drop
  refine ⟨by rw [m.whole]; simp, m.each, ⟨by rw [List.length_append]; omega, fun e => ?_⟩, fun l hb => .inl ?_⟩
  · rw [List.length_append] at e
    cases hlz : lz with
    | true => rfl
    | false => exact absurd ⟨e, fun c => by rw [hlz] at c; cases c⟩ hw
  · intro e
    have := congrArg List.length e
    rw [List.length_append, ht] at this
    simp at this
    omega
end Go.Proofs.YtpampgkhjcfeaaaDoor

namespace Go.Proofs.YtpampgkhjcfeaaaDoor
set_option maxRecDepth 50000
open Go.RowKit

/-- bytes as cells, as a text, and a text's bytes -/
def cs (l : List UInt8) : List Value := l.map fun b => Value.int .u8 b.toNat
def tx (l : List UInt8) : ByteArray := ⟨l.toArray⟩
def tl (s : ByteArray) : List UInt8 := s.data.toList
theorem cs_tl (s : ByteArray) : Lib.strCells s = cs (tl s) := rfl
theorem cs_append (a b : List UInt8) : cs (a ++ b) = cs a ++ cs b := by simp [cs]
theorem cs_length (a : List UInt8) : (cs a).length = a.length := by simp [cs]
theorem tl_tx (l : List UInt8) : tl (tx l) = l := by simp [tl, tx]
theorem tx_tl (s : ByteArray) : tx (tl s) = s := by unfold tx tl; rw [Array.toArray_toList]
theorem tl_length (s : ByteArray) : (tl s).length = s.size := by unfold tl; rw [Array.length_toList]; rfl
theorem tx_size (l : List UInt8) : (tx l).size = l.length := by rw [← tl_length, tl_tx]
theorem tx_inj {a b : List UInt8} (h : tx a = tx b) : a = b := by rw [← tl_tx a, h, tl_tx]
theorem tl_inj {a b : ByteArray} (h : tl a = tl b) : a = b := by rw [← tx_tl a, h, tx_tl]
theorem cs_at (l : List UInt8) (k : Nat) (h : k < (cs l).length) : (cs l)[k] = .int .u8 ((l[k]'(by simpa [cs] using h)).toNat : Int) := by simp [cs]
theorem cs_one (l : List UInt8) : ∀ u ∈ cs l, u.oneCell' = true := by
  intro u hu
  obtain ⟨x, _, rfl⟩ := List.mem_map.1 hu
  rfl

theorem fd_info_u8 : (Tryd.prog.info? 5).map (fun i => (i.zero, i.size, i.bytes)) = some (some (.int .u8 0), 1, 1) := by kernel_rfl

/-- a row of bytes as a text -/
theorem conv_text (w : World) {B : Nat} {v : Value} {n : Nat} {l : List UInt8} (h : w.ownsRow B 5 1 v n (cs l)) : (convert 80 9 v).run Tryd.prog w = .ok (.string (tx l)) w := by
  rcases h.2 with ⟨rfl, rfl⟩ | ⟨g, cap, cur, rfl, _, hg, h1, h2, h3, h4⟩
  · obtain rfl : l = [] := by have := h.1; rw [cs_length] at this; exact List.eq_nil_of_length_eq_zero (by omega)
    exact Lib.run_convert_nil_bytes w 80 9 5 0 Tryd.underlying80 Tryd.underlying5 Tryd.underlying9
  · have hn : l.length = n := by have := h.1; rw [cs_length] at this; omega
    have hR := Reads.of_own h
    have e : tx l = strOfNums (l.map fun b => (b.toNat : Int)) := by
      unfold tx strOfNums
      congr 1
      congr 1
      rw [List.map_map]
      conv => lhs; rw [← List.map_id l]
      exact List.map_congr_left fun b _ => by simp
    rw [e]
    refine run_convert_bytes_arg w 80 5 Tryd.underlying80 Tryd.underlying5 g 0 n cap _ (by simpa using hn) (fun i hi => ?_) 9 Tryd.underlying9
    obtain ⟨b', off', hb', _, hc⟩ := hR i (by rw [cs_length]; omega)
    injection hb' with hb'
    injection hb' with e1 e2
    subst e1; subst e2
    rw [hc, cs_at]
    simp [List.getD, List.getElem?_eq_getElem (show i < l.length by omega)]

theorem below_step {a b c : World} (h : Below a.heap.size a b) (k : Below b.heap.size b c) : Below a.heap.size a c := h.trans (k.mono h.size)

/-- memory is as it was, but for the blocks of M and new ones -/
structure Kept (M : Nat → Prop) (w w' : World) : Prop where
  os : w'.os = w.os
  tape : w'.tape = w.tape
  output : w'.output = w.output
  size : w.heap.size ≤ w'.heap.size
  block : ∀ k, k < w.heap.size → ¬ M k → w'.heap[k]? = w.heap[k]?
section
variable {M M' : Nat → Prop} {a b c w w' : World}
theorem Kept.refl (M : Nat → Prop) (w : World) : Kept M w w := ⟨rfl, rfl, rfl, Nat.le_refl _, fun _ _ _ => rfl⟩
theorem Kept.trans (h : Kept M a b) (k : Kept M' b c) (hM : ∀ x, x < a.heap.size → M' x → M x) : Kept M a c :=
  ⟨k.os.trans h.os, k.tape.trans h.tape, k.output.trans h.output, Nat.le_trans h.size k.size, fun i hi hn => (k.block i (Nat.lt_of_lt_of_le hi h.size) fun x => hn (hM i hi x)).trans (h.block i hi hn)⟩
theorem Kept.mono (h : Kept M w w') (hM : ∀ x, x < w.heap.size → M x → M' x) : Kept M' w w' := ⟨h.os, h.tape, h.output, h.size, fun i hi hn => h.block i hi fun x => hn (hM i hi x)⟩
theorem Kept.of_below (h : Below w.heap.size w w') : Kept M w w' := ⟨h.os, h.tape, h.output, h.size, fun i hi _ => h.block i hi⟩
theorem Kept.below {B : Nat} (h : Kept M w w') (hB : B ≤ w.heap.size) (hM : ∀ x, M x → B ≤ x) : Below B w w' :=
  ⟨h.os, h.tape, h.output, h.size, fun i hi => h.block i (by omega) fun x => by have := hM i x; omega⟩
theorem Kept.drew (h : Kept M w w') : Kept M w w'.drew := ⟨h.os, h.tape, h.output, h.size, h.block⟩
theorem Kept.set (h : Kept M w w') {p : Addr} (hp : M p.block ∨ w.heap.size ≤ p.block) (u : Value) : Kept M w (w'.setCell p u) :=
  ⟨h.os, h.tape, h.output, by simpa [World.setCell] using h.size, fun i hi hn => (Below.heap_setCell w' p u i (fun e => by subst e; rcases hp with hp | hp; exact hn hp; omega)).trans (h.block i hi hn)⟩
theorem Kept.alloc (h : Kept M w w') (o : Obj) : Kept M w (w'.alloc o) :=
  ⟨h.os, h.tape, h.output, Nat.le_trans h.size (by simp), fun i hi hn => (Below.heap_alloc w' o i (Nat.lt_of_lt_of_le hi h.size)).trans (h.block i hi hn)⟩
theorem Kept.grown (h : Kept M a w) {row : Option Nat} (hg : w.grownBy w' row) (hr : ∀ k, row = some k → M k ∨ a.heap.size ≤ k) : Kept M a w' :=
  ⟨hg.os.trans h.os, hg.tape.trans h.tape, hg.output.trans h.output, Nat.le_trans h.size hg.size, fun i hi hn => (hg.block i (Nat.lt_of_lt_of_le hi h.size) (fun e => by rcases hr i e.symm with x | x; exact hn x; omega)).trans (h.block i hi hn)⟩
theorem Kept.grownBy (h : Kept (fun _ => False) w w') (row : Option Nat) : w.grownBy w' row := ⟨h.os, h.tape, h.output, h.size, fun i hi _ => h.block i hi id⟩
theorem own_kept {base : Nat} {e : TypeId} {n : Nat} {v : Value} {xs : List Value} (h : w.ownsRow base e 1 v n xs) (hk : Kept M w w') (hM : ∀ k, v.ownBlock = some k → ¬ M k) : w'.ownsRow base e 1 v n xs := by
  refine ⟨h.1, ?_⟩
  rcases h.2 with hn | ⟨g, cap, cur, rfl, hb, hgg, rest⟩
  · exact .inl hn
  · refine .inr ⟨g, cap, cur, rfl, hb, ?_, rest⟩
    rw [hk.block g (Array.getElem?_eq_some_iff.1 hgg).1 (hM g rfl)]
    exact hgg
theorem own_base {base base' : Nat} {e : TypeId} {n : Nat} {v : Value} {xs : List Value} (h : w.ownsRow base e 1 v n xs) (hM : ∀ k, v.ownBlock = some k → base' ≤ k) : w.ownsRow base' e 1 v n xs := by
  refine ⟨h.1, ?_⟩
  rcases h.2 with hn | ⟨g, cap, cur, rfl, hb, rest⟩
  · exact .inl hn
  · exact .inr ⟨g, cap, cur, rfl, hM g rfl, rest⟩
end

/-- the four fields of a feed -/
def FeedRow (w : World) (F n : Nat) (lz : Bool) (v : Value) (t : Nat) : Prop := w.heap[F]? = some (.cells #[.int .i64 (n : Int), .bool lz, v, .int .i64 (t : Int)] 161 (0, 0))
section
variable {w w' : World} {F n : Nat} {lz : Bool} {v : Value} {t : Nat}
theorem FeedRow.lt (h : FeedRow w F n lz v t) : F < w.heap.size := by
  rcases Nat.lt_or_ge F w.heap.size with hl | hl
  · exact hl
  · unfold FeedRow at h; rw [Array.getElem?_eq_none hl] at h; cases h
theorem FeedRow.at_ (h : FeedRow w F n lz v t) : w.cell? ⟨F, 0, none⟩ = some (.int .i64 (n : Int)) ∧ w.cell? ⟨F, 1, none⟩ = some (.bool lz) ∧ w.cell? ⟨F, 2, none⟩ = some v ∧ w.cell? ⟨F, 3, none⟩ = some (.int .i64 (t : Int)) ∧ w.frozen? ⟨F, 2, none⟩ = false ∧ w.frozen? ⟨F, 3, none⟩ = false := by
  unfold FeedRow at h
  refine ⟨?_, ?_, ?_, ?_, ?_, ?_⟩ <;> simp [World.cell?, World.frozen?, h]
theorem FeedRow.keep (h : FeedRow w F n lz v t) {M : Nat → Prop} (hk : Kept M w w') (hM : ¬ M F) : FeedRow w' F n lz v t := (hk.block F h.lt hM).trans h
theorem FeedRow.below (h : FeedRow w F n lz v t) (hk : Below w.heap.size w w') : FeedRow w' F n lz v t := (hk.block F h.lt).trans h
theorem FeedRow.drew (h : FeedRow w F n lz v t) : FeedRow w.drew F n lz v t := h
theorem FeedRow.grown (h : FeedRow w F n lz v t) {row : Option Nat} (hg : w.grownBy w' row) (hr : row ≠ some F) : FeedRow w' F n lz v t := (hg.block F h.lt fun e => hr e.symm).trans h
theorem FeedRow.other (h : FeedRow w F n lz v t) {a : Addr} (ha : F ≠ a.block) (u : Value) : FeedRow (w.setCell a u) F n lz v t := (Below.heap_setCell w a u F ha).trans h
theorem FeedRow.alloc (h : FeedRow w F n lz v t) (o : Obj) : FeedRow (w.alloc o) F n lz v t := (Below.heap_alloc w o F h.lt).trans h
theorem FeedRow.set2 (h : FeedRow w F n lz v t) (v' : Value) : FeedRow (w.setCell ⟨F, 2, none⟩ v') F n lz v' t := by
  unfold FeedRow at *
  simp only [World.setCell, Array.getElem?_modify, if_true, h]; rfl
theorem FeedRow.set3 (h : FeedRow w F n lz v t) (t' : Nat) : FeedRow (w.setCell ⟨F, 3, none⟩ (.int .i64 (t' : Int))) F n lz v t' := by
  unfold FeedRow at *
  simp only [World.setCell, Array.getElem?_modify, if_true, h]; rfl
theorem FeedRow.new (w : World) (n : Nat) (lz : Bool) (v : Value) (t : Nat) : FeedRow (w.alloc (.cells #[.int .i64 (n : Int), .bool lz, v, .int .i64 (t : Int)] 161)) w.heap.size n lz v t := by
  unfold FeedRow World.alloc; exact Array.getElem?_push_size
end

/-- where the row lies to which a text's bytes were put -/
theorem run_append_text (w : World) (base : Nat) (ty : TypeId) {v : Value} {n : Nat} {xs : List Value} (hown : w.ownsRow base 5 1 v n xs) (s : ByteArray) (h : n + s.size ≤ 1000000000) (hbase : base ≤ w.heap.size) :
    ∃ v' w', (Builtin.append_ #[80, 9] ty #[v, .string s]).run Tryd.prog w = .ok v' w' ∧ w'.ownsRow base 5 1 v' (n + s.size) (xs ++ cs (tl s)) ∧ w.grownBy w' v.ownBlock ∧ (v'.ownBlock = v.ownBlock ∨ ∃ g, v'.ownBlock = some g ∧ w.heap.size ≤ g) := by
  obtain ⟨i0, hi, hz0, hz1, hz2⟩ := info_parts fd_info_u8
  have hm : n + s.size ≤ maxLen := by unfold maxLen; omega
  obtain ⟨v', w', hr, h1, h2, _⟩ := Lib.run_append_own_string (P := Tryd.prog) w base 80 9 ty 5 i0 Tryd.underlying80 Tryd.underlying9 hi hz0 hz1 hz2 v n xs hown s hm (by omega) hbase
  refine ⟨v', w', hr, h1, h2, ?_⟩
  rcases hown.2 with ⟨rfl, rfl⟩ | ⟨g, cap, cur, rfl, hbg, hg, hnc, hcm, hcs, htake⟩
  · have hx : xs = [] := List.eq_nil_of_length_eq_zero (by simpa using hown.1)
    subst hx
    obtain ⟨v2, w2, hr2, k1, _, _⟩ := Lib.run_append_own_string (P := Tryd.prog) w w.heap.size 80 9 ty 5 i0 Tryd.underlying80 Tryd.underlying9 hi hz0 hz1 hz2 _ 0 [] (World.ownsRow_nil _ _ _ _) s hm (by omega) (Nat.le_refl _)
    rw [hr] at hr2
    injection hr2 with e1 e2
    subst e1
    cases hv : v'.ownBlock with
    | none => exact .inl rfl
    | some k => exact .inr ⟨k, rfl, (k1.lt k hv).1⟩
  · have hxl : xs.length = n := by simpa using hown.1
    by_cases hroom : n + s.size ≤ cap
    · have hr2 := Lib.run_append_room_string (P := Tryd.prog) w 80 9 ty 5 i0 Tryd.underlying80 Tryd.underlying9 hi hz1 g n cap cur hg s hroom (by omega)
      rw [hr] at hr2
      injection hr2 with e1 e2
      subst e1
      exact .inl rfl
    · have holds : ∀ j u, xs[j]? = some u → w.cell? ((⟨g, 0, none⟩ : Addr).add j) = some u := hown.cells (g := g) rfl
      have hr2 := Lib.run_append_grow_string (P := Tryd.prog) w 80 9 ty 5 i0 (.int .u8 0) Tryd.underlying80 Tryd.underlying9 hi hz0 ⟨g, 0, none⟩ n cap xs (by rw [hz1]; simpa using hxl) holds s (by omega) (by omega) (by rw [hz2]; exact growslice_fits (by omega) (by omega))
      rw [hr] at hr2
      injection hr2 with e1 e2
      subst e1
      exact .inr ⟨_, rfl, Nat.le_refl _⟩

/-- likewise at a step of a statement whose order is open -/
theorem step_append_text {ops : Array Oper} {o : Oper} {a : Act} {w : World} {K : Act → World → Prop} {Q : Exit → Act → World → Prop} {E : Prop} (hgd : o.guard = none) (sl x : Operand)
    (ho : o.op = .call { callee := .builtin .append, args := #[sl, x], argTypes := #[80, 9] })
    (base : Nat) {v : Value} {n : Nat} {xs : List Value} (hs : a.eval sl = v) (hown : w.ownsRow base 5 1 v n xs) (s : ByteArray) (hx : a.eval x = .string s) (hb : n + s.size ≤ 1000000000) (hbase : base ≤ w.heap.size)
    (h : ∀ v' w', w'.ownsRow base 5 1 v' (n + s.size) (xs ++ cs (tl s)) → w.grownBy w' v.ownBlock → (v'.ownBlock = v.ownBlock ∨ ∃ g, v'.ownBlock = some g ∧ w.heap.size ≤ g) → K (a.put o.dst v') w') :
    if Region.wanted o (yielded ops a.tmps) = true then Oper.wp Tryd.prog o a w K Q else E := by
  have hw : Region.wanted o (yielded ops a.tmps) = true := by simp [Region.wanted, hgd]
  rw [if_pos hw]
  obtain ⟨v', w', hr, h1, h2, h3⟩ := run_append_text w base o.type hown s hb hbase
  unfold Oper.wp execOp
  simp only [ho, resolve, invoke, builtin, Sem.run_bind, Sem.run_pure, Result.andThen_ok, List.map_toArray, List.map_cons, List.map_nil, hs, hx, hr]
  exact h v' w' h1 h2 h3
end Go.Proofs.YtpampgkhjcfeaaaDoor

namespace Go.Proofs.YtpampgkhjcfeaaaDoor
set_option maxRecDepth 50000
open Go.ChangeShapes Go.WideShapes Go.ChangeAt Go.RowKit Go.ChangeMaps

theorem weights_all {H : Type} {P : Program} {e : TypeId} : ∀ {l : List (DataW H)} {d : DataW H}, d ∈ l → ∀ n ∈ d.weights P e, n ∈ DataW.weightsAll P e l
  | x :: l, d, hd, n, hn => by
    simp only [DataW.weightsAll, List.mem_append]
    rcases List.mem_cons.1 hd with rfl | hd
    · exact .inl hn
    · exact .inr (weights_all hd n hn)

theorem open_texts {H : Type} {enc : TypeId × Value → H} {P : Program} {W : World} {t e : TypeId} {v : Value} {d : DataW H} {ps : List MemPlace} (ht : P.underlying t = some (.slice e)) (he : P.underlying e = some .string) (hc : P.cellsOf e = 1)
    {r : Reach} {b0 : Nat} (hval : Value.okWide P W r b0 t v) (h : DataW.Trod enc P W 0 (fun _ => true) true t v d ps) (hlt : ∀ x ∈ ps, x.block < W.heap.size)
    {ts : List TypeId} {ds : List (DataW H)} {j : Nat} (hz : (DataW.weightsEach P ts ds).all (· ≤ reachBytes) = true) (hj : ts[j]? = some t) (hd : ds[j]? = some d) :
    ∃ A c, ∃ ss : List ByteArray, v = .slice A ss.length c ∧ ss.length ≤ c ∧ c ≤ maxLen ∧ (∀ s ∈ ss, s.size ≤ 140737488351232) ∧ Reads W W.heap.size A (ss.map Value.string) := by
  obtain ⟨a0, len, cap, rfl⟩ := okWide_slice ht hval
  obtain ⟨fuel, hf⟩ := h
  rcases open_strings ht he hc hf with ⟨hcs, hx⟩ | ⟨a, len', cap', ss, hcs, _, hl, hm, hs, hx, hcell, hwz⟩
  · simp [Value.cells] at hcs
    obtain ⟨rfl, rfl, rfl⟩ := hcs
    exact ⟨none, 0, [], rfl, Nat.le_refl _, Nat.zero_le _, by simp, Reads.nil_⟩
  · simp [Value.cells] at hcs
    obtain ⟨rfl, rfl, rfl⟩ := hcs
    simp only [Prod.mk.injEq] at hx
    obtain ⟨rfl, rfl⟩ := hx
    simp only [if_true] at hs
    have hlen : (ss.take len).length = len := by simp; omega
    refine ⟨some a, cap, ss.take len, by rw [hlen], by omega, hm, fun s hs2 => ?_, fun i hi => ?_⟩
    · have hmem : (DataW.lit (.string s.data.toList) : DataW H) ∈ strs (ss.take len) := List.mem_map.2 ⟨s, hs2, rfl⟩
      have h2 := DataW.weights_mem_each hj hd s.data.toList.length (by
        rw [DataW.weights, ht]
        simp only [List.mem_cons, List.mem_append]
        exact .inr (.inl (weights_all hmem _ (by simp [DataW.weights]))))
      have h3 := of_decide_eq_true (List.all_eq_true.1 hz _ h2)
      have h4 : s.data.toList.length = s.size := by rw [Array.length_toList]; rfl
      rw [h4] at h3
      simpa [reachBytes] using h3
    · simp only [List.length_map, hlen] at hi
      obtain ⟨b, off, spot⟩ := a
      have hspot : spot = none := by simpa [Addr.add] using World.cell?_spot (hcell 0 (by omega))
      subst hspot
      refine ⟨b, off, rfl, hlt (.cell b off) (MemPlace.mem_row.2 ⟨0, by omega, by simp⟩), ?_⟩
      rw [← add_plain, hcell i (by omega)]
      have : i < ss.length := by omega
      simp [List.getD, List.getElem?_eq_getElem this]

theorem open_text {H : Type} {enc : TypeId × Value → H} {P : Program} {W : World} {t : TypeId} {v : Value} {d : DataW H} {ps : List MemPlace} (ht : P.underlying t = some .string)
    {r : Reach} {b0 : Nat} (hval : Value.okWide P W r b0 t v) (h : DataW.Trod enc P W 0 (fun _ => true) true t v d ps)
    {ts : List TypeId} {ds : List (DataW H)} {j : Nat} (hz : (DataW.weightsEach P ts ds).all (· ≤ reachBytes) = true) (hj : ts[j]? = some t) (hd : ds[j]? = some d) :
    ∃ s : ByteArray, v = .string s ∧ s.size ≤ 140737488351232 := by
  obtain ⟨s, rfl, rfl, rfl, _⟩ := open_string ht hval h
  refine ⟨s, rfl, ?_⟩
  have h2 := DataW.weights_mem_each (P := P) hj hd s.data.toList.length (by simp [DataW.weights])
  have h3 := of_decide_eq_true (List.all_eq_true.1 hz _ h2)
  have h4 : s.data.toList.length = s.size := by rw [Array.length_toList]; rfl
  rw [h4] at h3
  simpa [reachBytes] using h3
end Go.Proofs.YtpampgkhjcfeaaaDoor
