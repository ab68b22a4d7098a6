/- Sum and Of of package blake by their contracts: the sum of all that came. Conditions: those typed. -/
import Derived.Test.YtpampgkhjcfeaaaDoorBkc
import Derived.Test.YtpampgkhjcfeaaaDoorWb
namespace Go.Proofs.YtpampgkhjcfeaaaDoor
set_option maxRecDepth 50000
open Go.RowKit Bl

/-- the first k blocks -/
def blocksOf : Nat → List UInt8 → List (List UInt8)
  | 0, _ => []
  | k + 1, Y => Y.take 128 :: blocksOf k (Y.drop 128)
theorem blocksOf_length : ∀ (k : Nat) (Y : List UInt8), (blocksOf k Y).length = k
  | 0, _ => rfl
  | k + 1, Y => by rw [blocksOf, List.length_cons, blocksOf_length k]
theorem blocksOf_flat : ∀ (k : Nat) (Y : List UInt8), k * 128 ≤ Y.length → (blocksOf k Y).flatten = Y.take (k * 128) ∧ ∀ b ∈ blocksOf k Y, b.length = 128
  | 0, Y, _ => by simp [blocksOf]
  | k + 1, Y, h => by
    obtain ⟨h1, h2⟩ := blocksOf_flat k (Y.drop 128) (by rw [List.length_drop]; omega)
    refine ⟨?_, fun b hb => ?_⟩
    · rw [blocksOf, List.flatten_cons, h1, show (k + 1) * 128 = 128 + k * 128 by omega, List.take_add]
    · rcases List.mem_cons.1 hb with rfl | hb
      · rw [List.length_take]; omega
      · exact h2 b hb
/-- how many blocks are compressed ahead of the last one -/
def lz (X : List UInt8) : Nat := (X.length - 1) / 128
theorem lz_cut (X : List UInt8) : Cut 128 true X (blocksOf (lz X) X) (X.drop (lz X * 128)) := by
  have hz : lz X * 128 ≤ X.length := by unfold lz; omega
  obtain ⟨h1, h2⟩ := blocksOf_flat (lz X) X hz
  refine ⟨by rw [h1, List.take_append_drop], h2, ⟨by rw [List.length_drop]; unfold lz; omega, fun _ => rfl⟩, fun _ hne => ?_⟩
  have hp : 0 < lz X := by
    rcases Nat.eq_zero_or_pos (lz X) with h | h
    · rw [h] at hne; exact absurd rfl hne
    · exact h
  intro e
  have := congrArg List.length e
  rw [List.length_drop] at this
  unfold lz at hp this hz
  simp at this
  omega
/-- the state behind all bytes, the last block with them -/
def blkSt (kl n : Nat) (X : List UInt8) : List Nat := comp (stN (h0 kl n) (blocksOf (lz X) X) (lz X)) (blockW (nats (fill128 (X.drop (lz X * 128))))) X.length true
theorem blk_one {kl n : Nat} {X l : List UInt8} {bs : List (List UInt8)} (h : Cut 128 true X bs l) : comp (stN (h0 kl n) bs bs.length) (blockW (nats (fill128 l))) X.length true = blkSt kl n X := by
  obtain ⟨rfl, rfl⟩ := cut_one h (lz_cut X)
  unfold blkSt
  rw [blocksOf_length]
def bytesL (l : List Nat) : List UInt8 := l.map UInt8.ofNat
theorem cs_bytesL (l : List Nat) (h : ∀ x ∈ l, x < 256) : cs (bytesL l) = u8s l := by
  unfold cs bytesL u8s
  rw [List.map_map]
  refine List.map_congr_left fun x hx => ?_
  have := h x hx
  have e : (UInt8.ofNat x).toNat = x := by rw [UInt8.toNat_ofNat']; omega
  show Value.int .u8 ((UInt8.ofNat x).toNat : Int) = _
  rw [e]
theorem bytesOf_lt (p : Nat → Nat) (n x : Nat) : ∀ b ∈ bytesOf p n x, b < 256 := by
  intro b hb
  simp only [bytesOf, List.mem_map] at hb
  obtain ⟨i, _, rfl⟩ := hb
  exact Nat.mod_lt _ (by decide)
/-- the state's words as bytes -/
def outL (st : List Nat) : List UInt8 := bytesL (st.flatMap (bytesOf ups 8))
theorem flat8_lt (st : List Nat) : ∀ x ∈ st.flatMap (bytesOf ups 8), x < 256 := by
  intro x hx
  obtain ⟨y, _, hy⟩ := List.mem_flatMap.1 hx
  exact bytesOf_lt _ _ _ x hy
theorem outL_length (st : List Nat) (h : st.length = 8) : (outL st).length = 64 := by
  unfold outL bytesL
  rw [List.length_map, flat_length, h]
/-- the sum of these bytes -/
def blkL (kl n : Nat) (X : List UInt8) : List UInt8 := (outL (blkSt kl n X)).take n

theorem nd_of (ops : List Oper) (n : Nat) (es : List (Value → World → Prop)) (h : ((List.range ops.length).all fun i => decide (i = n) || (match ops[i]? with | some o => o.dst.isSome | none => true)) = true) (he : ∀ v w, Ds es n v w) : ∀ i o, ops[i]? = some o → o.dst = none → ∀ v w, Ds es i v w := by
  intro i o hi hd
  have hl := (List.getElem?_eq_some_iff.1 hi).1
  have := List.all_eq_true.1 h i (List.mem_range.2 hl)
  rw [hi] at this
  simp only [hd, Option.isSome_none, Bool.or_false, decide_eq_true_eq] at this
  rw [this]; exact he
theorem st8_run {w : World} {ev : Operand → Value} {x y : Operand} {o : Oper} {B : Nat} {C C' : Array Value} (hop : o.op = .store 56 x y) (hx : ev x = .pointer (some ⟨B, 0, none⟩)) (hy : ev y = .agg C') (hR : RowAt w B 56 C) (h8 : C.size = 8) (h8' : C'.size = 8) (h1 : C'.all (·.oneCell') = true) :
    (execOp ev o).run Tryd.prog w = .ok .skip (w.setRow B C') := by
  have h := RowAt.storeAt (P := Tryd.prog) hR (by rw [h8']; exact q_size8) (by rw [h8, h8']) h1
  simp [execOp, hop, hx, hy, h]
theorem sl8_run {w : World} {ev : Operand → Value} {x : Operand} {o : Oper} {B : Nat} (hop : o.op = .slice 56 x none none none) (hx : ev x = .pointer (some ⟨B, 0, none⟩)) : (execOp ev o).run Tryd.prog w = .ok (.value (.slice (some ⟨B, 0, none⟩) 8 8)) w := by
  simp [execOp, hop, hx, go_sem]
theorem sln_run {w : World} {ev : Operand → Value} {x y : Operand} {o : Oper} {g c n : Nat} (hop : o.op = .slice 80 x none (some y) none) (hx : ev x = .slice (some ⟨g, 0, none⟩) 64 c) (hy : ev y = .int .i64 (n : Int)) (hn : n ≤ c) : (execOp ev o).run Tryd.prog w = .ok (.value (.slice (some ⟨g, 0, none⟩) n c)) w := by
  have h1 : (n : Int) ≤ (c : Int) := by omega
  simp [execOp, hop, hx, hy, go_sem, h1]
theorem hint_run (w : World) (H : Nat) (v : Value) (ev : Operand → Value) (x : Operand) (o : Oper) (hop : o.op = .load 3 x) (hx : ev x = .pointer (some ⟨H, 9, none⟩)) (hc : w.cell? ⟨H, 9, none⟩ = some v) : (execOp ev o).run Tryd.prog w = .ok (.value v) w := by
  simp [execOp, hop, hx, hc, go_sem]
theorem Row.take {w : World} {g : Nat} {b : List UInt8} (h : Row w g b) (n : Nat) : Row w g (b.take n) := by
  obtain ⟨cur, fz, h1, h2⟩ := h
  refine ⟨cur, fz, h1, ?_⟩
  have e : cs (b.take n) = (cs b).take (b.take n).length := by
    unfold cs
    rw [List.length_take, ← List.map_take]
    congr 1
    rcases Nat.le_total n b.length with h | h
    · rw [Nat.min_eq_left h]
    · rw [Nat.min_eq_right h, List.take_of_length_le h, List.take_length]
  rw [e, ← h2, List.take_take, List.length_take]
  congr 1; omega
/-- 64 bytes as they are handed out -/
def OutP (b : List UInt8) : Value → World → Prop := fun x w => ∃ g c, x = .slice (some ⟨g, 0, none⟩) 64 c ∧ 64 ≤ c ∧ Row w g b
theorem stable_out (b : List UInt8) : Stable (OutP b) := fun _ _ _ ⟨g, c, e, h0, h⟩ hb => ⟨g, c, e, h0, h.of_eq (hb.block g h.lt)⟩
def SubP (n : Nat) (b : List UInt8) : Value → World → Prop := fun x w => ∃ g c, x = .slice (some ⟨g, 0, none⟩) n c ∧ Row w g b
theorem stable_sub (n : Nat) (b : List UInt8) : Stable (SubP n b) := fun _ _ _ ⟨g, c, e, h⟩ hb => ⟨g, c, e, h.of_eq (hb.block g h.lt)⟩
def FillP (l : List UInt8) : Value → World → Prop := fun x w => ∃ g, x = .slice (some ⟨g, 0, none⟩) 128 128 ∧ Row w g (fill128 l)
theorem stable_fill (l : List UInt8) : Stable (FillP l) := fun _ _ _ ⟨g, e, h⟩ hb => ⟨g, e, h.of_eq (hb.block g h.lt)⟩
def NewEight (N : Nat) : Value → World → Prop := fun x w => ∃ B, x = .pointer (some ⟨B, 0, none⟩) ∧ N ≤ B ∧ RowAt w B 56 (wq (List.replicate 8 0))
theorem stable_new8 (N : Nat) : Stable (NewEight N) := fun _ _ _ ⟨B, e, h, h2⟩ hb => ⟨B, e, h, h2.below hb h2.lt⟩
def GotEight (N : Nat) (st : List Nat) : Value → World → Prop := fun x w => ∃ B, x = .pointer (some ⟨B, 0, none⟩) ∧ N ≤ B ∧ RowAt w B 56 (wq st)
theorem stable_got8 (N : Nat) (st : List Nat) : Stable (GotEight N st) := fun _ _ _ ⟨B, e, h, h2⟩ hb => ⟨B, e, h, h2.below hb h2.lt⟩
theorem op_eight {N : Nat} {o : Oper} {a : Act} {w : World} {Q : Exit → Act → World → Prop} (hop : o.op = .alloc 56) (hN : N ≤ w.heap.size) : Does Tryd.prog (NewEight N) o a w Q := by
  have hr : (execOp a.eval o).run Tryd.prog w = .ok (.value (.pointer (some ⟨w.heap.size, 0, none⟩))) (w.alloc (.cells (wq (List.replicate 8 0)) 56)) := by
    simp [execOp, hop, go_sem, wq, u64s]
  unfold Does Oper.wp
  rw [hr]
  exact ⟨_, rfl, ⟨w.heap.size, rfl, hN, RowAt.new _ _ _⟩, (Below.refl _ _).alloc (Nat.le_refl _) _⟩
theorem op_call4 {P : Program} {o : Oper} {a : Act} {w : World} {Q : Exit → Act → World → Prop} {p : Value → World → Prop} {f : FuncId} {x1 x2 x3 x4 : Operand} {ts : Array TypeId} {v1 v2 v3 v4 : Value} (ho : o.op = .call { callee := .value (.func f), args := #[x1, x2, x3, x4], argTypes := ts }) (he : ∀ (args : Array Value) (w : World), (callFunc f args).run P w = .ok (.enter f args) w)
    (h1 : a.eval x1 = v1) (h2 : a.eval x2 = v2) (h3 : a.eval x3 = v3) (h4 : a.eval x4 = v4) (hc : Calls P f #[v1, v2, v3, v4] w fun e w' => ∃ v, e = .returned v ∧ p v w' ∧ Below w.heap.size w w') : Does P p o a w Q := by
  subst h1; subst h2; subst h3; subst h4
  exact op_call ho he hc
section
variable {P : Program} {ops : List Oper} {Q : Exit → Act → World → Prop} {a0 : Act} {w0 : World} {ds es : List (Value → World → Prop)} {n i : Nat} {o : Oper} {D : Nat → Value → World → Prop} {a : Act} {w : World}
theorem t_head (hk : sideOf ops n i = 0) (H : ∀ a w, TCtx ops (Ds ds) a0 w0 o a w → Does P (Ds ds i) o a w Q) : TPart P ops n ds es a0 w0 Q i o := .inr ⟨fun _ => H, fun h => absurd h (by rw [hk]; decide)⟩
theorem t_float (_ : sideOf ops n i = 1) (H : ∀ a w, TCtx ops (Ds ds) a0 w0 o a w → Does P (Ds ds i) o a w Q) (H2 : ∀ a w, TCtx ops (Ds es) a0 w0 o a w → Does P (Ds es i) o a w Q) : TPart P ops n ds es a0 w0 Q i o := .inr ⟨fun _ => H, fun _ => H2⟩
theorem t_behind (hk : sideOf ops n i = 2) (H2 : ∀ a w, TCtx ops (Ds es) a0 w0 o a w → Does P (Ds es i) o a w Q) : TPart P ops n ds es a0 w0 Q i o := .inr ⟨fun h => absurd h (by rw [hk]; decide), fun _ => H2⟩
theorem TCtx.on (C : TCtx ops D a0 w0 o a w) {j : Nat} {o' : Oper} {d : Tmp} (h : o.after.toList.any (fun e => Region.binds .any e && e.on == j) = true) (hj : ops[j]? = some o') (hd : o'.dst = some d) : D j (a.tmps.getD d undef) w := by
  simp only [List.any_eq_true, Bool.and_eq_true, beq_iff_eq] at h
  obtain ⟨e, he, hb, rfl⟩ := h
  exact C.dep e (by simpa using he) hb o' d hj hd
theorem TCtx.was (C : TCtx ops D a0 w0 o a w) (t : Tmp) (h : (ops.all fun o' => o'.dst != some t) = true) : a.tmps.getD t undef = a0.tmps.getD t undef :=
  C.old t fun o' ho e => by have := List.all_eq_true.1 h o' ho; rw [e] at this; simp at this
end

set_option maxHeartbeats 1600000 in
theorem sumhash_any (w : World) (B T H kl n : Nat) (hkl : kl ≤ 64) (hn : n ≤ 64) (X : List UInt8) (h : HashIs w B T H kl n X) (hk : QAt w) (hX : X.length ≤ 900000) :
    Calls Tryd.prog 59 #[.pointer (some ⟨H, 0, none⟩)] w fun e w' => e = .returned (.string (tx (blkL kl n X))) ∧ Below w.heap.size w w' := by
  obtain ⟨F, v, l, bs, h1, h2, h3, h4, h5, h6, h7, h8, h9, h10, h11⟩ := h.ex
  obtain ⟨N, hN⟩ : ∃ N, N = w.heap.size := ⟨_, rfl⟩
  have hcut := cut_count h4
  have hll : l.length ≤ 128 := h4.held.1
  have hok := stN_ok (h0_ok kl n hkl hn) bs bs.length (by omega)
  have hone := blk_one (kl := kl) (n := n) h4
  obtain ⟨XL, hXL⟩ : ∃ XL, XL = X.length := ⟨_, rfl⟩
  have hzl : (blkSt kl n X).length = 8 := by rw [← hone, comp_length]; exact hok.1
  have hzo : okw (blkSt kl n X) := by rw [← hone]; exact comp_ok hok.2 _ (by omega) _
  obtain ⟨st, hst⟩ : ∃ st, st = stN (h0 kl n) bs bs.length := ⟨_, rfl⟩
  rw [← hst] at h1 hok hone
  have KP := Lib.hid fun (w1 : World) (hb : Below w.heap.size w w1) => show w1.cell? ⟨H, 0, none⟩ = some (.pointer (some ⟨F, 0, none⟩)) ∧ (loadVar 56 ⟨H, 1, none⟩).run Tryd.prog w1 = .ok (.agg (wq st)) w1 ∧
      (Calls Tryd.prog 72 #[.pointer (some ⟨F, 0, none⟩)] w1 fun e w' => ∃ x, e = .returned x ∧ RestP l x w' ∧ Below w1.heap.size w1 w') ∧
      Calls Tryd.prog 71 #[.pointer (some ⟨F, 0, none⟩)] w1 fun e w' => ∃ x, e = .returned x ∧ Is (.int .i64 (XL : Int)) x w' ∧ Below w1.heap.size w1 w' from by
    have k1 : HRow w1 H F st n := h1.keep (Kept.of_below (M := fun _ => False) hb) id
    refine ⟨k1.at_, k1.load hok.1, (rest_any w1 (h2.below hb) l.length l (own_kept (M := fun _ => False) h3 (Kept.of_below hb) fun _ _ => id) (by omega)).mono ?_, (total_any w1 (h2.below hb)).mono ?_⟩
    · rintro e w' ⟨v', rfl, g1, g2⟩
      exact ⟨_, rfl, rest_of g1, g2⟩
    · rintro e w' ⟨rfl, rfl⟩
      exact ⟨_, rfl, by rw [hXL]; rfl, Below.refl _ _⟩
  have KS := Lib.hid fun (w1 : World) (hb : Below w.heap.size w w1) => show w1.cell? ⟨H, 9, none⟩ = some (.int .i64 (n : Int)) from (h1.keep (Kept.of_below (M := fun _ => False) hb) id).size_ hok.1
  rw [← hXL] at hone
  have HOUT : Hid (blkL kl n X = (outL (blkSt kl n X)).take n) := Lib.hid rfl
  generalize blkSt kl n X = zt at *
  
  have CC := Lib.hid fun (w1 : World) (hb : Below w.heap.size w w1) (g : Nat) (hr : Row w1 g (fill128 l)) => show Calls Tryd.prog 74 #[.agg (wq st), .slice (some ⟨g, 0, none⟩) 128 128, .int .u64 (XL : Int), .bool true] w1 fun e w' => ∃ x, e = .returned x ∧ Is (.tuple #[.agg (wq zt), .int .i64 0]) x w' ∧ Below w1.heap.size w1 w' from by
    have hrd := hr.reads
    rw [cs_nats] at hrd
    have hc := comp_any st hok.1 hok.2 (some ⟨g, 0, none⟩) 128 (nats (fill128 l)) (by rw [nats_length, fill128_length l hll]) (nats_lt _) XL (by omega) true w1 (hk.next hb) hrd
    rw [hone] at hc
    refine hc.mono ?_
    rintro e w' ⟨rfl, g2⟩
    exact ⟨_, rfl, rfl, g2⟩
  have hwX : IntKind.u64.wrap (XL : Int) = (XL : Int) := u64_in _ (by omega)
  have HN := Lib.hid hN
  have HLL := Lib.hid hll
  have HZ := Lib.hid (And.intro hzl hzo)
  have HNN := Lib.hid hn
  clear h h1 h2 h3 h4 h5 h6 h7 h8 h9 h10 h11 hk hcut hll hok hone hzl hzo hst hXL hX hkl hN
  go_enter Tryd.func59, Tryd.ntmps59
  go_wp2
  refine wp_region_turn 21 20 _ _ 3 [Is (.pointer (some ⟨H, 0, none⟩)), Is (.pointer (some ⟨H, 0, none⟩)), Is (.pointer (some ⟨H, 1, none⟩)), Is (.agg (wq st)), Is (.pointer (some ⟨H, 0, none⟩)), Is (.pointer (some ⟨H, 0, none⟩)), Is (.pointer (some ⟨H, 0, none⟩)), Is (.pointer (some ⟨F, 0, none⟩)), RestP l, FillP l, Is (.pointer (some ⟨H, 0, none⟩)), Is (.pointer (some ⟨H, 0, none⟩)), Is (.pointer (some ⟨H, 0, none⟩)), Is (.pointer (some ⟨F, 0, none⟩)), Is (.int .i64 (XL : Int)), Is (.int .u64 (XL : Int)), Is (.tuple #[.agg (wq zt), .int .i64 0]), Is (.tuple #[.agg (wq zt), .int .i64 0]), Is (.agg (wq zt)), Is (.int .i64 0), NewEight N, Free, Is (.int .i64 0)] [Is (.pointer (some ⟨H, 0, none⟩)), Is (.pointer (some ⟨H, 0, none⟩)), Is (.pointer (some ⟨H, 1, none⟩)), Is (.agg (wq st)), Is (.pointer (some ⟨H, 0, none⟩)), Is (.pointer (some ⟨H, 0, none⟩)), Is (.pointer (some ⟨H, 0, none⟩)), Is (.pointer (some ⟨F, 0, none⟩)), Free, Free, Is (.pointer (some ⟨H, 0, none⟩)), Is (.pointer (some ⟨H, 0, none⟩)), Is (.pointer (some ⟨H, 0, none⟩)), Is (.pointer (some ⟨F, 0, none⟩)), Is (.int .i64 (XL : Int)), Is (.int .u64 (XL : Int)), Is (.tuple #[.agg (wq zt), .int .i64 0]), Is (.tuple #[.agg (wq zt), .int .i64 0]), Is (.agg (wq zt)), Is (.int .i64 0), GotEight N zt, Free, Is (.int .i64 0)] (by kernel_rfl) (by kernel_rfl) rfl rfl rfl rfl (by decide) rfl rfl ⟨stable_is _, stable_is _, stable_is _, stable_is _, stable_is _, stable_is _, stable_is _, stable_is _, stable_rest _, stable_fill _, stable_is _, stable_is _, stable_is _, stable_is _, stable_is _, stable_is _, stable_is _, stable_is _, stable_is _, stable_is _, stable_new8 _, stable_free, stable_is _, trivial⟩ ⟨stable_is _, stable_is _, stable_is _, stable_is _, stable_is _, stable_is _, stable_is _, stable_is _, stable_free, stable_free, stable_is _, stable_is _, stable_is _, stable_is _, stable_is _, stable_is _, stable_is _, stable_is _, stable_is _, stable_is _, stable_got8 _ _, stable_free, stable_is _, trivial⟩ ⟨.inr fun _ _ _ h => h, .inr fun _ _ _ h => h, .inr fun _ _ _ h => h, .inr fun _ _ _ h => h, .inr fun _ _ _ h => h, .inr fun _ _ _ h => h, .inr fun _ _ _ h => h, .inr fun _ _ _ h => h, .inr fun _ _ _ _ => trivial, .inr fun _ _ _ _ => trivial, .inr fun _ _ _ h => h, .inr fun _ _ _ h => h, .inr fun _ _ _ h => h, .inr fun _ _ _ h => h, .inr fun _ _ _ h => h, .inr fun _ _ _ h => h, .inr fun _ _ _ h => h, .inr fun _ _ _ h => h, .inr fun _ _ _ h => h, .inr fun _ _ _ h => h, .inl rfl, .inr fun _ _ _ h => h, .inr fun _ _ _ h => h, trivial⟩ ⟨?h0, ?h1, ?h2, ?h3, ?h4, ?h5, ?h6, ?h7, ?h8, ?h9, ?h10, ?h11, ?h12, ?h13, ?h14, ?h15, ?h16, ?h17, ?h18, ?h19, ?h20, ?h21, ?h22, trivial⟩ ?turn (by kernel_rfl) ?nd ?fin
  case h0 =>
    exact t_head (by kernel_rfl) fun a w C => op_move (.inl rfl) (C.was 0 (by kernel_rfl))
  case h1 =>
    exact t_head (by kernel_rfl) fun a w C => op_value (hnil_run _ _ _ _ _ rfl (C.on (j := 0) (by kernel_rfl) rfl rfl)) rfl
  case h2 =>
    exact t_head (by kernel_rfl) fun a w C => op_value (hf1_run _ _ _ _ _ rfl (C.on (j := 1) (by kernel_rfl) rfl rfl)) rfl
  case h3 =>
    exact t_head (by kernel_rfl) fun a w C => op_value (harr_run _ _ _ _ _ _ rfl (C.on (j := 2) (by kernel_rfl) rfl rfl) ((KP.out w C.below).2.1)) rfl
  case h4 =>
    exact t_head (by kernel_rfl) fun a w C => op_move (.inl rfl) (C.was 0 (by kernel_rfl))
  case h5 =>
    exact t_head (by kernel_rfl) fun a w C => op_value (hnil_run _ _ _ _ _ rfl (C.on (j := 4) (by kernel_rfl) rfl rfl)) rfl
  case h6 =>
    exact t_head (by kernel_rfl) fun a w C => op_value (hf0_run _ _ _ _ _ rfl (C.on (j := 5) (by kernel_rfl) rfl rfl)) rfl
  case h7 =>
    exact t_head (by kernel_rfl) fun a w C => op_value (hptr_run _ _ F _ _ _ rfl (C.on (j := 6) (by kernel_rfl) rfl rfl) ((KP.out w C.below).1)) rfl
  case h8 =>
    exact t_head (by kernel_rfl) fun a w C => op_call1 rfl (reg_enters Tryd.func72 (by kernel_rfl) (by kernel_rfl)) (C.on (j := 7) (by kernel_rfl) rfl rfl) ((KP.out w C.below).2.2.1)
  case h9 =>
    exact t_head (by kernel_rfl) fun a w C => by
      obtain ⟨A8, c8, e8, r8, n8⟩ : RestP l _ _ := (C.on (j := 8) (by kernel_rfl) rfl rfl)
      exact op_call1 rfl (reg_enters Tryd.func70 (by kernel_rfl) (by kernel_rfl)) e8 ((filled_any A8 c8 l HLL.out w r8 n8).mono fun e w2 h => by obtain ⟨g, rfl, h1, h2, h3⟩ := h; exact ⟨_, rfl, ⟨g, rfl, h1⟩, h3⟩)
  case h10 =>
    exact t_head (by kernel_rfl) fun a w C => op_move (.inl rfl) (C.was 0 (by kernel_rfl))
  case h11 =>
    exact t_head (by kernel_rfl) fun a w C => op_value (hnil_run _ _ _ _ _ rfl (C.on (j := 10) (by kernel_rfl) rfl rfl)) rfl
  case h12 =>
    exact t_head (by kernel_rfl) fun a w C => op_value (hf0_run _ _ _ _ _ rfl (C.on (j := 11) (by kernel_rfl) rfl rfl)) rfl
  case h13 =>
    exact t_head (by kernel_rfl) fun a w C => op_value (hptr_run _ _ F _ _ _ rfl (C.on (j := 12) (by kernel_rfl) rfl rfl) ((KP.out w C.below).1)) rfl
  case h14 =>
    exact t_head (by kernel_rfl) fun a w C => op_call1 rfl (reg_enters Tryd.func71 (by kernel_rfl) (by kernel_rfl)) (C.on (j := 13) (by kernel_rfl) rfl rfl) ((KP.out w C.below).2.2.2)
  case h15 =>
    exact t_head (by kernel_rfl) fun a w C => op_conv rfl (C.on (j := 14) (by kernel_rfl) rfl rfl) (by simp [go_sem, hwX]) rfl
  case h16 =>
    exact t_head (by kernel_rfl) fun a w C => by
      obtain ⟨g9, e9, r9⟩ : FillP l _ _ := (C.on (j := 9) (by kernel_rfl) rfl rfl)
      exact op_call4 rfl (reg_enters Tryd.func74 (by kernel_rfl) (by kernel_rfl)) (C.on (j := 3) (by kernel_rfl) rfl rfl) e9 (C.on (j := 15) (by kernel_rfl) rfl rfl) rfl (CC.out w C.below g9 r9)
  case h17 =>
    exact t_head (by kernel_rfl) fun a w C => op_move (.inl rfl) (C.on (j := 16) (by kernel_rfl) rfl rfl)
  case h18 =>
    exact t_head (by kernel_rfl) fun a w C => op_value (ex_run rfl (C.on (j := 17) (by kernel_rfl) rfl rfl) rfl) rfl
  case h19 =>
    exact t_float (by kernel_rfl) (fun a w C => op_value (ex_run rfl (C.on (j := 17) (by kernel_rfl) rfl rfl) rfl) rfl) (fun a w C => op_value (ex_run rfl (C.on (j := 17) (by kernel_rfl) rfl rfl) rfl) rfl)
  case h20 =>
    exact t_head (by kernel_rfl) fun a w C => op_eight rfl (by rw [HN.out]; exact C.below.size)
  case h21 =>
    exact .inl rfl
  case h22 =>
    exact t_behind (by kernel_rfl) fun a w C => op_move (.inr rfl) (C.on (j := 19) (by kernel_rfl) rfl rfl)
  case turn =>
    intro a w1 C hs
    obtain ⟨B3, e3, hNB, hR⟩ : NewEight N _ _ := hs
    have e25 : a.tmps.getD 25 undef = .agg (wq zt) := C.on (j := 18) (by kernel_rfl) rfl rfl
    unfold Oper.wp
    rw [st8_run rfl e3 e25 hR (by rw [wq_size]; rfl) (by rw [wq_size]; exact HZ.out.1) (wq_one _)]
    exact ⟨rfl, below_setRow C.below (by rw [← HN.out]; exact hNB) _, ⟨B3, e3, hNB, hR.setRow _⟩⟩
  case nd =>
    exact nd_of _ 21 _ (by kernel_rfl) (fun _ _ => trivial)
  case fin =>
    rintro wF hbF _ rfl _ rfl _ rfl _ rfl _ rfl _ rfl _ rfl _ rfl x8 y8 x9 y9 _ rfl _ rfl _ rfl _ rfl _ rfl _ rfl _ rfl _ rfl _ rfl _ rfl q20 x20 x21 y21 _ rfl
    simp only [Fin, setAt, Exit.then, List.setIfInBounds_toArray, List.set_cons_succ, List.set_cons_zero]
    obtain ⟨B3, rfl, hNB, hR⟩ := x20
    have HR3 := Lib.hid hR
    have HBF := Lib.hid hbF
    clear hR hbF y8 y9 y21 CC KP
    go_wp2
    refine wp_region_text [Is (.slice (some ⟨B3, 0, none⟩) 8 8), OutP (outL zt), Is (.pointer (some ⟨H, 0, none⟩)), Is (.pointer (some ⟨H, 0, none⟩)), Is (.pointer (some ⟨H, 9, none⟩)), Is (.int .i64 (n : Int)), SubP n ((outL zt).take n), Is (.string (tx ((outL zt).take n))), Is (.string (tx ((outL zt).take n)))] (by kernel_rfl) (by kernel_rfl) rfl ⟨stable_is _, stable_out _, stable_is _, stable_is _, stable_is _, stable_is _, stable_sub _ _, stable_is _, stable_is _, trivial⟩ ⟨?_, ?_, ?_, ?_, ?_, ?_, ?_, ?_, ?_, trivial⟩ ?_
    · intro a w C
      exact part_on (wanted_free rfl _) (op_value (sl8_run rfl (C.was 3 (by kernel_rfl))) rfl)
    · intro a w C
      have CL : Calls Tryd.prog 47 #[.slice (some ⟨B3, 0, none⟩) 8 8] w fun e w' => ∃ x, e = .returned x ∧ OutP (outL zt) x w' ∧ Below w.heap.size w w' := by
        have hRw := HR3.out.below C.below HR3.out.lt
        have hl := little64_any (some ⟨B3, 0, none⟩) 8 zt w (fun k hk => ⟨B3, 0, rfl, hRw.lt, by rw [Nat.zero_add, hRw.cell]; simp [wq, List.getElem?_eq_getElem hk]⟩) (by rw [HZ.out.1]; decide) HZ.out.2
        rw [HZ.out.1] at hl
        refine hl.mono ?_
        rintro e w' ⟨v, rfl, hown, hb⟩
        obtain ⟨A', c', rfl, hl1, hl2, hl3⟩ := own_form hown
        obtain ⟨g, rfl, hg⟩ := hl2 (by decide)
        have hcap := own_cap hown (by decide)
        have e8 : u8s (zt.flatMap (bytesOf ups 8)) = cs (outL zt) := (cs_bytesL _ (flat8_lt _)).symm
        rw [e8] at hown
        have h64 : (outL zt).length = 64 := outL_length zt HZ.out.1
        have hrow : Row w' g (outL zt) := Row.own (c := c') (by rw [h64]; exact hown)
        exact ⟨_, rfl, ⟨g, c', rfl, hcap.1, hrow⟩, hb⟩
      exact part_on (wanted_free rfl _) (op_call1 rfl (reg_enters Tryd.func47 (by kernel_rfl) (by kernel_rfl)) (C.on (j := 0) (by kernel_rfl) rfl rfl) CL)
    · intro a w C
      exact part_on (wanted_free rfl _) (op_move (.inl rfl) (C.was 0 (by kernel_rfl)))
    · intro a w C
      exact part_on (wanted_free rfl _) (op_value (hnil_run _ _ _ _ _ rfl (C.on (j := 2) (by kernel_rfl) rfl rfl)) rfl)
    · intro a w C
      exact part_on (wanted_free rfl _) (op_value (hf2_run _ _ _ _ _ rfl (C.on (j := 3) (by kernel_rfl) rfl rfl)) rfl)
    · intro a w C
      exact part_on (wanted_free rfl _) (op_value (hint_run _ _ _ _ _ _ rfl (C.on (j := 4) (by kernel_rfl) rfl rfl) (KS.out w (below_step HBF.out C.below))) rfl)
    · intro a w C
      obtain ⟨g1, c1, e1, hc1, r1⟩ : OutP (outL zt) _ _ := C.on (j := 1) (by kernel_rfl) rfl rfl
      exact part_on (wanted_free rfl _) (op_value (sln_run (n := n) rfl e1 (C.on (j := 5) (by kernel_rfl) rfl rfl) (by have := HNN.out; omega)) ⟨g1, c1, rfl, r1.take n⟩)
    · intro a w C
      obtain ⟨g6, c6, e6, r6⟩ : SubP n ((outL zt).take n) _ _ := C.on (j := 6) (by kernel_rfl) rfl rfl
      exact part_on (wanted_free rfl _) (op_conv rfl e6 (conv_row r6 (by rw [List.length_take, outL_length zt HZ.out.1]; have := HNN.out; omega)) rfl)
    · intro a w C
      exact part_on (wanted_free rfl _) (op_move (.inr rfl) (C.on (j := 7) (by kernel_rfl) rfl rfl))
    rintro wG hbG _ rfl xo hxo _ rfl _ rfl _ rfl _ rfl xs hxs _ rfl _ rfl
    simp only [Fin, setAt, Exit.then, List.setIfInBounds_toArray, List.set_cons_succ, List.set_cons_zero]
    clear hxo hxs
    have HBG := Lib.hid hbG
    clear hbG
    go_wp2
    go_ret
    exact ⟨by rw [HOUT.out]; rfl, below_step HBF.out HBG.out⟩
end Go.Proofs.YtpampgkhjcfeaaaDoor
