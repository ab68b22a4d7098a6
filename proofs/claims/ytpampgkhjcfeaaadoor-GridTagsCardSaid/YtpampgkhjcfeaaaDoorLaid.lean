/- words.laid, at words of 32 and of 64 bits, by its contract: the bytes of all words, one word behind the other, in any order of bytes that a function value tells. Conditions: the words fit their kind, the slice is no longer than an int tells by a quarter or an eighth. -/
import Derived.Test.YtpampgkhjcfeaaaDoorKit
import Derived.LoopTactic
import Derived.IntWalk
import Derived.Lib.Hide
import Derived.Outline
import Derived.Deep.DeepFit
namespace Go.Proofs.YtpampgkhjcfeaaaDoor
set_option maxRecDepth 50000
open Go.RowKit

/-- the bytes of a word, n of them, the one of place p i at i -/
def bytesOf (p : Nat → Nat) (n x : Nat) : List Nat := (List.range n).map fun i => x / 2 ^ (8 * p i) % 256
def u8s (l : List Nat) : List Value := l.map fun x : Nat => .int .u8 (x : Int)
def u32s (l : List Nat) : List Value := l.map fun x : Nat => .int .u32 (x : Int)
def u64s (l : List Nat) : List Value := l.map fun x : Nat => .int .u64 (x : Int)

/-- function number g tells the place p i of the byte that stands at i, of n -/
def Orders (g : FuncId) (p : Nat → Nat) (n : Nat) : Prop := (∀ (args : Array Value) (w : World), (callFunc g args).run Tryd.prog w = .ok (.enter g args) w) ∧
  ∀ (i : Nat) (w : World), i < n → Calls Tryd.prog g #[.int .i64 (i : Int), .int .i64 (n : Int)] w fun e w' => e = .returned (.int .i64 (p i : Nat)) ∧ w = w'

theorem enters {P : Program} {f : FuncId} {fn : Func} (hf : P.funcs[f]? = some fn) (hname : (fn.name == "runtime.NumGoroutine") = false) (hb : fn.body.isNone = false) (args : Array Value) (w : World) :
    (callFunc f args).run P w = .ok (.enter f args) w := by
  simp only [beq_eq_false_iff_ne, ne_eq] at hname
  have hb' : ¬ fn.body = none := fun h => by rw [h] at hb; cases hb
  simp [callFunc, hf, hname, hb']

theorem low_any (n : Nat) : Orders 62 (fun i => i) n := ⟨fun args w => enters Tryd.func62 (by kernel_rfl) (by kernel_rfl) args w, fun i w _ => by
  go_enter Tryd.func62, Tryd.ntmps62
  go_wp2
  go_ret
  exact ⟨rfl, rfl⟩⟩

theorem Tryd.info5 : (Tryd.prog.info? 5).map (fun i => (i.zero, i.size, i.bytes)) = some (some (.int .u8 0), 1, 1) := by kernel_rfl

theorem bytesOf_snoc (p : Nat → Nat) (n x : Nat) : bytesOf p (n + 1) x = bytesOf p n x ++ [x / 2 ^ (8 * p n) % 256] := by
  unfold bytesOf; rw [List.range_succ, List.map_append]; rfl
theorem bytesOf_length (p : Nat → Nat) (n x : Nat) : (bytesOf p n x).length = n := by simp [bytesOf]
theorem u8s_append (a b : List Nat) : u8s (a ++ b) = u8s a ++ u8s b := by simp [u8s]
theorem u8s_length (a : List Nat) : (u8s a).length = a.length := by simp [u8s]
theorem u32s_length (a : List Nat) : (u32s a).length = a.length := by simp [u32s]
theorem u64s_length (a : List Nat) : (u64s a).length = a.length := by simp [u64s]
theorem flat_snoc (f : Nat → List Nat) (xs : List Nat) (k : Nat) (h : k < xs.length) : (xs.take (k + 1)).flatMap f = (xs.take k).flatMap f ++ f xs[k] := by
  rw [List.take_succ_eq_append_getElem h, List.flatMap_append]; simp
theorem u32_at (xs : List Nat) (k : Nat) (h : k < (u32s xs).length) : (u32s xs)[k] = .int .u32 ((xs[k]'(by simpa [u32s] using h) : Nat) : Int) := by simp [u32s]
theorem u64_at (xs : List Nat) (k : Nat) (h : k < (u64s xs).length) : (u64s xs)[k] = .int .u64 ((xs[k]'(by simpa [u64s] using h) : Nat) : Int) := by simp [u64s]
theorem u8_at (xs : List Nat) (k : Nat) (h : k < (u8s xs).length) : (u8s xs)[k] = .int .u8 ((xs[k]'(by simpa [u8s] using h) : Nat) : Int) := by simp [u8s]

theorem one_new (w : World) (u : Value) (t : TypeId) : ∀ j v, [u][j]? = some v → (w.alloc (.cells #[u] t)).cell? ((⟨w.heap.size, 0, none⟩ : Addr).add j) = some v := by
  intro j v hj
  match j, hj with
  | 0, hj => simp at hj; subst hj; simp [Addr.add]
theorem one_cell (u : Value) (h : u.oneCell' = true) : ∀ v ∈ [u], v.oneCell' = true := by
  intro v hv; simp at hv; subst hv; exact h
theorem rel_step {w wr w2 : World} {e : TypeId} {v v' : Value} {n n' : Nat} {xs ys : List Value} {o : Obj} (hb : Below w.heap.size w wr) (hsz : w.heap.size ≤ wr.heap.size) (hown : wr.ownsRow w.heap.size e 1 v n xs)
    (hown2 : w2.ownsRow w.heap.size e 1 v' n' ys) (hg : (wr.alloc o).grownBy w2 v.ownBlock) : w2.ownsRow w.heap.size e 1 v' n' ys ∧ Below w.heap.size w w2 :=
  ⟨hown2, (hb.alloc hsz o).grown hg (by simp; omega) (fun k hk => (hown.lt k hk).1)⟩

set_option maxHeartbeats 1600000 in
theorem laid64_any (g : FuncId) (p : Nat → Nat) (hp : ∀ i, i < 8 → p i < 8) (ho : Orders g p 8) (A : Option Addr) (c : Nat) (xs : List Nat) (w : World) (hr : Reads w w.heap.size A (u64s xs)) (hlen : xs.length ≤ 1000000) (hx : ∀ x ∈ xs, x < 2 ^ 64) :
    Calls Tryd.prog 61 #[.slice A xs.length c, .int .i64 8, .func (.func g) #[] #[]] w fun e w' => ∃ v, e = .returned v ∧ w'.ownsRow w.heap.size 5 1 v (8 * xs.length) (u8s (xs.flatMap (bytesOf p 8))) ∧ Below w.heap.size w w' := by
  obtain ⟨i0, hi, hz0, hz1, hz2⟩ := info_parts Tryd.info5
  obtain ⟨M, hM⟩ : ∃ M : Nat, (xs.length : Int) * 8 = (M : Int) := ⟨xs.length * 8, by simp⟩
  have hMb : M ≤ 8000000 := by omega
  have hlen63 : xs.length ≤ 9223372036854775807 := by omega
  obtain ⟨hcf, hoi⟩ := ho
  have hoi4 : ∀ (i : Nat) (w : World), i < 8 → Calls Tryd.prog g #[.int .i64 (i : Int), .int .i64 8] w fun e w' => e = .returned (.int .i64 (p i : Nat)) ∧ w = w' := hoi
  have Ho := Lib.hid hoi4
  have Hx := Lib.hid hx
  have Hp := Lib.hid hp
  have Hr := Lib.hid hr
  clear hoi hoi4 hx hp hr
  go_enter Tryd.func61, Tryd.ntmps61
  go_wp2_with (at_make; refine wpList_make_own _ rfl _ _ 80 rfl w.heap.size 5 i0 (.int .u8 0) 1 Tryd.underlying80 hi hz0 hz1 _ _ _ M rfl rfl (by omega) ?c1 ?c2 ?c3 ?_)
  case c1 => simp [hz2]; omega
  case c2 => unfold maxLen; omega
  case c3 => exact Nat.le_refl _
  intro w1 hown1 hg1
  have hb1 : Below w.heap.size w w1 := (Below.refl _ _).grown hg1 (Nat.le_refl _) (by simp)
  clear hg1
  go_wp2
  go_loopw [7, 18] (fun v i wr => ∃ k : Nat, k ≤ xs.length ∧ i = .int .i64 k ∧ wr.ownsRow w.heap.size 5 1 v (8 * k) (u8s ((xs.take k).flatMap (bytesOf p 8))) ∧ Below w.heap.size w wr) (fun _ i _ => xs.length - (intOf i).toNat)
  case atStart => exact ⟨0, Nat.zero_le _, rfl, hown1, hb1⟩
  case round =>
    obtain ⟨k, hk, rfl, hown, hb⟩ := hrel
    by_cases hlt : k < xs.length
    · obtain ⟨b, off, rfl, hbB, hcell⟩ := (Hr.out.below hb) k (by rw [u64s_length]; exact hlt)
      rw [u64_at] at hcell
      have hx0 := Hx.out xs[k] (List.getElem_mem hlt)
      have hfl := flat_snoc (bytesOf p 8) xs k hlt
      have Hfl := Lib.hid hfl
      clear hfl
      generalize hxx : xs[k] = x at *
      have hx1 : x ≤ 18446744073709551615 := by omega
      clear hxx hown1 hb1 hM
      generalize (xs.take k).flatMap (bytesOf p 8) = F at *
      go_wp2
      obtain ⟨wo, rfl⟩ : ∃ wo : World, wo = wr := ⟨_, rfl⟩
      go_loopw [7, 23] (fun v j wr => ∃ m : Nat, m ≤ 8 ∧ j = .int .i64 m ∧ wr.ownsRow w.heap.size 5 1 v (8 * k + m) (u8s (F ++ bytesOf p m x)) ∧ Below w.heap.size w wr) (fun _ j _ => 8 - (intOf j).toNat)
      case atStart => exact ⟨0, Nat.zero_le _, rfl, by simpa [bytesOf] using hown, hb⟩
      case round =>
        obtain ⟨m, hm, rfl, hown, hb⟩ := hrel
        by_cases hm4 : m < 8
        · have hpm := Hp.out m hm4
          have hsz := hb.size
          go_wp2_with (first
            | (at_builtin; refine wpList_append_own _ rfl (.tmp 26) (.tmp 35) 80 rfl w.heap.size 5 i0 (.int .u8 0) 1 1 Tryd.underlying80 hi hz0 hz1 hz2 rfl (by decide) _ _ _ rfl (hown.alloc _) ⟨wr.heap.size, 0, none⟩ 1 1 [.int .u8 ((x : Int) / 2 ^ (8 * p m) % 256)] rfl rfl ?c1 ?c2 ?c3 ?c4 ?c5 ?_)
            | (with_reducible refine (Ho.out m _ hm4).mono ?_; rintro e w' ⟨rfl, rfl⟩))
          case c1 => exact one_new _ _ _
          case c2 => exact one_cell _ rfl
          case c3 => unfold maxLen; omega
          case c4 => omega
          case c5 => simp; omega
          intro v' w2 hown2 hg2 _
          have R := rel_step hb hsz hown hown2 hg2
          have hbs := bytesOf_snoc p m x
          have Hbs := Lib.hid hbs
          clear hbs hown2 hg2 hown hb
          go_wp2
          go_roundw
          case rel => exact ⟨m + 1, by omega, by go_num, by rw [Hbs.out, ← List.append_assoc, u8s_append, ← Nat.add_assoc]; simpa [u8s] using R.1, R.2⟩
          case measure => simp [intOf]; omega
        · obtain rfl : m = 8 := by omega
          go_wp2
          go_roundw
          case rel => exact ⟨k + 1, by omega, by go_num, by rw [Hfl.out, Nat.mul_add]; exact hown, hb⟩
          case measure => simp [intOf]; omega
    · obtain rfl : k = xs.length := by omega
      rw [List.take_length] at hown
      go_wp2
      go_ret
      exact ⟨_, rfl, hown, hb⟩
end Go.Proofs.YtpampgkhjcfeaaaDoor
