/- The law file's awake: the chapter's example holds. And the statement WordsTurn: for all words x, y and every int n, bits are turned by n places as the document says, and turned back. No condition. -/
import Derived.Test.YtoknhmilhljadaaSmall
import Derived.Test.YtoknhmilhljadaaTurn
import Derived.Deep.QuietTactic
import Derived.BigQuiet
namespace Go.Proofs.Ytoknhmilhljadaa
open Go.ChangeShapes Go.WideShapes Go.ChangeAt Go.RowKit Rot

theorem left_ex (w : World) : Calls Try.prog 21 #[.int .u32 2147483649, .int .i64 1] w fun e w' => e = .returned (.int .u32 3) ∧ w = w' := by
  have h := left32_any 2147483649 1 (by omega) w
  have e : rotl 32 2147483649 (((1 : Int) % 32).toNat) = 3 := by decide +kernel
  rw [e] at h
  exact h
theorem right_ex (w : World) : Calls Try.prog 25 #[.int .u32 3, .int .i64 1] w fun e w' => e = .returned (.int .u32 2147483649) ∧ w = w' := by
  have h := right32_any 3 1 (by omega) w
  have e : rotl 32 3 ((-(1 : Int) % 32).toNat) = 2147483649 := by decide +kernel
  rw [e] at h
  exact h

set_option maxHeartbeats 800000 in
theorem awake_any (w : World) : Calls Try.prog 8 #[] w fun e w' => e = .returned (.bool true) ∧ Below w.heap.size w w' := by
  have C : Calls Try.prog 12 #[.slice (some ⟨w.heap.size, 0, none⟩) 2 2] (w.alloc (.cells #[.int .u32 1, .int .u32 16909060] 26)) fun e w' => ∃ v, e = .returned v ∧ w'.ownsRow (w.heap.size + 1) 5 1 v 8 (u8s [1, 0, 0, 0, 4, 3, 2, 1]) ∧ Below (w.heap.size + 1) (w.alloc (.cells #[.int .u32 1, .int .u32 16909060] 26)) w' := by
    have h := little32_any (some ⟨w.heap.size, 0, none⟩) 2 [1, 16909060] (w.alloc (.cells #[.int .u32 1, .int .u32 16909060] 26)) (fun k hk => ⟨w.heap.size, 0, rfl, by simp, by
      match k, hk with
      | 0, _ => simp [u32s]
      | 1, _ => simp [u32s]⟩) (by simp) (by simp)
    have e : ([1, 16909060] : List Nat).flatMap (bytesOf ups 4) = [1, 0, 0, 0, 4, 3, 2, 1] := by decide +kernel
    rw [e] at h
    simpa using h
  have H := Lib.hid C
  clear C
  go_enter Try.func8, Try.ntmps8
  go_wp2_with fail
  refine (H.out).mono ?_
  rintro e w1 ⟨v, rfl, hown, hb⟩
  obtain ⟨A, c, rfl, he, hA, hm⟩ := own_form hown
  clear he hm
  obtain ⟨g, rfl, hg⟩ := hA (by omega)
  have h0 : w1.cell? ⟨g, 0, none⟩ = some (.int .u8 1) := by rw [hown.cellAt 0 (by omega)]; rfl
  have h4 : w1.cell? ⟨g, 4, none⟩ = some (.int .u8 4) := by rw [hown.cellAt 4 (by omega)]; rfl
  clear hown hA
  have hb2 : Below w.heap.size w w1 := ((Below.refl _ _).alloc (Nat.le_refl _) _).trans (hb.mono (by omega))
  clear hb H
  go_wp2_with (first
    | (go_at_call 21; refine (left_ex _).mono ?_; rintro e w' ⟨rfl, rfl⟩)
    | (go_at_call 25; refine (right_ex _).mono ?_; rintro e w' ⟨rfl, rfl⟩))
  go_ret
  exact ⟨rfl, hb2⟩

theorem back_left (n : Int) : (n % 32).toNat + (-n % 32).toNat = 0 ∨ (n % 32).toNat + (-n % 32).toNat = 32 := by omega
theorem right_same (n : Int) (y : Nat) (hy : y < 2 ^ 64) : rotl 64 y (64 - (n % 64).toNat) = rotl 64 y (-n % 64).toNat := by
  by_cases h : n % 64 = 0
  · rw [show (n % 64).toNat = 0 from by omega, show (-n % 64).toNat = 0 from by omega, rotl_zero 64 y hy, Nat.sub_zero, rotl_all 64 y hy]
  · rw [show 64 - (n % 64).toNat = (-n % 64).toNat from by omega]

set_option maxHeartbeats 800000 in
theorem turn_any (x y : Nat) (n : Int) (hx : x < 2 ^ 32) (hy : y < 2 ^ 64) (w : World) : Calls Try.prog 5 #[.int .u32 (x : Int), .int .u64 (y : Int), .int .i64 n] w fun e w' => e = .returned (.bool true) ∧ Below w.heap.size w w' := by
  have h1 : rotl 32 (rotl 32 x (n % 32).toNat) (-n % 32).toNat = x := rotl_back 32 x _ _ (back_left n) hx
  have h2 : rotl 32 (rotl 32 x (-n % 32).toNat) (n % 32).toNat = x := rotl_back 32 x _ _ (by have := back_left n; omega) hx
  have hr := right_same n y hy
  have cl := left32_any x n hx
  have cr := right32_any x n hx
  have cll := left32_any (rotl 32 x (-n % 32).toNat) n (rotl_lt 32 x _ (by omega) hx)
  have crr := right32_any (rotl 32 x (n % 32).toNat) n (rotl_lt 32 x _ (by omega) hx)
  rw [h1] at crr
  rw [h2] at cll
  have c64 := right64_any y n hy
  have r64 := refright_any y n (hx := hy)
  simp only [hr] at r64
  have r32 := refleft_any x n (hx := hx)
  clear h1 h2 hr
  generalize rotl 32 x (n % 32).toNat = a at *
  generalize rotl 32 x (-n % 32).toNat = b at *
  generalize rotl 64 y (-n % 64).toNat = c at *
  have Cl := Lib.hid cl
  have Cr := Lib.hid cr
  have Cll := Lib.hid cll
  have Crr := Lib.hid crr
  have C64 := Lib.hid c64
  have R64 := Lib.hid r64
  have R32 := Lib.hid r32
  clear cl cr cll crr c64 r64 r32
  go_enter Try.func5, Try.ntmps5
  go_wp2_with (go_at_call 8; refine (awake_any _).mono ?_; rintro e w1 ⟨rfl, hb⟩)
  refine (Cl.out _).mono ?_
  rintro e w' ⟨rfl, rfl⟩
  go_wp2_with fail
  refine (R32.out _).mono ?_
  rintro e w' ⟨rfl, rfl⟩
  go_wp2_with fail
  refine (C64.out _).mono ?_
  rintro e w' ⟨rfl, rfl⟩
  go_wp2_with fail
  refine (R64.out _).mono ?_
  rintro e w' ⟨rfl, rfl⟩
  go_wp2_with fail
  refine (Cl.out _).mono ?_
  rintro e w' ⟨rfl, rfl⟩
  go_wp2_with fail
  refine (Crr.out _).mono ?_
  rintro e w' ⟨rfl, rfl⟩
  go_wp2_with fail
  refine (Cr.out _).mono ?_
  rintro e w' ⟨rfl, rfl⟩
  go_wp2_with fail
  refine (Cll.out _).mono ?_
  rintro e w' ⟨rfl, rfl⟩
  go_wp2_with fail
  go_ret
  exact ⟨rfl, hb⟩

set_option maxRecDepth 100000 in
theorem turn_lifted (os : Os) (started : os.Started) (H : Type) (enc : TypeId × Value → H) :
    ReturnsInHanded {} Try.checked os 5 .any (Rows.wordsTurnSpec.pre6 enc Try.prog Try.f5 Rows.wordsTurnRow.domain false) (Rows.wordsTurnSpec.post enc Try.prog Try.f5 false true false false) := by
  refine returnsInHanded_of_change_sized (C := Try.checked) prog_own started (by kernel_rfl) Try.func5
    (ChangeSpec.witness6 (enc := enc) (C := Try.checked) false ⟨#[], #[.int .u32 0, .int .u64 0, .int .i64 0], []⟩ 8 (by kernel_rfl) (by kernel_rfl) (by kernel_rfl) (by kernel_rfl)) ?_
  intro W base args ds gs before hval0 hW _ hsz0 _
  have hval : ∀ (j : Nat) t v, Try.f5.params[j]? = some t → args[j]? = some v → Value.okWide Try.prog W .any base t v := hval0
  have hW' := hW
  obtain ⟨p, q, hA0, hV, rfl, _, _⟩ := hW
  have hlt : ∀ x ∈ p, x.block < W.heap.size := fun x hx => hW'.lt x (by simp [hx])
  have hA : DataW.TrodAll enc Try.prog W 0 (fun _ => true) true Try.f5.params.toList args.toList ds p := hA0
  rw [Try.params5] at hA hval
  obtain ⟨v0, vs0, d0, ds0, p0, q0, hargs, rfl, rfl, h0, r0⟩ := trodAll_cons hA
  obtain ⟨v1, vs1, d1, ds1, p1, q1, rfl, rfl, rfl, h1, r1⟩ := trodAll_cons r0
  obtain ⟨v2, vs2, d2, ds2, p2, q2, rfl, rfl, rfl, h2, r2⟩ := trodAll_cons r1
  obtain ⟨rfl, rfl, rfl⟩ := trodAll_nil r2
  obtain rfl : args = #[v0, v1, v2] := by cases args; simp_all
  obtain ⟨rfl, rfl⟩ := trodVars_none hV
  obtain ⟨a0, rfl, rfl, rfl, w0⟩ := open_int Try.underlying26 (hval 0 26 v0 rfl rfl) h0
  obtain ⟨a1, rfl, rfl, rfl, w1⟩ := open_int Try.underlying29 (hval 1 29 v1 rfl rfl) h1
  obtain ⟨a2, rfl, rfl, rfl, w2⟩ := open_int Try.underlying3 (hval 2 3 v2 rfl rfl) h2
  have e0 := wf_u32 a0 w0
  have e1 := wf_u64 a1 w1
  obtain ⟨x, rfl⟩ := Int.eq_ofNat_of_zero_le e0.1
  obtain ⟨y, rfl⟩ := Int.eq_ofNat_of_zero_le e1.1
  refine (turn_any x y a2 (by omega) (by omega) W).mono fun e W' ⟨he, hb⟩ => ?_
  subst he
  exact ⟨_, rfl, post_law prog_laid (by decide +kernel) rfl Try.underlying4 rfl hW' hA0 hlt rfl hb⟩

/-- THE STATEMENT -/
theorem WordsTurn_holds : Rows.WordsTurnSaid :=
  OpenClaim.holds_of_wide 5 Try.f5 rfl rfl rfl rfl rfl rfl rfl ⟨rfl, rfl, rfl, rfl, rfl⟩ rfl rfl rfl rfl rfl (by kernel_rfl) Try.func5 (by kernel_rfl)
    (of_decide_eq_true (by kernel_rfl)) (by unfold Func.isWrapper; first | (rw [if_pos (by decide +kernel)]; kernel_rfl) | (rw [if_neg (by decide +kernel)]; exact ⟨rfl, rfl⟩))
    (fun os started H enc _ => turn_lifted os started H enc)
end Go.Proofs.Ytoknhmilhljadaa
