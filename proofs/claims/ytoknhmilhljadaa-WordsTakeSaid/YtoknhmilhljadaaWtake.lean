/- The statement WordsTake: for every list of bytes, words are taken back from bytes that are enough for whole ones, and from no others. No condition. -/
import Derived.Test.YtoknhmilhljadaaLink
import Derived.Test.YtoknhmilhljadaaWback
import Derived.Test.YtoknhmilhljadaaOpen
namespace Go.Proofs.Ytoknhmilhljadaa
open Go.ChangeShapes Go.WideShapes Go.ChangeAt Go.RowKit

/-- what comes: a slice of n cells and one value more, the slice reads as xs, old memory is as it was -/
def Gives (n : Nat) (y : Value) (xs : List Value) (w : World) (e : Ending) (w' : World) : Prop :=
  ∃ A c, e = .returned (.tuple #[.slice A n c, y]) ∧ Reads w' w'.heap.size A xs ∧ Below w.heap.size w w'

theorem gives_own {n : Nat} {y : Value} {xs : List Value} {w w' : World} {e : Ending} {t : TypeId} (h : ∃ v, e = .returned (.tuple #[v, y]) ∧ w'.ownsRow w.heap.size t 1 v n xs ∧ Below w.heap.size w w') : Gives n y xs w e w' := by
  obtain ⟨v, rfl, hown, hb⟩ := h
  obtain ⟨A, c, rfl, hr⟩ := own_reads hown
  exact ⟨A, c, rfl, hr, hb⟩
theorem gives_nil {y : Value} {w w' : World} {e : Ending} (h : e = .returned (.tuple #[.slice none 0 0, y]) ∧ w = w') : Gives 0 y [] w e w' := by
  obtain ⟨rfl, rfl⟩ := h
  exact ⟨none, 0, rfl, Reads.nil_, Below.refl _ _⟩

/-- all that is asked of the bytes four by four -/
structure Four (bs : List Nat) (N : Nat) (X Y V : List Nat) (err : Int) (ok : Bool) : Prop where
  lx : X.length = N
  ly : Y.length = N
  lv : N ≤ V.length
  same : ∀ k, k < N → V.getD k 0 = Y.getD k 0
  small : V.length ≤ 250000
  xlt : ∀ x ∈ X, x < 2 ^ 32
  ylt : ∀ x ∈ Y, x < 2 ^ 32
  take : ∀ A c w, Reads w w.heap.size A (u8s bs) → Calls Try.prog 16 #[.slice A bs.length c] w (Gives N (.int .i64 err) (u32s X) w)
  words : ∀ A c w, Reads w w.heap.size A (u8s bs) → Calls Try.prog 17 #[.slice A bs.length c, .int .i64 4] w (Gives N (.bool ok) (u64s X) w)
  takeb : ∀ A c w, Reads w w.heap.size A (u8s bs) → Calls Try.prog 18 #[.slice A bs.length c] w (Gives N (.int .i64 err) (u32s Y) w)
  swords : ∀ A c w, Reads w w.heap.size A (u8s (swapAt bs (bs.length / 4))) → Calls Try.prog 17 #[.slice A (4 * (bs.length / 4)) c, .int .i64 4] w (Gives V.length (.bool true) (u64s V) w)

theorem swords_any (bs : List Nat) (hx : ∀ x ∈ bs, x < 256) (hlen : bs.length ≤ 1000000) (A : Option Addr) (c : Nat) (w : World) (hr : Reads w w.heap.size A (u8s (swapAt bs (bs.length / 4)))) :
    Calls Try.prog 17 #[.slice A (4 * (bs.length / 4)) c, .int .i64 4] w (Gives (hornsAt 4 (swapAt bs (bs.length / 4)) (bs.length / 4)).length (.bool true) (u64s (hornsAt 4 (swapAt bs (bs.length / 4)) (bs.length / 4))) w) := by
  have h := words4_any A c (swapAt bs (bs.length / 4)) (bs.length / 4) (swap_length _ _) w hr (by rw [swap_length]; omega) (swap_lt bs hx _)
  rw [swap_length] at h
  rw [horns_length]
  exact h.mono fun _ _ k => gives_own k

theorem four_cases (bs : List Nat) (hx : ∀ x ∈ bs, x < 256) (hlen : bs.length ≤ 1000000) : ∃ N X Y V err ok, ((err = 0 ∧ ok = true) ∨ (err = 9 ∧ ok = false ∧ N = 0)) ∧ Four bs N X Y V err ok := by
  by_cases h4 : bs.length % 4 = 0
  · obtain ⟨M, hM⟩ : ∃ M, bs.length = 4 * M := ⟨bs.length / 4, by omega⟩
    have hd : bs.length / 4 = M := by omega
    refine ⟨M, hornsAt 4 bs M, hornsAt 4 (swapAt bs M) M, hornsAt 4 (swapAt bs M) M, 0, true, .inl ⟨rfl, rfl⟩, horns_length _ _ _, horns_length _ _ _, by rw [horns_length]; exact Nat.le_refl _, fun _ _ => rfl, by rw [horns_length]; omega, horns_lt4 bs hx M, horns_lt4 _ (swap_lt bs hx M) M, ?_, ?_, ?_, ?_⟩
    · intro A c w hr
      have h := take32_any A c bs M hM w hr hlen hx
      rw [link4 M bs hx] at h
      exact h.mono fun _ _ k => gives_own k
    · intro A c w hr
      exact (words4_any A c bs M hM w hr hlen hx).mono fun _ _ k => gives_own k
    · intro A c w hr
      have h := takebig32_any A c bs M hM w hr hlen hx
      rw [linkb M bs hx] at h
      exact h.mono fun _ _ k => gives_own k
    · have h := swords_any bs hx hlen
      rw [hd] at h ⊢
      exact h
  · refine ⟨0, [], [], _, 9, false, .inr ⟨rfl, rfl, rfl⟩, rfl, rfl, Nat.zero_le _, fun k h => absurd h (by omega), by rw [horns_length]; omega, by simp, by simp, ?_, ?_, ?_, swords_any bs hx hlen⟩
    · intro A c w _
      exact (take32_bad A c bs.length h4 hlen w).mono fun _ _ k => gives_nil k
    · intro A c w _
      exact (words4_bad A c bs.length h4 hlen w).mono fun _ _ k => gives_nil k
    · intro A c w _
      exact (takebig32_bad A c bs.length h4 hlen w).mono fun _ _ k => gives_nil k

structure Eight (bs : List Nat) (N : Nat) (X : List Nat) (err : Int) (ok : Bool) : Prop where
  lx : X.length = N
  small : N ≤ 250000
  take : ∀ A c w, Reads w w.heap.size A (u8s bs) → Calls Try.prog 20 #[.slice A bs.length c] w (Gives N (.int .i64 err) (u64s X) w)
  words : ∀ A c w, Reads w w.heap.size A (u8s bs) → Calls Try.prog 17 #[.slice A bs.length c, .int .i64 8] w (Gives N (.bool ok) (u64s X) w)

theorem eight_cases (bs : List Nat) (hx : ∀ x ∈ bs, x < 256) (hlen : bs.length ≤ 1000000) : ∃ N X err ok, ((err = 0 ∧ ok = true) ∨ (err = 9 ∧ ok = false ∧ N = 0)) ∧ Eight bs N X err ok := by
  by_cases h8 : bs.length % 8 = 0
  · obtain ⟨M, hM⟩ : ∃ M, bs.length = 8 * M := ⟨bs.length / 8, by omega⟩
    refine ⟨M, hornsAt 8 bs M, 0, true, .inl ⟨rfl, rfl⟩, horns_length _ _ _, by omega, ?_, ?_⟩
    · intro A c w hr
      have h := take64_any A c bs M hM w hr hlen hx
      rw [link8 M bs hx] at h
      exact h.mono fun _ _ k => gives_own k
    · intro A c w hr
      exact (words8_any A c bs M hM w hr hlen hx).mono fun _ _ k => gives_own k
  · refine ⟨0, [], 9, false, .inr ⟨rfl, rfl, rfl⟩, rfl, by omega, ?_, ?_⟩
    · intro A c w _
      exact (take64_bad A c bs.length h8 hlen w).mono fun _ _ k => gives_nil k
    · intro A c w _
      exact (words8_bad A c bs.length h8 hlen w).mono fun _ _ k => gives_nil k

set_option maxHeartbeats 1000000 in
set_option maxRecDepth 100000 in
theorem take_any (A : Option Addr) (c : Nat) (bs : List Nat) (w : World) (hr : Reads w w.heap.size A (u8s bs)) (hx : ∀ x ∈ bs, x < 256) (m1 : bs.length ≤ maxLen) :
    Calls Try.prog 4 #[.slice A bs.length c] w fun e w' => e = .returned (.bool true) ∧ Below w.heap.size w w' := by
  unfold maxLen at m1
  have n1 : bs.length ≤ 9223372036854775807 := m1
  clear m1
  have Hr := Lib.hid hr
  clear hr
  by_cases ha : 800 < bs.length
  · clear hx
    go_enter Try.func4, Try.ntmps4
    go_wp2_with (go_at_call 8; refine (awake_any _).mono ?_; rintro e w1 ⟨rfl, hb⟩)
    go_ret
    exact ⟨rfl, hb⟩
  have l1 : bs.length ≤ 800 := by omega
  obtain ⟨N, X, Y, V, err, ok, hc4, F0⟩ := four_cases bs hx (by omega)
  obtain ⟨N8, Z, err8, ok8, hc8, E0⟩ := eight_cases bs hx (by omega)
  have hN : N ≤ 250000 := Nat.le_trans F0.lv F0.small
  have hNV := F0.lv
  have hV : V.length ≤ 250000 := F0.small
  have hN8 := E0.small
  have F := Lib.hid F0
  have E := Lib.hid E0
  have S : Hid (∀ (A : Option Addr) (c : Nat) (w : World), Reads w w.heap.size A (u8s bs) → Calls Try.prog 19 #[.slice A bs.length c, .int .i64 4] w fun e w' => ∃ v, e = .returned v ∧ w'.ownsRow w.heap.size 5 1 v (4 * (bs.length / 4)) (u8s (swapAt bs (bs.length / 4))) ∧ Below w.heap.size w w') := Lib.hid fun A c w hr => swapped_any A c bs w hr (by omega)
  clear F0 E0 hx ha
  rcases hc4 with ⟨rfl, rfl⟩ | ⟨rfl, rfl, rfl⟩ <;> rcases hc8 with ⟨rfl, rfl⟩ | ⟨rfl, rfl, rfl⟩
  · go_enter Try.func4, Try.ntmps4
    go_wp2_with (go_at_call 8; refine (awake_any _).mono ?_; rintro e w1 ⟨rfl, hb1⟩)
    refine (F.out.take A c _ (Hr.out.step hb1)).mono ?_
    rintro e w2 ⟨A2, c2, rfl, R2, hb2⟩
    have Hb2 := step_trans hb1 hb2
    have G2 := Lib.hid R2
    clear hb1 hb2 R2
    go_wp2_with fail
    refine (F.out.words A c _ (Hr.out.step Hb2)).mono ?_
    rintro e w3 ⟨A3, c3, rfl, R3, hb3⟩
    have Hb3 := step_trans Hb2 hb3
    have G3 := Lib.hid R3
    have G2' := Lib.hid (G2.out.step hb3)
    clear Hb2 hb3 R3 G2
    go_wp2_with fail
    refine (F.out.takeb A c _ (Hr.out.step Hb3)).mono ?_
    rintro e w4 ⟨A4, c4, rfl, R4, hb4⟩
    have Hb4 := step_trans Hb3 hb4
    have G4 := Lib.hid R4
    have G2 := Lib.hid (G2'.out.step hb4)
    have G3' := Lib.hid (G3.out.step hb4)
    clear Hb3 hb4 R4 G2' G3
    go_wp2_with fail
    refine (S.out A c _ (Hr.out.step Hb4)).mono ?_
    rintro e w5 ⟨v5, rfl, own5, hb5⟩
    obtain ⟨A5, c5, rfl, R5⟩ := own_reads own5
    clear own5
    go_wp2_with fail
    refine (F.out.swords A5 c5 _ R5).mono ?_
    rintro e w6 ⟨A6, c6, rfl, R6, hb6⟩
    have hb56 := step_trans hb5 hb6
    have Hb6 := step_trans Hb4 hb56
    have J2 := Lib.hid (G2.out.step hb56)
    have J3 := Lib.hid (G3'.out.step hb56)
    have J4 := Lib.hid (G4.out.step hb56)
    have J6 := Lib.hid R6
    clear Hb4 hb5 hb6 hb56 R5 R6 G2 G3' G4
    go_wp2_with fail
    go_loopw [77] (fun i wr => ∃ k : Nat, k ≤ N ∧ i = .int .i64 k ∧ Below w6.heap.size w6 wr) (fun i _ => N - (intOf i).toNat)
    case atStart => exact ⟨0, Nat.zero_le _, rfl, Below.refl _ _⟩
    case round =>
      obtain ⟨k, hk, rfl, hb⟩ := hrel
      by_cases hlt : k < N
      · have hX : k < X.length := by rw [F.out.lx]; exact hlt
        have hY : k < Y.length := by rw [F.out.ly]; exact hlt
        have hVk : k < V.length := by omega
        obtain ⟨b2, o2, rfl, _, h2⟩ := (J2.out.below hb) k (by rw [u32s_length]; exact hX)
        obtain ⟨b3, o3, rfl, _, h3⟩ := (J3.out.below hb) k (by rw [u64s_length]; exact hX)
        obtain ⟨b4, o4, rfl, _, h4⟩ := (J4.out.below hb) k (by rw [u32s_length]; exact hY)
        obtain ⟨b6, o6, rfl, _, h6⟩ := (J6.out.below hb) k (by rw [u64s_length]; exact hVk)
        have hs := F.out.same k hlt
        rw [getD_at _ _ hVk, getD_at _ _ hY] at hs
        have x1 := F.out.xlt X[k] (List.getElem_mem hX)
        have y1 := F.out.ylt Y[k] (List.getElem_mem hY)
        rw [u32_at] at h2 h4
        rw [u64_at] at h3 h6
        rw [hs] at h6
        clear hs
        generalize X[k] = x at *
        generalize Y[k] = y at *
        have i0 : (0 : Int) ≤ (k : Int) := by omega
        have i1 : (k : Int) < (N : Int) := by omega
        have i2 : (k : Int) < (V.length : Int) := by omega
        have x2 : x ≤ 4294967295 := by omega
        have y2 : y ≤ 4294967295 := by omega
        go_wp2_with fail
        go_quiet (fail)
        go_wp2_with fail
        go_roundw
        case rel => exact ⟨k + 1, by omega, by go_num, step_drewN hb _⟩
        case measure => simp [intOf]; omega
      · obtain rfl : k = N := by omega
        have Hb7 := step_trans Hb6 hb
        have R0 := Lib.hid (Hr.out.step Hb7)
        go_wp2_with fail
        refine (E.out.take A c _ R0.out).mono ?_
        rintro e w8 ⟨A8, c8, rfl, R8, hb8⟩
        have Hb8 := step_trans Hb7 hb8
        have G8 := Lib.hid R8
        have R0' := Lib.hid (R0.out.step hb8)
        clear Hb7 hb8 R8 R0 J2 J3 J4 J6 Hr hb Hb6
        go_wp2_with fail
        refine (E.out.words A c _ R0'.out).mono ?_
        rintro e w9 ⟨A9, c9, rfl, R9, hb9⟩
        have Hb9 := step_trans Hb8 hb9
        have K8 := Lib.hid (G8.out.step hb9)
        have K9 := Lib.hid R9
        clear Hb8 hb9 R9 G8 R0'
        go_wp2_with fail
        go_loopw [148] (fun i wr => ∃ k : Nat, k ≤ N8 ∧ i = .int .i64 k ∧ Below w9.heap.size w9 wr) (fun i _ => N8 - (intOf i).toNat)
        case atStart => exact ⟨0, Nat.zero_le _, rfl, Below.refl _ _⟩
        case round =>
          obtain ⟨k, hk, rfl, hb⟩ := hrel
          by_cases hlt : k < N8
          · have hZ : k < Z.length := by rw [E.out.lx]; exact hlt
            obtain ⟨b8, o8, rfl, _, h8⟩ := (K8.out.below hb) k (by rw [u64s_length]; exact hZ)
            obtain ⟨b9, o9, rfl, _, h9⟩ := (K9.out.below hb) k (by rw [u64s_length]; exact hZ)
            rw [u64_at] at h8 h9
            generalize Z[k] = x at *
            have i0 : (0 : Int) ≤ (k : Int) := by omega
            have i1 : (k : Int) < (N8 : Int) := by omega
            go_wp2_with fail
            go_quiet (fail)
            go_wp2_with fail
            go_roundw
            case rel => exact ⟨k + 1, by omega, by go_num, step_drewN hb _⟩
            case measure => simp [intOf]; omega
          · obtain rfl : k = N8 := by omega
            go_wp2_with fail
            go_ret
            exact ⟨rfl, step_trans Hb9 hb⟩
  · go_enter Try.func4, Try.ntmps4
    go_wp2_with (go_at_call 8; refine (awake_any _).mono ?_; rintro e w1 ⟨rfl, hb1⟩)
    refine (F.out.take A c _ (Hr.out.step hb1)).mono ?_
    rintro e w2 ⟨A2, c2, rfl, R2, hb2⟩
    have Hb2 := step_trans hb1 hb2
    have G2 := Lib.hid R2
    clear hb1 hb2 R2
    go_wp2_with fail
    refine (F.out.words A c _ (Hr.out.step Hb2)).mono ?_
    rintro e w3 ⟨A3, c3, rfl, R3, hb3⟩
    have Hb3 := step_trans Hb2 hb3
    have G3 := Lib.hid R3
    have G2' := Lib.hid (G2.out.step hb3)
    clear Hb2 hb3 R3 G2
    go_wp2_with fail
    refine (F.out.takeb A c _ (Hr.out.step Hb3)).mono ?_
    rintro e w4 ⟨A4, c4, rfl, R4, hb4⟩
    have Hb4 := step_trans Hb3 hb4
    have G4 := Lib.hid R4
    have G2 := Lib.hid (G2'.out.step hb4)
    have G3' := Lib.hid (G3.out.step hb4)
    clear Hb3 hb4 R4 G2' G3
    go_wp2_with fail
    refine (S.out A c _ (Hr.out.step Hb4)).mono ?_
    rintro e w5 ⟨v5, rfl, own5, hb5⟩
    obtain ⟨A5, c5, rfl, R5⟩ := own_reads own5
    clear own5
    go_wp2_with fail
    refine (F.out.swords A5 c5 _ R5).mono ?_
    rintro e w6 ⟨A6, c6, rfl, R6, hb6⟩
    have hb56 := step_trans hb5 hb6
    have Hb6 := step_trans Hb4 hb56
    have J2 := Lib.hid (G2.out.step hb56)
    have J3 := Lib.hid (G3'.out.step hb56)
    have J4 := Lib.hid (G4.out.step hb56)
    have J6 := Lib.hid R6
    clear Hb4 hb5 hb6 hb56 R5 R6 G2 G3' G4
    go_wp2_with fail
    go_loopw [77] (fun i wr => ∃ k : Nat, k ≤ N ∧ i = .int .i64 k ∧ Below w6.heap.size w6 wr) (fun i _ => N - (intOf i).toNat)
    case atStart => exact ⟨0, Nat.zero_le _, rfl, Below.refl _ _⟩
    case round =>
      obtain ⟨k, hk, rfl, hb⟩ := hrel
      by_cases hlt : k < N
      · have hX : k < X.length := by rw [F.out.lx]; exact hlt
        have hY : k < Y.length := by rw [F.out.ly]; exact hlt
        have hVk : k < V.length := by omega
        obtain ⟨b2, o2, rfl, _, h2⟩ := (J2.out.below hb) k (by rw [u32s_length]; exact hX)
        obtain ⟨b3, o3, rfl, _, h3⟩ := (J3.out.below hb) k (by rw [u64s_length]; exact hX)
        obtain ⟨b4, o4, rfl, _, h4⟩ := (J4.out.below hb) k (by rw [u32s_length]; exact hY)
        obtain ⟨b6, o6, rfl, _, h6⟩ := (J6.out.below hb) k (by rw [u64s_length]; exact hVk)
        have hs := F.out.same k hlt
        rw [getD_at _ _ hVk, getD_at _ _ hY] at hs
        have x1 := F.out.xlt X[k] (List.getElem_mem hX)
        have y1 := F.out.ylt Y[k] (List.getElem_mem hY)
        rw [u32_at] at h2 h4
        rw [u64_at] at h3 h6
        rw [hs] at h6
        clear hs
        generalize X[k] = x at *
        generalize Y[k] = y at *
        have i0 : (0 : Int) ≤ (k : Int) := by omega
        have i1 : (k : Int) < (N : Int) := by omega
        have i2 : (k : Int) < (V.length : Int) := by omega
        have x2 : x ≤ 4294967295 := by omega
        have y2 : y ≤ 4294967295 := by omega
        go_wp2_with fail
        go_quiet (fail)
        go_wp2_with fail
        go_roundw
        case rel => exact ⟨k + 1, by omega, by go_num, step_drewN hb _⟩
        case measure => simp [intOf]; omega
      · obtain rfl : k = N := by omega
        have Hb7 := step_trans Hb6 hb
        have R0 := Lib.hid (Hr.out.step Hb7)
        go_wp2_with fail
        refine (E.out.take A c _ R0.out).mono ?_
        rintro e w8 ⟨A8, c8, rfl, R8, hb8⟩
        have Hb8 := step_trans Hb7 hb8
        have G8 := Lib.hid R8
        have R0' := Lib.hid (R0.out.step hb8)
        clear Hb7 hb8 R8 R0 J2 J3 J4 J6 Hr hb Hb6
        go_wp2_with fail
        refine (E.out.words A c _ R0'.out).mono ?_
        rintro e w9 ⟨A9, c9, rfl, R9, hb9⟩
        have Hb9 := step_trans Hb8 hb9
        have K8 := Lib.hid (G8.out.step hb9)
        have K9 := Lib.hid R9
        clear Hb8 hb9 R9 G8 R0'
        go_wp2_with fail
        go_loopw [148] (fun i wr => ∃ k : Nat, k ≤ 0 ∧ i = .int .i64 k ∧ Below w9.heap.size w9 wr) (fun i _ => 0 - (intOf i).toNat)
        case atStart => exact ⟨0, Nat.zero_le _, rfl, Below.refl _ _⟩
        case round =>
          obtain ⟨k, hk, rfl, hb⟩ := hrel
          by_cases hlt : k < 0
          · have hZ : k < Z.length := by rw [E.out.lx]; exact hlt
            obtain ⟨b8, o8, rfl, _, h8⟩ := (K8.out.below hb) k (by rw [u64s_length]; exact hZ)
            obtain ⟨b9, o9, rfl, _, h9⟩ := (K9.out.below hb) k (by rw [u64s_length]; exact hZ)
            rw [u64_at] at h8 h9
            generalize Z[k] = x at *
            have i0 : (0 : Int) ≤ (k : Int) := by omega
            have i1 : (k : Int) < (0 : Int) := by omega
            go_wp2_with fail
            go_quiet (fail)
            go_wp2_with fail
            go_roundw
            case rel => exact ⟨k + 1, by omega, by go_num, step_drewN hb _⟩
            case measure => simp [intOf]; omega
          · obtain rfl : k = 0 := by omega
            go_wp2_with fail
            go_ret
            exact ⟨rfl, step_trans Hb9 hb⟩
  · go_enter Try.func4, Try.ntmps4
    go_wp2_with (go_at_call 8; refine (awake_any _).mono ?_; rintro e w1 ⟨rfl, hb1⟩)
    refine (F.out.take A c _ (Hr.out.step hb1)).mono ?_
    rintro e w2 ⟨A2, c2, rfl, R2, hb2⟩
    have Hb2 := step_trans hb1 hb2
    have G2 := Lib.hid R2
    clear hb1 hb2 R2
    go_wp2_with fail
    refine (F.out.words A c _ (Hr.out.step Hb2)).mono ?_
    rintro e w3 ⟨A3, c3, rfl, R3, hb3⟩
    have Hb3 := step_trans Hb2 hb3
    have G3 := Lib.hid R3
    have G2' := Lib.hid (G2.out.step hb3)
    clear Hb2 hb3 R3 G2
    go_wp2_with fail
    refine (F.out.takeb A c _ (Hr.out.step Hb3)).mono ?_
    rintro e w4 ⟨A4, c4, rfl, R4, hb4⟩
    have Hb4 := step_trans Hb3 hb4
    have G4 := Lib.hid R4
    have G2 := Lib.hid (G2'.out.step hb4)
    have G3' := Lib.hid (G3.out.step hb4)
    clear Hb3 hb4 R4 G2' G3
    go_wp2_with fail
    refine (S.out A c _ (Hr.out.step Hb4)).mono ?_
    rintro e w5 ⟨v5, rfl, own5, hb5⟩
    obtain ⟨A5, c5, rfl, R5⟩ := own_reads own5
    clear own5
    go_wp2_with fail
    refine (F.out.swords A5 c5 _ R5).mono ?_
    rintro e w6 ⟨A6, c6, rfl, R6, hb6⟩
    have hb56 := step_trans hb5 hb6
    have Hb6 := step_trans Hb4 hb56
    have J2 := Lib.hid (G2.out.step hb56)
    have J3 := Lib.hid (G3'.out.step hb56)
    have J4 := Lib.hid (G4.out.step hb56)
    have J6 := Lib.hid R6
    clear Hb4 hb5 hb6 hb56 R5 R6 G2 G3' G4
    go_wp2_with fail
    go_loopw [77] (fun i wr => ∃ k : Nat, k ≤ 0 ∧ i = .int .i64 k ∧ Below w6.heap.size w6 wr) (fun i _ => 0 - (intOf i).toNat)
    case atStart => exact ⟨0, Nat.zero_le _, rfl, Below.refl _ _⟩
    case round =>
      obtain ⟨k, hk, rfl, hb⟩ := hrel
      by_cases hlt : k < 0
      · have hX : k < X.length := by rw [F.out.lx]; exact hlt
        have hY : k < Y.length := by rw [F.out.ly]; exact hlt
        have hVk : k < V.length := by omega
        obtain ⟨b2, o2, rfl, _, h2⟩ := (J2.out.below hb) k (by rw [u32s_length]; exact hX)
        obtain ⟨b3, o3, rfl, _, h3⟩ := (J3.out.below hb) k (by rw [u64s_length]; exact hX)
        obtain ⟨b4, o4, rfl, _, h4⟩ := (J4.out.below hb) k (by rw [u32s_length]; exact hY)
        obtain ⟨b6, o6, rfl, _, h6⟩ := (J6.out.below hb) k (by rw [u64s_length]; exact hVk)
        have hs := F.out.same k hlt
        rw [getD_at _ _ hVk, getD_at _ _ hY] at hs
        have x1 := F.out.xlt X[k] (List.getElem_mem hX)
        have y1 := F.out.ylt Y[k] (List.getElem_mem hY)
        rw [u32_at] at h2 h4
        rw [u64_at] at h3 h6
        rw [hs] at h6
        clear hs
        generalize X[k] = x at *
        generalize Y[k] = y at *
        have i0 : (0 : Int) ≤ (k : Int) := by omega
        have i1 : (k : Int) < (0 : Int) := by omega
        have i2 : (k : Int) < (V.length : Int) := by omega
        have x2 : x ≤ 4294967295 := by omega
        have y2 : y ≤ 4294967295 := by omega
        go_wp2_with fail
        go_quiet (fail)
        go_wp2_with fail
        go_roundw
        case rel => exact ⟨k + 1, by omega, by go_num, step_drewN hb _⟩
        case measure => simp [intOf]; omega
      · obtain rfl : k = 0 := by omega
        have Hb7 := step_trans Hb6 hb
        have R0 := Lib.hid (Hr.out.step Hb7)
        go_wp2_with fail
        refine (E.out.take A c _ R0.out).mono ?_
        rintro e w8 ⟨A8, c8, rfl, R8, hb8⟩
        have Hb8 := step_trans Hb7 hb8
        have G8 := Lib.hid R8
        have R0' := Lib.hid (R0.out.step hb8)
        clear Hb7 hb8 R8 R0 J2 J3 J4 J6 Hr hb Hb6
        go_wp2_with fail
        refine (E.out.words A c _ R0'.out).mono ?_
        rintro e w9 ⟨A9, c9, rfl, R9, hb9⟩
        have Hb9 := step_trans Hb8 hb9
        have K8 := Lib.hid (G8.out.step hb9)
        have K9 := Lib.hid R9
        clear Hb8 hb9 R9 G8 R0'
        go_wp2_with fail
        go_loopw [148] (fun i wr => ∃ k : Nat, k ≤ N8 ∧ i = .int .i64 k ∧ Below w9.heap.size w9 wr) (fun i _ => N8 - (intOf i).toNat)
        case atStart => exact ⟨0, Nat.zero_le _, rfl, Below.refl _ _⟩
        case round =>
          obtain ⟨k, hk, rfl, hb⟩ := hrel
          by_cases hlt : k < N8
          · have hZ : k < Z.length := by rw [E.out.lx]; exact hlt
            obtain ⟨b8, o8, rfl, _, h8⟩ := (K8.out.below hb) k (by rw [u64s_length]; exact hZ)
            obtain ⟨b9, o9, rfl, _, h9⟩ := (K9.out.below hb) k (by rw [u64s_length]; exact hZ)
            rw [u64_at] at h8 h9
            generalize Z[k] = x at *
            have i0 : (0 : Int) ≤ (k : Int) := by omega
            have i1 : (k : Int) < (N8 : Int) := by omega
            go_wp2_with fail
            go_quiet (fail)
            go_wp2_with fail
            go_roundw
            case rel => exact ⟨k + 1, by omega, by go_num, step_drewN hb _⟩
            case measure => simp [intOf]; omega
          · obtain rfl : k = N8 := by omega
            go_wp2_with fail
            go_ret
            exact ⟨rfl, step_trans Hb9 hb⟩
  · go_enter Try.func4, Try.ntmps4
    go_wp2_with (go_at_call 8; refine (awake_any _).mono ?_; rintro e w1 ⟨rfl, hb1⟩)
    refine (F.out.take A c _ (Hr.out.step hb1)).mono ?_
    rintro e w2 ⟨A2, c2, rfl, R2, hb2⟩
    have Hb2 := step_trans hb1 hb2
    have G2 := Lib.hid R2
    clear hb1 hb2 R2
    go_wp2_with fail
    refine (F.out.words A c _ (Hr.out.step Hb2)).mono ?_
    rintro e w3 ⟨A3, c3, rfl, R3, hb3⟩
    have Hb3 := step_trans Hb2 hb3
    have G3 := Lib.hid R3
    have G2' := Lib.hid (G2.out.step hb3)
    clear Hb2 hb3 R3 G2
    go_wp2_with fail
    refine (F.out.takeb A c _ (Hr.out.step Hb3)).mono ?_
    rintro e w4 ⟨A4, c4, rfl, R4, hb4⟩
    have Hb4 := step_trans Hb3 hb4
    have G4 := Lib.hid R4
    have G2 := Lib.hid (G2'.out.step hb4)
    have G3' := Lib.hid (G3.out.step hb4)
    clear Hb3 hb4 R4 G2' G3
    go_wp2_with fail
    refine (S.out A c _ (Hr.out.step Hb4)).mono ?_
    rintro e w5 ⟨v5, rfl, own5, hb5⟩
    obtain ⟨A5, c5, rfl, R5⟩ := own_reads own5
    clear own5
    go_wp2_with fail
    refine (F.out.swords A5 c5 _ R5).mono ?_
    rintro e w6 ⟨A6, c6, rfl, R6, hb6⟩
    have hb56 := step_trans hb5 hb6
    have Hb6 := step_trans Hb4 hb56
    have J2 := Lib.hid (G2.out.step hb56)
    have J3 := Lib.hid (G3'.out.step hb56)
    have J4 := Lib.hid (G4.out.step hb56)
    have J6 := Lib.hid R6
    clear Hb4 hb5 hb6 hb56 R5 R6 G2 G3' G4
    go_wp2_with fail
    go_loopw [77] (fun i wr => ∃ k : Nat, k ≤ 0 ∧ i = .int .i64 k ∧ Below w6.heap.size w6 wr) (fun i _ => 0 - (intOf i).toNat)
    case atStart => exact ⟨0, Nat.zero_le _, rfl, Below.refl _ _⟩
    case round =>
      obtain ⟨k, hk, rfl, hb⟩ := hrel
      by_cases hlt : k < 0
      · have hX : k < X.length := by rw [F.out.lx]; exact hlt
        have hY : k < Y.length := by rw [F.out.ly]; exact hlt
        have hVk : k < V.length := by omega
        obtain ⟨b2, o2, rfl, _, h2⟩ := (J2.out.below hb) k (by rw [u32s_length]; exact hX)
        obtain ⟨b3, o3, rfl, _, h3⟩ := (J3.out.below hb) k (by rw [u64s_length]; exact hX)
        obtain ⟨b4, o4, rfl, _, h4⟩ := (J4.out.below hb) k (by rw [u32s_length]; exact hY)
        obtain ⟨b6, o6, rfl, _, h6⟩ := (J6.out.below hb) k (by rw [u64s_length]; exact hVk)
        have hs := F.out.same k hlt
        rw [getD_at _ _ hVk, getD_at _ _ hY] at hs
        have x1 := F.out.xlt X[k] (List.getElem_mem hX)
        have y1 := F.out.ylt Y[k] (List.getElem_mem hY)
        rw [u32_at] at h2 h4
        rw [u64_at] at h3 h6
        rw [hs] at h6
        clear hs
        generalize X[k] = x at *
        generalize Y[k] = y at *
        have i0 : (0 : Int) ≤ (k : Int) := by omega
        have i1 : (k : Int) < (0 : Int) := by omega
        have i2 : (k : Int) < (V.length : Int) := by omega
        have x2 : x ≤ 4294967295 := by omega
        have y2 : y ≤ 4294967295 := by omega
        go_wp2_with fail
        go_quiet (fail)
        go_wp2_with fail
        go_roundw
        case rel => exact ⟨k + 1, by omega, by go_num, step_drewN hb _⟩
        case measure => simp [intOf]; omega
      · obtain rfl : k = 0 := by omega
        have Hb7 := step_trans Hb6 hb
        have R0 := Lib.hid (Hr.out.step Hb7)
        go_wp2_with fail
        refine (E.out.take A c _ R0.out).mono ?_
        rintro e w8 ⟨A8, c8, rfl, R8, hb8⟩
        have Hb8 := step_trans Hb7 hb8
        have G8 := Lib.hid R8
        have R0' := Lib.hid (R0.out.step hb8)
        clear Hb7 hb8 R8 R0 J2 J3 J4 J6 Hr hb Hb6
        go_wp2_with fail
        refine (E.out.words A c _ R0'.out).mono ?_
        rintro e w9 ⟨A9, c9, rfl, R9, hb9⟩
        have Hb9 := step_trans Hb8 hb9
        have K8 := Lib.hid (G8.out.step hb9)
        have K9 := Lib.hid R9
        clear Hb8 hb9 R9 G8 R0'
        go_wp2_with fail
        go_loopw [148] (fun i wr => ∃ k : Nat, k ≤ 0 ∧ i = .int .i64 k ∧ Below w9.heap.size w9 wr) (fun i _ => 0 - (intOf i).toNat)
        case atStart => exact ⟨0, Nat.zero_le _, rfl, Below.refl _ _⟩
        case round =>
          obtain ⟨k, hk, rfl, hb⟩ := hrel
          by_cases hlt : k < 0
          · have hZ : k < Z.length := by rw [E.out.lx]; exact hlt
            obtain ⟨b8, o8, rfl, _, h8⟩ := (K8.out.below hb) k (by rw [u64s_length]; exact hZ)
            obtain ⟨b9, o9, rfl, _, h9⟩ := (K9.out.below hb) k (by rw [u64s_length]; exact hZ)
            rw [u64_at] at h8 h9
            generalize Z[k] = x at *
            have i0 : (0 : Int) ≤ (k : Int) := by omega
            have i1 : (k : Int) < (0 : Int) := by omega
            go_wp2_with fail
            go_quiet (fail)
            go_wp2_with fail
            go_roundw
            case rel => exact ⟨k + 1, by omega, by go_num, step_drewN hb _⟩
            case measure => simp [intOf]; omega
          · obtain rfl : k = 0 := by omega
            go_wp2_with fail
            go_ret
            exact ⟨rfl, step_trans Hb9 hb⟩
end Go.Proofs.Ytoknhmilhljadaa
