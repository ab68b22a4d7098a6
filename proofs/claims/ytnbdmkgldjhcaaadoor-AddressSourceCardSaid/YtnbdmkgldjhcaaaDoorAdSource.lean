/- The law AddressSource by the calls' contracts. Condition: the package's tables read as they were laid. -/
import Derived.Test.YtnbdmkgldjhcaaaDoorAdBlocks
namespace Go.Proofs.YtnbdmkgldjhcaaaDoor
set_option maxRecDepth 50000
open Go.RowKit Bb Bn

/-- whatever is held, At answers an index' two numbers -/
theorem srat_any {a : Nat} (ha : a = 1 ∨ a = 2 ∨ a = 3) (t l m b c g z : Nat) (p s k : Int) (i q r u n X lo hi : Nat) (hi62 : i ≤ 4611686018427387904) (hq : i / 128 = q) (hr : i % 128 = r) (hu : q + 1 = u) {x : Nat} {v : List Nat} (hv : v.length = 128) (hn : 1 ≤ n → v = addL p k s b t ((a : Int) - 1) (n : Int)) (hX : (addL p k s b t ((a : Int) - 1) (u : Int)).getD r 0 = X) (hX64 : X < 18446744073709551616) (hlo : X % 4294967296 = lo) (hhi : X / 4294967296 = hi) {w : World} (h : SrAt w x a t l m b c g z p s k n v) (hT : ∀ w', Kept (fun g => g = x) w w' → TAt w') :
    Calls Tryd.prog 13 #[.pointer (some ⟨x, 0, none⟩), .int .i64 (i : Int)] w fun e w' => e = .returned (.tuple #[.int .u32 (lo : Int), .int .u32 (hi : Int)]) ∧ SrAt w' x a t l m b c g z p s k u (addL p k s b t ((a : Int) - 1) (u : Int)) ∧ Kept (fun g => g = x) w w' := by
  by_cases hnu : n = u
  · subst hnu
    have hv1 := hn (by omega)
    subst hv1
    refine (at_held a t l m b c g z p s k i q r n X lo hi hi62 hq hr hu hv hX hX64 hlo hhi h).mono ?_
    rintro e w' ⟨rfl, rfl⟩
    exact ⟨rfl, h, Kept.refl _ _⟩
  · exact at_makes ha t l m b c g z p s k i q r u n X lo hi hi62 hq hr hu hnu hv hX hX64 hlo hhi h hT

/-- the parameters have no shape -/
theorem source30_bad (pa pt pm pl pz p s k : Int) (A : Option Addr) (N d : Nat) (h : mayB pa pt pm pl pz = false) (w : World) :
    Calls Tryd.prog 4 #[pav pa pt pm pl pz, tuv p s, .int .i64 k, .slice A N d] w fun e w' => e = .returned (.bool true) ∧ Below w.heap.size w w' := by
  have CO := of_bad pa pt pm pl pz h
  clear h
  have CA := Lib.hid awake30_any
  have CO := Lib.hid CO
  have HP := Lib.hid (law_new pa pt pm pl pz p s w)
  go_enter Tryd.func4, Tryd.ntmps4
  go_wp2_with fail
  refine (CA.out _).mono ?_
  rintro e w1 ⟨rfl, hb⟩
  have HP1 := Lib.hid (HP.out.1.step hb)
  have HP2 := Lib.hid (HP.out.2.1.step hb)
  have HP3 := Lib.hid (below_step HP.out.2.2 hb)
  clear hb CA HP
  go_wp2_with fail
  refine (at_nil 1 _).mono ?_
  rintro e w2 ⟨rfl, hw⟩
  obtain rfl := hw
  go_wp2_with fail
  refine (made_nil _).mono ?_
  rintro e w2 ⟨rfl, hw⟩
  obtain rfl := hw
  go_wp2_with (refine wpList_load_want rfl 23 _ rfl _ _ rfl (pa_load HP1.out) ?_)
  refine (CO.out _).mono ?_
  rintro e w2 ⟨rfl, hb⟩
  have HB := Lib.hid (HP3.out.trans (hb.mono HP3.out.size))
  have HB2 := Lib.hid (HB.out.alloc HB.out.size (.cells spzc 28))
  clear hb CO HP1 HP2 HP3 HB
  go_wp2
  go_ret
  exact ⟨rfl, HB2.out⟩
/-- it is no turn of the shape -/
theorem source30_turn (pa pt pm pl pz p s k : Int) (A : Option Addr) (N d : Nat) (a t l m b c g z : Nat) (ht : t ≤ 4294967295) (hx : hasB t p s = false)
    (CO : ∀ w : World, Calls Tryd.prog 6 #[pav pa pt pm pl pz] w fun e w' => e = .returned (.tuple #[spv a t l m b c g z, .int .i64 0]) ∧ Below w.heap.size w w') (w : World) :
    Calls Tryd.prog 4 #[pav pa pt pm pl pz, tuv p s, .int .i64 k, .slice A N d] w fun e w' => e = .returned (.bool true) ∧ Below w.heap.size w w' := by
  have CH := sphas_any a t l m b c g z ht p s
  rw [hx] at CH
  have CH := Lib.hid CH
  clear hx
  have CA := Lib.hid awake30_any
  have CO := Lib.hid CO
  have HP := Lib.hid (law_new pa pt pm pl pz p s w)
  go_enter Tryd.func4, Tryd.ntmps4
  go_wp2_with fail
  refine (CA.out _).mono ?_
  rintro e w1 ⟨rfl, hb⟩
  have HP1 := Lib.hid (HP.out.1.step hb)
  have HP2 := Lib.hid (HP.out.2.1.step hb)
  have HP3 := Lib.hid (below_step HP.out.2.2 hb)
  clear hb CA HP
  go_wp2_with fail
  refine (at_nil 1 _).mono ?_
  rintro e w2 ⟨rfl, hw⟩
  obtain rfl := hw
  go_wp2_with fail
  refine (made_nil _).mono ?_
  rintro e w2 ⟨rfl, hw⟩
  obtain rfl := hw
  go_wp2_with (refine wpList_load_want rfl 23 _ rfl _ _ rfl (pa_load HP1.out) ?_)
  refine (CO.out _).mono ?_
  rintro e w2 ⟨rfl, hb⟩
  have HL := Lib.hid (lw_new (HP2.out.step hb) (HP3.out.trans (hb.mono HP3.out.size)) a t l m b c g z)
  have hq0 : w.heap.size < w2.heap.size := (HP1.out.step hb).lt
  clear hb CO HP1 HP2 HP3
  obtain ⟨q, hq⟩ : ∃ q, w2.heap.size = q := ⟨_, rfl⟩
  rw [hq] at HL hq0
  go_wp2_with (first
    | refine wpList_load_want rfl 25 _ rfl _ _ rfl (tu_load HL.out.tw.tu) ?_
    | refine wpList_load_want rfl 28 _ rfl _ _ rfl (sp_load HL.out.tw.sh) ?_)
  refine (CH.out _).mono ?_
  rintro e w3 ⟨rfl, hb⟩
  have HL3 := Lib.hid (HL.out.on hb)
  have kl : w3.cell? ⟨q, 2, none⟩ = some (.int .i64 (l : Int)) := (HL3.out.tw.sh.cell 2).trans rfl
  clear hb HL CH hq kl
  go_wp2
  go_ret
  exact ⟨rfl, HL3.out.below⟩
/-- it is no lane of the shape, or there are too many indexes -/
theorem source30_lane (pa pt pm pl pz p s k : Int) (A : Option Addr) (N d : Nat) (a t l m b c g z : Nat) (ht : t ≤ 4294967295) (hx : hasB t p s = true) (hk : k < 0 ∨ (l : Int) ≤ k ∨ 20 < N)
    (CO : ∀ w : World, Calls Tryd.prog 6 #[pav pa pt pm pl pz] w fun e w' => e = .returned (.tuple #[spv a t l m b c g z, .int .i64 0]) ∧ Below w.heap.size w w') (w : World) :
    Calls Tryd.prog 4 #[pav pa pt pm pl pz, tuv p s, .int .i64 k, .slice A N d] w fun e w' => e = .returned (.bool true) ∧ Below w.heap.size w w' := by
  have CH := sphas_any a t l m b c g z ht p s
  rw [hx] at CH
  have CH := Lib.hid CH
  have hk : k < 0 ∨ (0 ≤ k ∧ (l : Int) ≤ k) ∨ (0 ≤ k ∧ k < (l : Int) ∧ 20 < N) := by omega
  clear hx
  have CA := Lib.hid awake30_any
  have CO := Lib.hid CO
  have HP := Lib.hid (law_new pa pt pm pl pz p s w)
  go_enter Tryd.func4, Tryd.ntmps4
  go_wp2_with fail
  refine (CA.out _).mono ?_
  rintro e w1 ⟨rfl, hb⟩
  have HP1 := Lib.hid (HP.out.1.step hb)
  have HP2 := Lib.hid (HP.out.2.1.step hb)
  have HP3 := Lib.hid (below_step HP.out.2.2 hb)
  clear hb CA HP
  go_wp2_with fail
  refine (at_nil 1 _).mono ?_
  rintro e w2 ⟨rfl, hw⟩
  obtain rfl := hw
  go_wp2_with fail
  refine (made_nil _).mono ?_
  rintro e w2 ⟨rfl, hw⟩
  obtain rfl := hw
  go_wp2_with (refine wpList_load_want rfl 23 _ rfl _ _ rfl (pa_load HP1.out) ?_)
  refine (CO.out _).mono ?_
  rintro e w2 ⟨rfl, hb⟩
  have HL := Lib.hid (lw_new (HP2.out.step hb) (HP3.out.trans (hb.mono HP3.out.size)) a t l m b c g z)
  have hq0 : w.heap.size < w2.heap.size := (HP1.out.step hb).lt
  clear hb CO HP1 HP2 HP3
  obtain ⟨q, hq⟩ : ∃ q, w2.heap.size = q := ⟨_, rfl⟩
  rw [hq] at HL hq0
  go_wp2_with (first
    | refine wpList_load_want rfl 25 _ rfl _ _ rfl (tu_load HL.out.tw.tu) ?_
    | refine wpList_load_want rfl 28 _ rfl _ _ rfl (sp_load HL.out.tw.sh) ?_)
  refine (CH.out _).mono ?_
  rintro e w3 ⟨rfl, hb⟩
  have HL3 := Lib.hid (HL.out.on hb)
  have kl : w3.cell? ⟨q, 2, none⟩ = some (.int .i64 (l : Int)) := (HL3.out.tw.sh.cell 2).trans rfl
  clear hb HL CH hq
  rcases hk with hk | ⟨hk0, hk⟩ | ⟨hk0, hk1, hk⟩
  · have d1 : decide (k < 0) = true := by simpa using hk
    go_wp2
    go_ret
    exact ⟨rfl, HL3.out.below⟩
  · have d1 : decide (k < 0) = false := by simp; omega
    have d2 : decide ((l : Int) ≤ k) = true := by simpa using hk
    go_wp2
    go_ret
    exact ⟨rfl, HL3.out.below⟩
  · have d1 : decide (k < 0) = false := by simp; omega
    have d2 : decide ((l : Int) ≤ k) = false := by simp; omega
    have d3 : decide ((20 : Int) < (N : Int)) = true := by simp; omega
    have d4 : decide (20 < N) = true := by simp; omega
    go_wp2
    go_ret
    exact ⟨rfl, HL3.out.below⟩

/-- what stands in memory while a source is asked -/
structure So (w wr : World) (q x : Nat) (a t l m b c g z : Nat) (p s k : Int) (n : Nat) (v : List Nat) : Prop where
  tw : Tw wr q (w.heap.size + 1) a t l m b c g z p s
  sr : SrAt wr x a t l m b c g z p s k n v
  below : Below w.heap.size w wr
  le : w.heap.size ≤ x
  len : v.length = 128
  held : 1 ≤ n → v = addL p k s b t ((a : Int) - 1) (n : Int)
section
variable {w wr w' : World} {q x a t l m b c g z n : Nat} {p s k : Int} {v : List Nat}
theorem So.on (H : So w wr q x a t l m b c g z p s k n v) (hb : Below wr.heap.size wr w') : So w w' q x a t l m b c g z p s k n v := ⟨H.tw.on hb, H.sr.step hb, H.below.trans (hb.mono H.below.size), H.le, H.len, H.held⟩
theorem RowAt.kept {M : Nat → Prop} {b : Nat} {t : TypeId} {C : Array Value} (h : RowAt wr b t C) (hk : Kept M wr w') (hM : ¬ M b) : RowAt w' b t C := (hk.block b h.lt hM).trans h
theorem So.asked (H : So w wr q x a t l m b c g z p s k n v) {u : Nat} (hs : SrAt w' x a t l m b c g z p s k u (addL p k s b t ((a : Int) - 1) (u : Int))) (hk : Kept (fun g => g = x) wr w') : So w w' q x a t l m b c g z p s k u (addL p k s b t ((a : Int) - 1) (u : Int)) :=
  ⟨⟨H.tw.sh.kept hk (fun e => (RowAt.apart H.tw.sh H.sr (by decide)) e), H.tw.tu.kept hk (fun e => (RowAt.apart H.tw.tu H.sr (by decide)) e)⟩, hs, H.below.trans (hk.below (B := w.heap.size) H.below.size (fun y hy => by subst hy; exact H.le)), H.le, (add_ok ..).1, fun _ => rfl⟩
theorem So.tables (H : So w wr q x a t l m b c g z p s k n v) (hT : TAt w) (w' : World) (hk : Kept (fun g => g = x) wr w') : TAt w' :=
  hT.next (H.below.trans (hk.below (B := w.heap.size) H.below.size (fun y hy => by subst hy; exact H.le)))
end

set_option maxHeartbeats 6400000 in
theorem source30_good (t l m b c g z : Nat) (p s k : Int) (A : Option Addr) (d : Nat) (xs : List Int) (hN : xs.length ≤ 20) {a : Nat} (ha : a = 1 ∨ a = 2 ∨ a = 3) (ht : t ≤ 4294967295) (hx : hasB t p s = true) (hk0 : 0 ≤ k) (hk1 : k < (l : Int))
    (CO : ∀ w : World, Calls Tryd.prog 6 #[pav a t m l z] w fun e w' => e = .returned (.tuple #[spv a t l m b c g z, .int .i64 0]) ∧ Below w.heap.size w w') (w : World) (hT : TAt w) (hR : Reads w w.heap.size A (i64s xs)) :
    Calls Tryd.prog 4 #[pav a t m l z, tuv p s, .int .i64 k, .slice A xs.length d] w fun e w' => e = .returned (.bool true) ∧ Below w.heap.size w w' := by
  have CH := sphas_any a t l m b c g z ht p s
  rw [hx] at CH
  have CH := Lib.hid CH
  have HT := Lib.hid hT
  have HR := Lib.hid hR
  have HA := Lib.hid ha
  have d1 : decide (k < 0) = false := by simp; omega
  have d2 : decide ((l : Int) ≤ k) = false := by simp; omega
  have d3 : decide ((20 : Int) < (xs.length : Int)) = false := by simp; omega
  have d4 : decide (20 < xs.length) = false := by simp; omega
  have CN := Lib.hid fun w => srnew_any a t l m b c g z p s k w
  clear hx hT ha ht hk0 hk1 hR
  have CA := Lib.hid awake30_any
  have CO := Lib.hid CO
  have HP := Lib.hid (law_new a t m l z p s w)
  go_enter Tryd.func4, Tryd.ntmps4
  go_wp2_with fail
  refine (CA.out _).mono ?_
  rintro e w1 ⟨rfl, hb⟩
  have HP1 := Lib.hid (HP.out.1.step hb)
  have HP2 := Lib.hid (HP.out.2.1.step hb)
  have HP3 := Lib.hid (below_step HP.out.2.2 hb)
  clear hb CA HP
  go_wp2_with fail
  refine (at_nil 1 _).mono ?_
  rintro e w2 ⟨rfl, hw⟩
  obtain rfl := hw
  go_wp2_with fail
  refine (made_nil _).mono ?_
  rintro e w2 ⟨rfl, hw⟩
  obtain rfl := hw
  go_wp2_with (refine wpList_load_want rfl 23 _ rfl _ _ rfl (pa_load HP1.out) ?_)
  refine (CO.out _).mono ?_
  rintro e w2 ⟨rfl, hb⟩
  have HL := Lib.hid (lw_new (HP2.out.step hb) (HP3.out.trans (hb.mono HP3.out.size)) a t l m b c g z)
  have hq0 : w.heap.size < w2.heap.size := (HP1.out.step hb).lt
  clear hb CO HP1 HP2 HP3
  obtain ⟨q, hq⟩ : ∃ q, w2.heap.size = q := ⟨_, rfl⟩
  rw [hq] at HL hq0
  go_wp2_with (first
    | refine wpList_load_want rfl 25 _ rfl _ _ rfl (tu_load HL.out.tw.tu) ?_
    | refine wpList_load_want rfl 28 _ rfl _ _ rfl (sp_load HL.out.tw.sh) ?_)
  refine (CH.out _).mono ?_
  rintro e w3 ⟨rfl, hb⟩
  have HL3 := Lib.hid (HL.out.on hb)
  have kl : w3.cell? ⟨q, 2, none⟩ = some (.int .i64 (l : Int)) := (HL3.out.tw.sh.cell 2).trans rfl
  clear hb HL CH hq hq0
  go_wp2_with (first
    | refine wpList_load_want rfl 25 _ rfl _ _ rfl (tu_load HL3.out.tw.tu) ?_
    | refine wpList_load_want rfl 28 _ rfl _ _ rfl (sp_load HL3.out.tw.sh) ?_)
  refine (CN.out _).mono ?_
  rintro e w4 ⟨x, rfl, hxw, hsr, hb⟩
  have HS0 : Hid (So w w4 q x a t l m b c g z p s k 0 zb) := Lib.hid ⟨HL3.out.tw.on hb, hsr, HL3.out.below.trans (hb.mono HL3.out.below.size), Nat.le_trans HL3.out.below.size hxw, by simp [zb], fun h => absurd h (by decide)⟩
  clear hb HL3 CN kl hxw hsr
  go_wp2
  go_loopw [15, 75] (fun v15 v75 wr => ∃ (j n : Nat) (v : List Nat), j ≤ xs.length ∧ v75 = .int .i64 (j : Int) ∧ v15 = .int .i64 (n : Int) ∧ So w wr q x a t l m b c g z p s k n v) (fun _ v75 _ => xs.length - (intOf v75).toNat)
  case atStart => exact ⟨0, 0, zb, by omega, rfl, rfl, HS0.out⟩
  case round =>
    clear HS0
    obtain ⟨j, n, v, hj, rfl, rfl, X⟩ := hrel
    have HX := Lib.hid X
    clear X
    by_cases h8 : j < xs.length
    · have hdt : decide ((j : Int) < (xs.length : Int)) = true := by simp; omega
      have hj0 : (0 : Int) ≤ (j : Int) := by omega
      have hj1 : (j : Int) < (xs.length : Int) := by omega
      obtain ⟨bA, oA, rfl, hbA, hc⟩ := HR.out j (by simpa [i64s] using h8)
      obtain ⟨y, hy⟩ : ∃ y, xs[j] = y := ⟨_, rfl⟩
      have hcy : (i64s xs)[j]'(by simpa [i64s] using h8) = .int .i64 y := by simp [i64s, hy]
      rw [hcy] at hc
      have kc : wr.cell? ⟨bA, oA + j, none⟩ = some (.int .i64 y) := (HX.out.below.cell (p := ⟨bA, oA + j, none⟩) hbA).trans hc
      clear hc hcy hy
      by_cases hbig : 1099511627776 < y
      · have e1 : decide (1099511627776 < y) = true := by simpa using hbig
        have HB := Lib.hid HX.out.below
        clear HX
        go_wp2
        go_ret
        exact ⟨rfl, HB.out⟩
      · have e1 : decide (1099511627776 < y) = false := by simpa using hbig
        by_cases hneg : y < 0
        · have e2 : decide (y < 0) = true := by simpa using hneg
          have CT := Lib.hid fun w => at_below x y hneg w
          clear hneg hbig
          go_wp2_with fail
          refine (CT.out _).mono ?_
          rintro e w5 ⟨rfl, hw⟩
          obtain rfl := hw
          go_wp2_with fail
          refine (made_any HX.out.sr).mono ?_
          rintro e w5 ⟨rfl, hw⟩
          obtain rfl := hw
          go_wp2
          go_roundw
          case rel => exact ⟨j + 1, n, v, by omega, by go_num, rfl, HX.out⟩
          case measure => simp [intOf]; omega
        · obtain ⟨i, rfl⟩ := Int.eq_ofNat_of_zero_le (show 0 ≤ y by omega)
          have e2 : decide ((i : Int) < 0) = false := by simp
          obtain ⟨qq, hqq⟩ : ∃ qq, i / 128 = qq := ⟨_, rfl⟩
          obtain ⟨r, hr⟩ : ∃ r, i % 128 = r := ⟨_, rfl⟩
          obtain ⟨u, hu⟩ : ∃ u, qq + 1 = u := ⟨_, rfl⟩
          have hr128 : r < 128 := by omega
          obtain ⟨Y, hY⟩ : ∃ Y, (addL p k s b t ((a : Int) - 1) (u : Int)).getD r 0 = Y := ⟨_, rfl⟩
          have hY64 : Y < 18446744073709551616 := by
            rw [← hY]
            have hok := add_ok p k s b t ((a : Int) - 1) (u : Int)
            rw [List.getD_eq_getElem?_getD, List.getElem?_eq_getElem (by rw [hok.1]; exact hr128)]
            exact hok.2 _ (List.getElem_mem _)
          obtain ⟨lo, hlo⟩ : ∃ lo, Y % 4294967296 = lo := ⟨_, rfl⟩
          obtain ⟨hi, hhi⟩ : ∃ hi, Y / 4294967296 = hi := ⟨_, rfl⟩
          have CT := Lib.hid (srat_any HA.out t l m b c g z p s k i qq r u n Y lo hi (by omega) hqq hr hu HX.out.len HX.out.held hY hY64 hlo hhi HX.out.sr (HX.out.tables HT.out))
          have CR := Lib.hid fun w => rword_any a t l m b c g z (by have := HA.out; omega) p s k i qq r (by omega) hqq hr w
          rw [show ((qq : Int) + 1) = (u : Int) by omega, hY] at CR
          have CW := Lib.hid fun w => words_any Y lo hi hY64 hlo hhi w
          have f1 : (i : Int) / 128 = (qq : Int) := by omega
          have f2 : Int.tdiv (i : Int) 128 = (qq : Int) := by rw [Int.tdiv_eq_ediv_of_nonneg (by omega)]; exact f1
          have f3 : IntKind.i64.wrap (qq : Int) = (qq : Int) := by rw [IntKind.wrap_i64]; omega
          have f4 : IntKind.i64.wrap ((qq : Int) + 1) = (u : Int) := by rw [IntKind.wrap_i64]; omega
          have f5 : (Y : Int) % 4294967296 = (lo : Int) := by omega
          have f6 : Int.tmod (Y : Int) 4294967296 = (lo : Int) := by rw [Int.tmod_eq_emod_of_nonneg (by omega)]; exact f5
          have f7 : (Y : Int) / 4294967296 = (hi : Int) := by omega
          have f8 : Int.tdiv (Y : Int) 4294967296 = (hi : Int) := by rw [Int.tdiv_eq_ediv_of_nonneg (by omega)]; exact f7
          have f9 : IntKind.u64.wrap (lo : Int) = (lo : Int) := by rw [IntKind.wrap_u64]; omega
          have f10 : IntKind.u64.wrap (hi : Int) = (hi : Int) := by rw [IntKind.wrap_u64]; omega
          have f11 : IntKind.u32.wrap (lo : Int) = (lo : Int) := by rw [IntKind.wrap_u32]; omega
          have f12 : IntKind.u32.wrap (hi : Int) = (hi : Int) := by rw [IntKind.wrap_u32]; omega
          clear hqq hr hu hY hY64 hlo hhi hr128 hneg hbig
          go_wp2_with fail
          refine CT.out.mono ?_
          rintro e w5 ⟨rfl, hs5, hk5⟩
          have HX5 := Lib.hid (HX.out.asked hs5 hk5)
          have k1 : w5.cell? ⟨w.heap.size + 1, 0, none⟩ = some (.int .i64 p) := (HX5.out.tw.tu.cell 0).trans rfl
          have k2 : w5.cell? ⟨w.heap.size + 1, 1, none⟩ = some (.int .i64 s) := (HX5.out.tw.tu.cell 1).trans rfl
          clear hs5 hk5 HX CT kc
          generalize addL p k s b t ((a : Int) - 1) (u : Int) = V at *
          go_wp2_with (refine wpList_load_want rfl 28 _ rfl _ _ rfl (sp_load HX5.out.tw.sh) ?_)
          refine (CR.out _).mono ?_
          rintro e w6 ⟨rfl, hb⟩
          have HX6 := Lib.hid (HX5.out.on hb)
          clear hb HX5 CR k1 k2
          go_wp2_with fail
          refine (CW.out _).mono ?_
          rintro e w7 ⟨rfl, hw⟩
          obtain rfl := hw
          clear CW
          go_wp2_with fail
          refine (made_any HX6.out.sr).mono ?_
          rintro e w7 ⟨rfl, hw⟩
          obtain rfl := hw
          go_wp2
          go_roundw
          case rel => exact ⟨j + 1, u, V, by omega, by go_num, rfl, HX6.out⟩
          case measure => simp [intOf]; omega
    · obtain rfl : j = xs.length := by omega
      have hdt : decide ((xs.length : Int) < (xs.length : Int)) = false := by simp
      have HB := Lib.hid HX.out.below
      clear HX HR
      go_wp2
      go_ret
      exact ⟨rfl, HB.out⟩

theorem source30_any (pa pt pm pl pz p s k : Int) (A : Option Addr) (d : Nat) (xs : List Int) (w : World) (hR : Reads w w.heap.size A (i64s xs)) (hT : TAt w) : Calls Tryd.prog 4 #[pav pa pt pm pl pz, tuv p s, .int .i64 k, .slice A xs.length d] w fun e w' => e = .returned (.bool true) ∧ Below w.heap.size w w' := by
  cases hm : mayB pa pt pm pl pz with
  | false => exact source30_bad pa pt pm pl pz p s k A _ d hm w
  | true =>
    obtain ⟨a, t, m, l, z, rfl, rfl, rfl, rfl, rfl, hM⟩ := may_nats hm
    obtain ⟨b, c, g, _, _, _, _, _, CO⟩ := of_good hM
    unfold Mok at hM
    cases hx : hasB t p s with
    | false => exact source30_turn a t m l z p s k A _ d a t l m b c g z (by omega) hx CO w
    | true =>
      by_cases hk : k < 0 ∨ (l : Int) ≤ k ∨ 20 < xs.length
      · exact source30_lane a t m l z p s k A _ d a t l m b c g z (by omega) hx hk CO w
      · exact source30_good t l m b c g z p s k A d xs (by omega) hM.1 (by omega) hx (by omega) (by omega) CO w hT hR
end Go.Proofs.YtnbdmkgldjhcaaaDoor
