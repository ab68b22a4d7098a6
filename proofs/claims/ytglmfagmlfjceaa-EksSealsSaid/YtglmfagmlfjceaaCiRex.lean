/- The document's Sum and Expand by their contracts. Conditions: those typed. -/
import Derived.Test.YtglmfagmlfjceaaCiRef
import Derived.Test.YtglmfagmlfjceaaCiSum
import Derived.Test.YtglmfagmlfjceaaCiEx
import Derived.Test.YtglmfagmlfjceaaPiVal
namespace Go.Proofs.Ytglmfagmlfjceaa
set_option maxRecDepth 50000
open Go.RowKit Ci Rot

set_option maxHeartbeats 1600000 in
theorem rsum_any (w : World) (b c : Nat) (g : Nat → Nat) (hT : RTab w b g) (hg : Ok g) :
    Calls Try.prog 13 #[.slice (some ⟨b, 0, none⟩) 1042 c] w fun e w' => e = .returned (.int .u32 (smTo g 1042 : Int)) ∧ w' = w := by
  have HT := Lib.hid hT
  clear hT
  go_enter Try.func13, Try.ntmps13
  go_wp2
  go_loopw [3, 4] (fun v3 v4 wr => ∃ k m : Nat, k ≤ 1042 ∧ v4 = .int .i64 (k : Int) ∧ v3 = .int .u32 (m : Int) ∧ Hid (m = smTo g k) ∧ m < 4294967296 ∧ wr = w) (fun _ v _ => 1042 - (intOf v).toNat)
  case atStart => exact ⟨0, 0, by omega, rfl, rfl, Lib.hid rfl, by omega, rfl⟩
  case round =>
    obtain ⟨k, m, hk, rfl, rfl, HM, hmb, rfl⟩ := hrel
    by_cases h : k < 1042
    · have hkI : (k : Int) < 1042 := by omega
      obtain ⟨x, hx⟩ : ∃ x, x = g k := ⟨_, rfl⟩
      have hxb : x < 4294967296 := by rw [hx]; exact hg k h
      have cT := HT.out.cell k h
      rw [← hx] at cT
      obtain ⟨p, hp⟩ : ∃ p, p = k % 32 := ⟨_, rfl⟩
      have htm : ((k : Int)).tmod 32 = (p : Int) := by rw [Int.tmod_eq_emod_of_nonneg (by omega), hp]; omega
      obtain ⟨y, hy⟩ : ∃ y, y = rotl 32 x (k % 32) := ⟨_, rfl⟩
      have hyb : y < 4294967296 := by rw [hy]; exact rotl_lt 32 x (k % 32) (by omega) hxb
      have hL : ∀ w1 : World, Calls Try.prog 28 #[.int .u32 (x : Int), .int .i64 (p : Int)] w1 fun e w' => e = .returned (.int .u32 (y : Int)) ∧ w1 = w' := fun w1 => by
        have h := refleft_any x (p : Int) w1 hxb
        rw [show (((p : Int)) % 32).toNat = k % 32 by omega, ← hy] at h
        exact h
      have HL := Lib.hid hL
      obtain ⟨m2, hm2⟩ : ∃ m2, m2 = (m + y) % 4294967296 := ⟨_, rfl⟩
      have hadd : ((m : Int) + (y : Int)) % 4294967296 = (m2 : Int) := by omega
      have HN : Hid (m2 = smTo g (k + 1)) := Lib.hid (by rw [smTo, ← HM.out, ← hx, ← hy, hm2])
      have hm2b : m2 < 4294967296 := by omega
      clear hL hx hp hy hm2 HM
      go_wp2_with fail
      refine (HL.out wr).mono ?_
      rintro e w2 ⟨rfl, rfl⟩
      go_wp2
      go_roundw
      case rel => exact ⟨k + 1, m2, by omega, by go_num, by rw [hadd], HN, hm2b, trivial⟩
      case measure => simp [intOf]; omega
    · obtain rfl : k = 1042 := by omega
      have HW : Hid (smTo g 1042 = m) := Lib.hid HM.out.symm
      clear HM h
      go_wp2
      go_ret
      exact ⟨by rw [HW.out]; rfl, rfl⟩

theorem RTab.congr {w : World} {b : Nat} {g k : Nat → Nat} (h : RTab w b g) (e : ∀ i, i < 1042 → g i = k i) : RTab w b k := by
  obtain ⟨C, h1, h2⟩ := h
  exact ⟨C, h1, fun i hi => by rw [← e i hi]; exact h2 i hi⟩
/-- a row of 1,042 words that the call owns -/
theorem RTab.own {w : World} {B b c : Nat} {xs : List Nat} {g : Nat → Nat} (h : w.ownsRow B 22 1 (.slice (some ⟨b, 0, none⟩) 1042 c) 1042 (u32s xs)) (hx : ∀ i, (hi : i < 1042) → xs[i]? = some (g i)) : RTab w b g := by
  obtain ⟨hl, h⟩ := h
  rcases h with ⟨h, _⟩ | ⟨g', cap, cur, hv, _, hb, _, _, hcs, hcur⟩
  · simp at h
  · cases hv
    refine ⟨cur, hb, fun i hi => ?_⟩
    have h1 : (u32s xs)[i]? = some (.int .u32 (g i : Int)) := by unfold u32s; rw [List.getElem?_map, hx i hi]; rfl
    rw [← hcur, List.getElem?_take] at h1
    rw [if_pos (by omega)] at h1
    rw [← Array.getElem?_toList]; exact h1
def rkTo (g : Nat → Nat) (key : ByteArray) (k : Nat) : Nat → Nat := fun i => if i < k then keyTo g key 18 i else 0

/-- how the worlds stand in one round -/
def RxW (b d : Nat) (w0 : World) (g : Nat → Nat) (S : Nat → Nat → Nat) (k : Nat) (w : World) : Prop := RTab w d (S k) ∧ Below w0.heap.size w0 w ∧ RTab w b g
theorem RxW.stable {b d : Nat} {w0 w w' : World} {g : Nat → Nat} {S : Nat → Nat → Nat} {k : Nat} (h : RxW b d w0 g S k w) (hb : Below w.heap.size w w') : RxW b d w0 g S k w' :=
  ⟨h.1.below hb h.1.lt, h.2.1.trans (hb.mono h.2.1.size), h.2.2.below hb h.2.2.lt⟩

set_option maxHeartbeats 4000000 in
theorem rexpand_any (w : World) (b c : Nat) (g : Nat → Nat) (hT : RTab w b g) (hg : Ok g) (salt key : ByteArray) (hs : salt.size ≤ 140737488351232) (hk : key.size ≤ 140737488351232) :
    Calls Try.prog 17 #[.slice (some ⟨b, 0, none⟩) 1042 c, .string salt, .string key] w fun e w' => ∃ d, e = .returned (.slice (some ⟨d, 0, none⟩) 1042 1042) ∧ RTab w' d (exB g salt key) ∧ w.heap.size ≤ d ∧ Below w.heap.size w w' := by
  have hbl := hT.lt
  have HT := Lib.hid hT
  have HG := Lib.hid hg
  clear hT hg
  obtain ⟨i0, hi, hz0, hz1, hz2⟩ := info_parts Try.info22
  go_enter Try.func17, Try.ntmps17
  go_wp2_with (at_make; refine wpList_make_full _ rfl _ _ 32 rfl w.heap.size 22 i0 (.int .u32 0) 1 Try.underlying32 hi hz0 hz1 _ _ _ _ 1042 rfl rfl rfl rfl ?c1 ?c2 ?c3 ?_)
  case c1 => simp [hz2]
  case c2 => unfold maxLen; omega
  case c3 => exact Nat.le_refl _
  intro w1 hown1 hg1
  have hb1 : Below w.heap.size w w1 := (Below.refl _ _).grown hg1 (Nat.le_refl _) (by simp)
  rw [made_one] at hown1
  have HR1 : Hid (RTab w1 w.heap.size (rkTo g key 0) ∧ Below w.heap.size w w1) := Lib.hid ⟨RTab.own (xs := List.replicate 1042 0) (by simpa [u32s] using hown1) (fun i hi => by rw [List.getElem?_replicate, if_pos hi]; rfl), hb1⟩
  clear hown1 hg1 hb1
  obtain ⟨d, hd⟩ : ∃ d, d = w.heap.size := ⟨_, rfl⟩
  have HR2 : Hid (RTab w1 d (rkTo g key 0) ∧ Below w.heap.size w w1) := by rw [hd]; exact HR1
  clear HR1
  have HD := Lib.hid hd
  rw [← hd]
  have hdw : b < d := by omega
  have HBD := Lib.hid hdw
  clear hd hdw hi hz0 hz1 hz2
  go_wp2
  go_loopw [8] (fun v8 wr => ∃ k : Nat, k ≤ 1042 ∧ v8 = .int .i64 (k : Int) ∧ Hid (RTab wr d (rkTo g key k) ∧ Below w.heap.size w wr)) (fun v _ => 1042 - (intOf v).toNat)
  case atStart => exact ⟨0, by omega, rfl, HR2⟩
  case round =>
    obtain ⟨k, hk2, rfl, HS⟩ := hrel
    by_cases h : k < 1042
    · have hkI : (k : Int) < 1042 := by omega
      obtain ⟨x, hx⟩ : ∃ x, x = g k := ⟨_, rfl⟩
      have hxb : x < 4294967296 := by rw [hx]; exact HG.out k h
      have HTr : Hid (RTab wr b g) := Lib.hid (HT.out.below HS.out.2 hbl)
      have cT := HTr.out.cell k h
      rw [← hx] at cT
      have cD := HS.out.1.cell k h
      have fD := HS.out.1.free k
      obtain ⟨o, ho⟩ : ∃ o, o = rkTo g key k k := ⟨_, rfl⟩
      rw [← ho] at cD
      clear ho
      obtain ⟨G, hG⟩ : ∃ G, G = rkTo g key k := ⟨_, rfl⟩
      rw [← hG] at HS
      have HD1 : Hid (RTab (wr.setCell ⟨d, k, none⟩ (.int .u32 (x : Int))) d (upd G k x) ∧ Below w.heap.size w (wr.setCell ⟨d, k, none⟩ (.int .u32 (x : Int))) ∧ RTab (wr.setCell ⟨d, k, none⟩ (.int .u32 (x : Int))) b g) :=
        Lib.hid ⟨HS.out.1.set k x, HS.out.2.setCell (by rw [HD.out]; exact Nat.le_refl _) _, HTr.out.below (Below.setCell (p := ⟨d, k, none⟩) (Below.refl d wr) (Nat.le_refl _) _) HBD.out⟩
      by_cases h18 : k < 18
      · have hk18 : (k : Int) < 18 := by omega
        obtain ⟨y, hy⟩ : ∃ y, y = wd key k := ⟨_, rfl⟩
        have hyb : y < 4294967296 := by rw [hy]; exact wd_lt _ _
        have hxy := u32_xor_nat x y hxb hyb
        obtain ⟨z, hz⟩ : ∃ z, z = x ^^^ y := ⟨_, rfl⟩
        rw [← hz] at hxy
        have HC := Lib.hid (fun w1 : World => rword_any w1 key hk k (by omega))
        rw [← hy] at HC
        have HN : Hid (∀ i, i < 1042 → upd (upd G k x) k z i = rkTo g key (k + 1) i) := Lib.hid (fun i hi => by
          rw [hG]
          unfold upd rkTo
          by_cases e : i = k
          · subst e
            rw [if_pos rfl, if_pos (by omega), keyTo_at, if_pos h18, hz, hx, hy]
          · rw [if_neg e, if_neg e]
            by_cases e2 : i < k
            · rw [if_pos e2, if_pos (by omega)]
            · rw [if_neg e2, if_neg (by omega)])
        have HX : Hid (g k = x) := Lib.hid hx.symm
        clear hx hy hz hG
        go_wp2
        obtain ⟨wa, hwa⟩ : ∃ wa, wa = wr.setCell ⟨d, k, none⟩ (.int .u32 (x : Int)) := ⟨_, rfl⟩
        rw [← hwa] at HD1 ⊢
        clear hwa cT cD fD HS HTr
        refine wp_region_seq [11] [.slice (some ⟨d, 0, none⟩) 1042 1042, .int .i64 (k : Int), .slice (some ⟨b, 0, none⟩) 1042 c, .int .i64 (k : Int), .pointer (some ⟨b, k, none⟩), .int .u32 (x : Int), .string key, .int .i64 (k : Int), .int .u32 (y : Int), .int .u32 (z : Int), .pointer (some ⟨d, k, none⟩), undef] (RxW b d w g fun t => if t = 0 then upd G k x else upd (upd G k x) k z) (by kernel_rfl) (by kernel_rfl) rfl ?_ ⟨?_, ?_, ?_, ?_, ?_, ?_, ?_, ?_, ?_, ?_, ?_, ?_, trivial⟩ ?_
        · exact ⟨HD1.out.1.drewN 1, below_drewN HD1.out.2.1 1, HD1.out.2.2.drewN 1⟩
        · exact seq_head (by kernel_rfl) (fun _ _ h hb => h.stable hb) fun a w2 C hW => op_move (.inl rfl) (C.was 7 (by kernel_rfl))
        · exact seq_head (by kernel_rfl) (fun _ _ h hb => h.stable hb) fun a w2 C hW => op_move (.inl rfl) (C.was 8 (by kernel_rfl))
        · exact seq_head (by kernel_rfl) (fun _ _ h hb => h.stable hb) fun a w2 C hW => op_move (.inl rfl) (C.was 0 (by kernel_rfl))
        · exact seq_head (by kernel_rfl) (fun _ _ h hb => h.stable hb) fun a w2 C hW => op_move (.inl rfl) (C.was 8 (by kernel_rfl))
        · exact seq_head (by kernel_rfl) (fun _ _ h hb => h.stable hb) fun a w2 C hW => op_value (v := .pointer (some ⟨b, k, none⟩)) (by rw [show (⟨b, k, none⟩ : Addr) = ⟨b, 0 + k, none⟩ by rw [Nat.zero_add]]; exact ixt_run rfl (C.on (j := 2) (by kernel_rfl) rfl rfl) (C.on (j := 3) (by kernel_rfl) rfl rfl) h) rfl
        · exact seq_head (by kernel_rfl) (fun _ _ h hb => h.stable hb) fun a w2 C hW => op_value (ldu_run rfl (C.on (j := 4) (by kernel_rfl) rfl rfl) ((hW.2.2.cell k h).trans (by rw [HX.out]; rfl))) rfl
        · exact seq_head (by kernel_rfl) (fun _ _ h hb => h.stable hb) fun a w2 C hW => op_move (.inl rfl) (C.was 2 (by kernel_rfl))
        · exact seq_head (by kernel_rfl) (fun _ _ h hb => h.stable hb) fun a w2 C hW => op_move (.inl rfl) (C.was 8 (by kernel_rfl))
        · exact seq_head (by kernel_rfl) (fun _ _ h hb => h.stable hb) fun a w2 C hW => op_call2 rfl (reg_enters Try.func30 (by kernel_rfl) (by kernel_rfl)) (C.on (j := 6) (by kernel_rfl) rfl rfl) (C.on (j := 7) (by kernel_rfl) rfl rfl) ((HC.out w2).mono fun e w' ⟨e1, e2⟩ => ⟨_, e1, rfl, e2 ▸ Below.refl _ _⟩)
        · exact seq_head (by kernel_rfl) (fun _ _ h hb => h.stable hb) fun a w2 C hW => op_bin rfl (C.on (j := 5) (by kernel_rfl) rfl rfl) (C.on (j := 8) (by kernel_rfl) rfl rfl) rfl (by simp [go_sem, hxy]) rfl
        · exact seq_head (by kernel_rfl) (fun _ _ h hb => h.stable hb) fun a w2 C hW => op_value (v := .pointer (some ⟨d, k, none⟩)) (by rw [show (⟨d, k, none⟩ : Addr) = ⟨d, 0 + k, none⟩ by rw [Nat.zero_add]]; exact ixt_run rfl (C.on (j := 0) (by kernel_rfl) rfl rfl) (C.on (j := 1) (by kernel_rfl) rfl rfl) h) rfl
        · exact seq_turn 0 (by kernel_rfl) fun a w2 C hW => st_does rfl (C.on (j := 10) (by kernel_rfl) rfl rfl) (C.on (j := 9) (by kernel_rfl) rfl rfl) (hW.1.cell k h) (hW.1.free k) ⟨hW.1.set k z, hW.2.1.setCell (by rw [HD.out]; exact Nat.le_refl _) _, hW.2.2.below (Below.setCell (p := ⟨d, k, none⟩) (Below.refl d w2) (Nat.le_refl _) _) HBD.out⟩
        intro wu hz
        have HZ : Hid (RTab wu d (upd (upd G k x) k z) ∧ Below w.heap.size w wu) := Lib.hid ⟨hz.1, hz.2.1⟩
        clear hz HD1
        simp only [setAll, setAt, List.setIfInBounds_toArray, List.set_cons_succ, List.set_cons_zero]
        go_wp2
        go_roundw
        case rel => exact ⟨k + 1, by omega, by go_num, Lib.hid ⟨HZ.out.1.congr HN.out, HZ.out.2⟩⟩
        case measure => simp [intOf]; omega
      · have hk18 : (18 : Int) ≤ (k : Int) := by omega
        have HN : Hid (∀ i, i < 1042 → upd G k x i = rkTo g key (k + 1) i) := Lib.hid (fun i hi => by
          rw [hG]
          unfold upd rkTo
          by_cases e : i = k
          · subst e
            rw [if_pos rfl, if_pos (by omega), keyTo_at, if_neg h18, hx]
          · rw [if_neg e]
            by_cases e2 : i < k
            · rw [if_pos e2, if_pos (by omega)]
            · rw [if_neg e2, if_neg (by omega)])
        clear hx hG
        go_wp2
        go_roundw
        case rel => exact ⟨k + 1, by omega, by go_num, Lib.hid ⟨HD1.out.1.congr HN.out, HD1.out.2.1⟩⟩
        case measure => simp [intOf]; omega
    · obtain rfl : k = 1042 := by omega
      have HK : Hid (RTab wr d (keyTo g key 18) ∧ Below w.heap.size w wr) := Lib.hid ⟨HS.out.1.congr fun i hi => by unfold rkTo; rw [if_pos hi], HS.out.2⟩
      have HGE : Hid (exB g salt key = (chTo salt (keyTo g key 18) 521).g) := Lib.hid rfl
      have hok : Ok (keyTo g key 18) := keyTo_ok key HG.out 18
      generalize keyTo g key 18 = G at *
      have HGO := Lib.hid hok
      clear HS HR2 hok
      rw [show ((1042 : Nat) : Int) = 1042 from rfl]
      go_wp2
      go_loopw [9, 10, 11] (fun v9 v10 v11 wx => ∃ m i l r : Nat, m ≤ 521 ∧ Hid (i = 2 * m) ∧ v11 = .int .i64 (i : Int) ∧ v9 = .int .u32 (l : Int) ∧ v10 = .int .u32 (r : Int) ∧ Hid (l = (chTo salt G m).l ∧ r = (chTo salt G m).r) ∧ Hid (RTab wx d (chTo salt G m).g ∧ Below w.heap.size w wx)) (fun _ _ v _ => 1042 - (intOf v).toNat)
      case atStart => exact ⟨0, 0, 0, 0, by omega, Lib.hid rfl, rfl, rfl, rfl, Lib.hid ⟨rfl, rfl⟩, HK⟩
      case round =>
        obtain ⟨m, i, l, r, hm, HI, rfl, rfl, rfl, HLR, HS⟩ := hrel
        by_cases h2 : m < 521
        · have hin : i + 1 < 1042 := by have := HI.out; omega
          obtain ⟨G1, hG1⟩ : ∃ G1, G1 = (chTo salt G m).g := ⟨_, rfl⟩
          obtain ⟨hok1, hok2, hok3⟩ := chTo_ok salt G HGO.out m
          rw [← hG1] at hok1 HS
          rw [← HLR.out.1] at hok2
          rw [← HLR.out.2] at hok3
          obtain ⟨x, hx⟩ : ∃ x, x = wd salt i := ⟨_, rfl⟩
          obtain ⟨i1, hi1⟩ : ∃ i1, i1 = i + 1 := ⟨_, rfl⟩
          have hi1I : (i : Int) + 1 = (i1 : Int) := by omega
          have hi1b : i1 < 1042 := by omega
          have hi1I2 : (i1 : Int) < 1042 := by omega
          have hib : (i : Int) < 1042 := by omega
          obtain ⟨y, hy⟩ : ∃ y, y = wd salt i1 := ⟨_, rfl⟩
          have hxb : x < 4294967296 := by rw [hx]; exact wd_lt _ _
          have hyb : y < 4294967296 := by rw [hy]; exact wd_lt _ _
          have hlx := u32_xor_nat l x hok2 hxb
          have hry := u32_xor_nat r y hok3 hyb
          obtain ⟨l1, hl1⟩ : ∃ l1, l1 = l ^^^ x := ⟨_, rfl⟩
          obtain ⟨r1, hr1⟩ : ∃ r1, r1 = r ^^^ y := ⟨_, rfl⟩
          have hl1b : l1 < 4294967296 := by rw [hl1]; exact xor_lt _ _ hok2 hxb
          have hr1b : r1 < 4294967296 := by rw [hr1]; exact xor_lt _ _ hok3 hyb
          rw [← hl1] at hlx
          rw [← hr1] at hry
          obtain ⟨a, ha⟩ : ∃ a, a = enL G1 l1 r1 := ⟨_, rfl⟩
          obtain ⟨a2, ha2⟩ : ∃ a2, a2 = enR G1 l1 r1 := ⟨_, rfl⟩
          have HST : Hid ((chTo salt G (m + 1)) = ⟨upd (upd G1 i a) i1 a2, a, a2⟩) := Lib.hid (by
            show stp salt (chTo salt G m) m = _
            unfold stp
            rw [← hG1, ← HLR.out.1, ← HLR.out.2, ← HI.out, ← hi1, ← hx, ← hy, ← hl1, ← hr1, ← ha, ← ha2])
          have HC1 := Lib.hid (fun w1 : World => rword_any w1 salt hs i (by omega))
          have HC2 := Lib.hid (fun w1 : World => rword_any w1 salt hs i1 (by omega))
          rw [← hx] at HC1
          rw [← hy] at HC2
          have HE := Lib.hid (by
            have h := renc_any wr d 1042 G1 HS.out.1 hok1 l1 r1 hl1b hr1b
            rw [show crL (fB G1) G1 l1 r1 = a from ha.symm, show crR (fB G1) G1 l1 r1 = a2 from ha2.symm] at h
            exact h)
          have cA := HS.out.1.cell i (by omega)
          have fA := HS.out.1.free i
          have hR2 : ∀ q, RTab ((wr.drewN q).setCell ⟨d, i, none⟩ (.int .u32 (a : Int))) d (upd G1 i a) := fun q => RTab.set (w := wr.drewN q) HS.out.1 i a
          have cB := fun q => (hR2 q).cell i1 (by omega)
          have fB' := fun q => (hR2 q).free i1
          have HI1 := Lib.hid hi1
          have HI2 := Lib.hid (And.intro hi1b hin)
          generalize hob : G1 i = o1 at cA
          have hob2 : ∃ o2, o2 = upd G1 i a i1 := ⟨_, rfl⟩
          obtain ⟨o2, ho2⟩ := hob2
          rw [← ho2] at cB
          have HR3 := Lib.hid hR2
          clear hG1 hx hy hi1 hl1 hr1 ha ha2 hok1 hob ho2 hR2
          go_wp2_with fail
          refine (HC1.out wr).mono ?_
          rintro e w1 ⟨rfl, rfl⟩
          go_wp2_with fail
          refine (HC2.out w1).mono ?_
          rintro e w2 ⟨rfl, rfl⟩
          go_wp2_with fail
          refine HE.out.mono ?_
          rintro e w3 ⟨rfl, q, rfl⟩
          have cB1 := cB q
          have fB1 := fB' q
          clear cB fB'
          go_wp2
          go_roundw
          case rel =>
            refine ⟨m + 1, i + 2, a, a2, by omega, Lib.hid (by have := HI.out; omega), by have := HI1.out; go_num, rfl, rfl, Lib.hid (by rw [HST.out]; exact ⟨rfl, rfl⟩), Lib.hid ⟨by rw [HST.out]; exact (HR3.out q).set i1 a2, ?_⟩⟩
            exact ((below_drewN HS.out.2 q).setCell (p := ⟨d, i, none⟩) (by rw [HD.out]; exact Nat.le_refl _) _).setCell (p := ⟨d, i1, none⟩) (by rw [HD.out]; exact Nat.le_refl _) _
          case measure => have := HI1.out; simp [intOf]; omega
        · obtain rfl : m = 521 := by omega
          obtain rfl : i = 1042 := HI.out
          rw [show ((1042 : Nat) : Int) = 1042 from rfl]
          go_wp2
          go_ret
          exact ⟨d, rfl, by rw [HGE.out]; exact HS.out.1, by rw [HD.out]; exact Nat.le_refl _, HS.out.2⟩
end Go.Proofs.Ytglmfagmlfjceaa
