/- The walk of the law FnMasks, with what it needs of masks and their members. Conditions: those in the theorems. -/
import Derived.Test.YtckkkleegohkfaaSubs2
import Derived.Test.YtckkkleegohkfaaDraw2
namespace Go.Proofs.Ytckkkleegohkfaa
open Go.RowKit

set_option maxHeartbeats 400000 in
theorem likeInts_any (xs : List Int) (a a' : Option Addr) (len cap cap' : Nat) (w : World) (hl : len ≤ 1048576) (h : At w a len xs) (h' : At w a' len xs) :
    Calls Try.prog 21 #[.slice a len cap, .slice a' len cap'] w (SomeDrew w fun e => e = .returned (.bool true)) := by
  obtain ⟨hlen, ha⟩ := h
  obtain ⟨hlen', ha'⟩ := h'
  by_cases hz : len = 0
  · subst hz
    clear hlen hlen' ha ha'
    go_enter Try.func21, Try.ntmps21
    go_wp2
    refine wp_loop_rounds 1 ?_
    rw [rounds_succ]
    go_wp2
    go_ret
    exact ⟨rfl, 0, rfl⟩
  · obtain ⟨b, off, rfl, hb, hc⟩ := ha.resolve_left hz
    obtain ⟨b', off', rfl, hb', hc'⟩ := ha'.resolve_left hz
    clear hlen hlen' ha ha' hb hb' hz
    go_enter Try.func21, Try.ntmps21
    go_wp2
    go_loopw [5] (fun i wr => ∃ k q : Nat, k ≤ len ∧ i = .int .i64 k ∧ wr = w.drewN q) (fun i _ => len - (intOf i).toNat)
    case atStart => exact ⟨0, 0, Nat.zero_le _, rfl, rfl⟩
    case round =>
      obtain ⟨k, q, hk, rfl, rfl⟩ := hrel
      by_cases hlt : k < len
      · have hcell := hc k hlt
        have hcell' := hc' k hlt
        clear hc hc'
        go_wp2
        go_quiet (fail)
        go_wp2
        go_roundw
        case rel => exact ⟨k + 1, _, hlt, by go_num, rfl⟩
        case measure => simp [intOf]; omega
      · obtain rfl : k = len := by omega
        clear hc hc'
        go_wp2
        go_ret
        exact ⟨rfl, _, rfl⟩

theorem like_own (xs : List Int) (v v' : Value) (lo hi lo' hi' : Nat) (w : World) (hl : xs.length ≤ 1048576) (h : OwnIn w lo hi v xs) (h' : OwnIn w lo' hi' v' xs) :
    Calls Try.prog 21 #[v, v'] w (SomeDrew w fun e => e = .returned (.bool true)) := by
  obtain ⟨a, cap, rfl, hat, -, -, -⟩ := h.1.at
  obtain ⟨a', cap', rfl, hat', -, -, -⟩ := h'.1.at
  exact likeInts_any xs a a' xs.length cap cap' w hl hat hat'

theorem big_no (a : Option Addr) (len cap : Nat) (w : World) (h : len ≤ 4096) : Calls Try.prog 17 #[.slice a len cap] w fun e w' => e = .returned (.bool false) ∧ w = w' := by
  go_enter Try.func17, Try.ntmps17
  go_wp2
  go_ret
  exact ⟨ret_bool (decide_eq_false (by omega)), rfl⟩
theorem big_yes (a : Option Addr) (len cap : Nat) (w : World) (h : 4096 < len) : Calls Try.prog 17 #[.slice a len cap] w fun e w' => e = .returned (.bool true) ∧ w = w' := by
  go_enter Try.func17, Try.ntmps17
  go_wp2
  go_ret
  exact ⟨ret_bool (decide_eq_true (by omega)), rfl⟩

theorem Code.of_row {w : World} {a : Option Addr} {len cap : Nat} {zs : List Int} (h : IsRow .u8 w a len cap zs) (hl : len ≤ 4096) : Code w.heap.size w a len := by
  refine ⟨by omega, ?_⟩
  rcases h with ⟨rfl, rfl, rfl, rfl⟩ | ⟨x, rfl, h1, hm, hz, hcell, hwz⟩
  · exact .inl rfl
  · by_cases h0 : len = 0
    · exact .inl h0
    · right
      obtain ⟨b, off, spot⟩ := x
      have hc := hcell 0 (by omega)
      have hspot : spot = none := by simpa [Addr.add] using World.cell?_spot hc
      subst hspot
      refine ⟨b, off, rfl, World.block_lt_of_cell? w _ hc, fun j hj => ?_⟩
      have hcj := hcell j (by omega)
      have e2 : (⟨b, off, none⟩ : Addr).add j = ⟨b, off + j, none⟩ := by unfold Addr.add; split <;> simp_all
      rw [e2] at hcj
      have hin : zs.getD j 0 ∈ zs := by
        rw [List.getD_eq_getElem?_getD, List.getElem?_eq_getElem (by omega)]
        exact List.getElem_mem _
      obtain ⟨g, hg⟩ : ∃ g, g = zs.getD j 0 := ⟨_, rfl⟩
      rw [← hg] at hcj hin
      have hw := hwz _ hin
      simp [Lit.wf, IntKind.min, IntKind.max, IntKind.signed, IntKind.bits] at hw
      obtain ⟨z, hz2⟩ := Int.eq_ofNat_of_zero_le hw.1
      exact ⟨z, by omega, by rw [hcj, hz2]⟩

/-! The mask of a mask's members is the mask. -/
theorem mo_snoc (n : Int) (xs : List Int) (z : Int) : ∀ k, k ≤ xs.length → mo n (xs ++ [z]) k = mo n xs k
  | 0, _ => rfl
  | k + 1, h => by rw [mo, mo, mo_snoc n xs z k (by omega), nth_left _ _ _ (by omega)]
theorem moB_snoc (n : Int) (xs : List Int) (z : Int) : ∀ k, k ≤ xs.length → moB n (xs ++ [z]) k = moB n xs k
  | 0, _ => rfl
  | k + 1, h => by rw [moB, moB, moB_snoc n xs z k (by omega), nth_left _ _ _ (by omega)]
theorem mo_mem (n : Int) (m : Nat) (w : Nat) (hw : w ≤ 30) : mo n (memTo m w) (memTo m w).length = ((m % 2 ^ w : Nat) : Int) := by
  induction w with
  | zero => simp [memTo, mo, Nat.mod_one]
  | succ w ih =>
    have ih := ih (by omega)
    have hq : m % 2 ^ (w + 1) = m % 2 ^ w + 2 ^ w * (m / 2 ^ w % 2) := by rw [Nat.pow_succ, Nat.mod_mul]
    rw [memTo]
    cases hb : bitN m w
    · have : m / 2 ^ w % 2 = 0 := by
        have : ¬ m / 2 ^ w % 2 = 1 := by simpa [bitN] using hb
        omega
      rw [if_neg (by simp), ih, hq, this]
      simp
    · have h1 : m / 2 ^ w % 2 = 1 := by simpa [bitN] using hb
      have hlt : m % 2 ^ w < 2 ^ w := Nat.mod_lt _ (Nat.two_pow_pos w)
      have hp : 2 ^ w ≤ 2 ^ 30 := Nat.pow_le_pow_right (by decide) (by omega)
      rw [if_pos rfl, List.length_append, List.length_singleton, mo, mo_snoc _ _ _ _ (Nat.le_refl _), nth_snoc _ _ _ rfl, ih, one_eq _ (by omega) (by omega), Int.toNat_natCast, show ((2 : Int) ^ w) = ((2 ^ w : Nat) : Int) by simp, ior _ _ (by omega) (by omega), hq, h1]
      have h5 := Nat.two_pow_add_eq_or_of_lt hlt 1
      rw [Nat.mul_one] at h5
      rw [Nat.or_comm, Nat.mul_one, ← h5, Nat.add_comm]
theorem moB_mem (j : Nat) (m : Nat) (w : Nat) (hw : w ≤ j) : moB j (memTo m w) (memTo m w).length = true := by
  induction w with
  | zero => rfl
  | succ w ih =>
    have ih := ih (by omega)
    rw [memTo]
    cases hb : bitN m w
    · simpa using ih
    · rw [if_pos rfl, List.length_append, List.length_singleton, moB, moB_snoc _ _ _ _ (Nat.le_refl _), nth_snoc _ _ _ rfl, ih, inB]
      simp
      omega
theorem mo_back {k j : Nat} (hj : j ≤ 30) (hk : k < 2 ^ j) : moR j (memTo k j) (memTo k j).length = .tuple #[.int .i64 k, .int .i64 0] := by
  have h1 := mo_mem j k j hj
  have h2 := moB_mem j k j (Nat.le_refl _)
  have h3 : inB (j : Int) 0 30 = true := by simp [inB]; omega
  rw [Nat.mod_eq_of_lt hk] at h1
  unfold moR moV moC
  rw [h2, h3, h1]
  rfl

theorem cod_range (n m : Int) : cod n m = 0 ∨ cod n m = 1 ∨ cod n m = 2 := by
  unfold cod
  split
  · split
    · exact .inl rfl
    · exact .inr (.inl rfl)
  · exact .inr (.inr rfl)

set_option maxHeartbeats 2000000 in
set_option maxRecDepth 100000 in
theorem lawMasks (a : Option Addr) (len cap : Nat) (zs : List Int) (w : World) (h : IsRow .u8 w a len cap zs) :
    Calls Try.prog 3 #[.slice a len cap] w fun e w' => e = .returned (.bool true) ∧ Below w.heap.size w w' := by
  by_cases hbig : 4096 < len
  · clear h
    go_enter Try.func3, Try.ntmps3
    go_wp2_with (go_at_call 17; refine (big_yes _ _ _ _ hbig).mono ?_; rintro e w' ⟨rfl, rfl⟩)
    go_ret
    exact ⟨rfl, Below.refl _ _⟩
  · have hl : len ≤ 4096 := by omega
    have HC := Lib.hid (Code.of_row h hl)
    clear h hbig
    go_enter Try.func3, Try.ntmps3
    go_wp2_with (go_at_call 17; refine (big_no _ _ _ _ hl).mono ?_; rintro e w' ⟨rfl, rfl⟩)
    refine (DrawSubMasks_any a len cap w HC.out).mono ?_
    rintro e w1 ⟨⟨n, m, rfl⟩, B1⟩
    by_cases h0 : cod n m = 0
    · have hz := cod_zero h0
      have hz1 := hz.1
      have hz2 := hz.2.1
      have hz3 := hz.2.2.1
      have hz4 := hz.2.2.2.2
      have hpow := cod_pow h0 (Int.toNat_of_nonneg hz3).symm
      obtain ⟨k, rfl⟩ := Int.eq_ofNat_of_zero_le hz3
      obtain ⟨j, rfl⟩ := Int.eq_ofNat_of_zero_le hz1
      have hk : k < 1073741824 := by omega
      have hj : j ≤ 30 := by omega
      rw [Int.toNat_natCast, Int.toNat_natCast] at hpow
      obtain ⟨p, hp⟩ : ∃ p, p = pop k := ⟨_, rfl⟩
      have hpk : p ≤ 30 := by
        have h1 := memTo_pop j k hpow
        have h2 := memTo_len k j
        omega
      have HM : Hid ((memTo k j).length = p) := by rw [hp]; exact memTo_pop j k hpow
      have HB : Hid (moR j (memTo k j) p = .tuple #[.int .i64 k, .int .i64 0]) := by have := mo_back hj hpow; rw [HM.out] at this; exact this
      have HV : Hid (cntV j k = (p : Int)) := by show cntV j k = p; rw [cntV, if_pos h0, Int.toNat_natCast, ← hp]
      have HP := Lib.hid hp
      have H0 := Lib.hid h0
      clear hz hz1 hz2 hz3 hz4 hpow hp h0
      by_cases hp8 : p ≤ 8
      · have hs : smC j k = 0 := smC_ok H0.out (by rw [← HP.out]; exact hp8)
        obtain ⟨N, hN⟩ : ∃ N : Nat, N = 2 ^ p := ⟨_, rfl⟩
        have hN8 : N ≤ 256 := by
          have : 2 ^ p ≤ 2 ^ 8 := Nat.pow_le_pow_right (by decide) hp8
          omega
        have HY : Hid ((outL 0 (smL k)).length = N) := by
          show (outL 0 (smL k)).length = N
          rw [outL, if_pos rfl, smL, tab_len, Int.toNat_natCast, hN, HP.out]
        have hyl : (outL 0 (smL k)).length ≤ 1048576 := by rw [HY.out]; omega
        have HN := Lib.hid hN
        clear hN
        have HS := Lib.hid hs
        clear hs
        go_wp2_with fail
        refine (implSubMasks_any j k w1).mono ?_
        rw [HS.out]
        rintro e w2 ⟨v2, rfl, ho2, hb2⟩
        have B2 : Below w.heap.size w w2 := B1.trans (hb2.mono B1.size)
        have O2 := Lib.hid ho2.inn
        clear ho2 hb2
        go_wp2_with fail
        refine (specSubMasks_any j k w2).mono ?_
        rw [HS.out]
        rintro e w3 ⟨v3, rfl, ho3, hb3⟩
        have B3 : Below w.heap.size w w3 := B2.trans (hb3.mono B2.size)
        have O23 := Lib.hid (O2.out.below hb3 O2.out.2.1)
        have O3 := Lib.hid ho3.inn
        clear ho3 hb3 O2
        go_wp2_with fail
        refine (like_own _ _ _ _ _ _ _ _ hyl O23.out O3.out).mono ?_
        rintro e w4 ⟨rfl, q4, rfl⟩
        have B4 : Below w.heap.size w (w3.drewN q4) := below_drewN B3 q4
        obtain ⟨a2, cap2, hv2, -, -, -, -⟩ := O23.out.1.at
        rw [HY.out] at hv2
        subst hv2
        clear O23 O3
        generalize w3.drewN q4 = W4 at B4 ⊢
        go_wp2_with fail
        refine (implMembersOf_any j k W4).mono ?_
        rw [H0.out]
        rintro e w5 ⟨v5, rfl, ho5, hb5⟩
        have B5 : Below w.heap.size w w5 := B4.trans (hb5.mono B4.size)
        obtain ⟨a5, cap5, hv5, hat5, -, -, -⟩ := ho5.at
        have he5 : outL 0 (memTo (k : Int).toNat (j : Int).toNat) = memTo k j := rfl
        rw [he5] at hv5 hat5
        rw [HM.out] at hv5
        have HAT5 := Lib.hid hat5
        clear ho5 hb5 hat5 he5
        subst hv5
        go_wp2_with fail
        refine (implCountMembers_any j k w5).mono ?_
        rw [H0.out, HV.out]
        rintro e w6 ⟨rfl, rfl⟩
        go_wp2_with fail
        refine (implMaskOf_any j (memTo k j) a5 p cap5 w5 (by omega) (by have := HAT5.out; rw [HM.out] at this; exact this)).mono ?_
        rw [HB.out]
        rintro e w7 ⟨rfl, rfl⟩
        go_wp2
        go_loop [15, 16] (fun s i => ∃ t z : Nat, t ≤ p ∧ z = 2 ^ t ∧ i = .int .i64 t ∧ s = .int .i64 z) (fun _ i => p - (intOf i).toNat)
        case atStart => exact ⟨0, 1, Nat.zero_le _, rfl, rfl, rfl⟩
        case round =>
          obtain ⟨t, z, ht, hz, rfl, rfl⟩ := hrel
          have hz8 : z ≤ 256 := by
            have : 2 ^ t ≤ 2 ^ 8 := Nat.pow_le_pow_right (by decide) (by omega)
            omega
          have HZ := Lib.hid hz
          clear hz
          by_cases htp : t < p
          · go_wp2
            go_round
            case rel => exact ⟨t + 1, z * 2, htp, by rw [HZ.out, Nat.pow_succ], by go_num, by go_num⟩
            case measure => simp [intOf]; omega
          · obtain rfl : t = p := by omega
            obtain rfl : z = N := by rw [HZ.out, HN.out]
            go_wp2
            go_ret
            exact ⟨rfl, B5⟩
      · have hs : smC j k = 3 := smC_big H0.out (by rw [← HP.out]; omega)
        have hp9 : 8 < p := by omega
        have hyl : (outL 3 (smL k)).length ≤ 1048576 := by rw [outL, if_neg (by decide)]; decide
        have HS := Lib.hid hs
        clear hs
        go_wp2_with fail
        refine (implSubMasks_any j k w1).mono ?_
        rw [HS.out]
        rintro e w2 ⟨v2, rfl, ho2, hb2⟩
        have B2 : Below w.heap.size w w2 := B1.trans (hb2.mono B1.size)
        have O2 := Lib.hid ho2.inn
        clear ho2 hb2
        go_wp2_with fail
        refine (specSubMasks_any j k w2).mono ?_
        rw [HS.out]
        rintro e w3 ⟨v3, rfl, ho3, hb3⟩
        have B3 : Below w.heap.size w w3 := B2.trans (hb3.mono B2.size)
        have O23 := Lib.hid (O2.out.below hb3 O2.out.2.1)
        have O3 := Lib.hid ho3.inn
        clear ho3 hb3 O2
        go_wp2_with fail
        refine (like_own _ _ _ _ _ _ _ _ hyl O23.out O3.out).mono ?_
        rintro e w4 ⟨rfl, q4, rfl⟩
        have B4 : Below w.heap.size w (w3.drewN q4) := below_drewN B3 q4
        clear O23 O3
        generalize w3.drewN q4 = W4 at B4 ⊢
        go_wp2_with fail
        refine (implMembersOf_any j k W4).mono ?_
        rw [H0.out]
        rintro e w5 ⟨v5, rfl, ho5, hb5⟩
        have B5 : Below w.heap.size w w5 := B4.trans (hb5.mono B4.size)
        obtain ⟨a5, cap5, hv5, hat5, -, -, -⟩ := ho5.at
        have he5 : outL 0 (memTo (k : Int).toNat (j : Int).toNat) = memTo k j := rfl
        rw [he5] at hv5 hat5
        rw [HM.out] at hv5
        have HAT5 := Lib.hid hat5
        clear ho5 hb5 hat5 he5
        subst hv5
        go_wp2_with fail
        refine (implCountMembers_any j k w5).mono ?_
        rw [H0.out, HV.out]
        rintro e w6 ⟨rfl, rfl⟩
        go_wp2_with fail
        refine (implMaskOf_any j (memTo k j) a5 p cap5 w5 (by omega) (by have := HAT5.out; rw [HM.out] at this; exact this)).mono ?_
        rw [HB.out]
        rintro e w7 ⟨rfl, rfl⟩
        go_wp2
        go_ret
        exact ⟨ret_bool (decide_eq_true (by omega)), B5⟩
    · obtain ⟨c, hc⟩ : ∃ c, c = cod n m := ⟨_, rfl⟩
      have hr := cod_range n m
      rw [← hc] at hr h0
      have d0 : (c == 0) = false := by simpa using h0
      have d1 : (c != 0) = true := by simpa using h0
      have d2 : (c == 3) = false := by simp; omega
      have d3 : (c != 3) = true := by simp; omega
      have hs : smC n m = c := by rw [hc]; exact smC_bad (by rw [← hc]; exact h0)
      have HS := Lib.hid hs
      have HC2 := Lib.hid hc
      have hyl : (outL c (smL m)).length ≤ 1048576 := by rw [outL, if_neg h0]; decide
      clear hr h0 hs hc
      go_wp2_with fail
      refine (implSubMasks_any n m w1).mono ?_
      rw [HS.out]
      rintro e w2 ⟨v2, rfl, ho2, hb2⟩
      have B2 : Below w.heap.size w w2 := B1.trans (hb2.mono B1.size)
      have O2 := Lib.hid ho2.inn
      clear ho2 hb2
      go_wp2_with fail
      refine (specSubMasks_any n m w2).mono ?_
      rw [HS.out]
      rintro e w3 ⟨v3, rfl, ho3, hb3⟩
      have B3 : Below w.heap.size w w3 := B2.trans (hb3.mono B2.size)
      have O23 := Lib.hid (O2.out.below hb3 O2.out.2.1)
      have O3 := Lib.hid ho3.inn
      clear ho3 hb3 O2
      go_wp2_with fail
      refine (like_own _ _ _ _ _ _ _ _ hyl O23.out O3.out).mono ?_
      rintro e w4 ⟨rfl, q4, rfl⟩
      have B4 : Below w.heap.size w (w3.drewN q4) := below_drewN B3 q4
      clear O23 O3
      generalize w3.drewN q4 = W4 at B4 ⊢
      go_wp2_with fail
      refine (implMembersOf_any n m W4).mono ?_
      rw [← HC2.out]
      rintro e w5 ⟨v5, rfl, ho5, hb5⟩
      have B5 : Below w.heap.size w w5 := B4.trans (hb5.mono B4.size)
      clear ho5 hb5
      go_wp2_with fail
      refine (implCountMembers_any n m w5).mono ?_
      rw [← HC2.out]
      rintro e w6 ⟨rfl, rfl⟩
      go_wp2
      go_ret
      exact ⟨rfl, B5⟩

end Go.Proofs.Ytckkkleegohkfaa
