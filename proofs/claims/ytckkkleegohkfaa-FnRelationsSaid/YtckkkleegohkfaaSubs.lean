/- Contracts of SubMasks. Conditions: those in the theorems. -/
import Derived.Test.YtckkkleegohkfaaSubsMath
import Derived.Test.YtckkkleegohkfaaTrans
namespace Go.Proofs.Ytckkkleegohkfaa
open Go.RowKit

/-- What the program reckons of a submask s of m to come to the next one. -/
def nxE (s m : Int) : Int := bits .and .i64 (wrap64 (bits .or .i64 s (bits .xor .i64 (if IntKind.i64.signed = true then -1 else 9223372036854775807) m) + 1)) m

theorem wrap64_toInt (x : BitVec 64) : wrap64 (x.toInt + 1) = (x + 1#64).toInt := by
  have h := x.isLt
  rw [BitVec.toInt_add]
  unfold wrap64
  have e : (1#64).toInt = 1 := by decide
  rw [e, Int.bmod_def]
  simp only [Nat.reducePow]
  split <;> omega
theorem nxE_nat (s m : Nat) (hm : m < 1073741824) (hsm : s < m) (hs : s &&& m = s) : nxE s m = (((2 ^ 64 - (m - s)) &&& m : Nat) : Int) := by
  have e1 : bits .xor .i64 (if IntKind.i64.signed = true then -1 else 9223372036854775807) m = (~~~ (BitVec.ofNat 64 m)).toInt := by
    have : bits .xor .i64 (-1) m = (BitVec.ofInt 64 (-1) ^^^ BitVec.ofInt 64 m).toInt := wrap_toInt _
    rw [show (if IntKind.i64.signed = true then (-1 : Int) else 9223372036854775807) = -1 from rfl, this]
    rw [BitVec.ofInt_natCast, show BitVec.ofInt 64 (-1) = BitVec.allOnes 64 by decide, BitVec.allOnes_xor]
  have e2 : ∀ x : BitVec 64, bits .or .i64 s x.toInt = (BitVec.ofNat 64 s ||| x).toInt := fun x => by
    have : bits .or .i64 s x.toInt = (BitVec.ofInt 64 s ||| BitVec.ofInt 64 x.toInt).toInt := wrap_toInt _
    rw [this, BitVec.ofInt_natCast, BitVec.ofInt_toInt]
  have e3 : ∀ x : BitVec 64, bits .and .i64 x.toInt m = (x &&& BitVec.ofNat 64 m).toInt := fun x => by
    have : bits .and .i64 x.toInt m = (BitVec.ofInt 64 x.toInt &&& BitVec.ofInt 64 m).toInt := wrap_toInt _
    rw [this, BitVec.ofInt_natCast, BitVec.ofInt_toInt]
  unfold nxE
  rw [e1, e2, wrap64_toInt, e3]
  have hd : BitVec.ofNat 64 s &&& ~~~ BitVec.ofNat 64 m = 0#64 := by
    refine BitVec.eq_of_getLsbD_eq fun i hi => ?_
    have hb := congrArg (fun v : Nat => v.testBit i) hs
    simp only [Nat.testBit_and] at hb
    simp only [BitVec.getLsbD_and, BitVec.getLsbD_not, hi, decide_true, Bool.true_and, BitVec.getLsbD_ofNat]
    revert hb
    cases s.testBit i <;> cases m.testBit i <;> simp
  have e4 : (BitVec.ofNat 64 s ||| ~~~ BitVec.ofNat 64 m) + 1#64 = BitVec.ofNat 64 s - BitVec.ofNat 64 m := by
    rw [← BitVec.add_eq_or_of_and_eq_zero _ _ hd, BitVec.add_assoc, ← BitVec.neg_eq_not_add, BitVec.sub_eq_add_neg]
  rw [e4]
  have e5 : (BitVec.ofNat 64 s - BitVec.ofNat 64 m &&& BitVec.ofNat 64 m).toNat = (2 ^ 64 - (m - s)) &&& m := by
    rw [BitVec.toNat_and, BitVec.toNat_sub, BitVec.toNat_ofNat, BitVec.toNat_ofNat, Nat.mod_eq_of_lt (a := s) (by omega), Nat.mod_eq_of_lt (a := m) (by omega), Nat.mod_eq_of_lt (by omega)]
    congr 1
    omega
  have hle : (2 ^ 64 - (m - s)) &&& m ≤ m := Nat.and_le_right
  rw [BitVec.toInt_eq_toNat_of_lt (by rw [e5]; omega), e5]

def pdF (m i : Nat) : Int := ((pd 64 i m : Nat) : Int)
theorem nxE_pd (m i : Nat) (hm : m < 1073741824) (hne : pd 64 i m ≠ m) : nxE (pd 64 i m : Nat) m = ((pd 64 (i + 1) m : Nat) : Int) := by
  have hle := pd_le 64 i m
  rw [nxE_nat _ _ hm (by omega) (pd_and 64 i m), pd_next 64 i m (by omega)]

def lenOf : Value → Nat
  | .slice _ n _ => n
  | _ => 0
theorem own_lenOf {w : World} {B : Nat} {v : Value} {n : Nat} {zs : List Value} (h : w.ownsRow B 2 1 v n zs) : lenOf v = n := by
  rcases h.2 with ⟨h1, h2⟩ | ⟨g, cap, cur, h1, _⟩
  · rw [h1, h2]; rfl
  · rw [h1]; rfl
theorem tab_succ (n : Nat) (F : Nat → Int) : tab (n + 1) F = tab n F ++ [F n] := by simp [tab, List.range_succ]

def smC (n m : Int) : Int := if cod n m = 0 then (if 8 < pop m.toNat then 3 else 0) else cod n m
def smL (m : Int) : List Int := tab (2 ^ pop m.toNat) (pdF m.toNat)
theorem smC_ok {n : Int} {k : Nat} (h : cod n k = 0) (hp : pop k ≤ 8) : smC n k = 0 := by
  rw [smC, if_pos h, if_neg]; simpa using hp
theorem smC_big {n : Int} {k : Nat} (h : cod n k = 0) (hp : 8 < pop k) : smC n k = 3 := by
  rw [smC, if_pos h, if_pos]; simpa using hp
theorem smC_bad {n m : Int} (h : ¬ cod n m = 0) : smC n m = cod n m := by rw [smC, if_neg h]
theorem smC_ne {n m : Int} (h : ¬ cod n m = 0) : ¬ smC n m = 0 := by rw [smC_bad h]; exact h

set_option maxHeartbeats 1000000 in
theorem implSubMasks_any (n m : Int) (w : World) :
    Calls Try.prog 19 #[.int .i64 n, .int .i64 m] w fun e w' => ∃ v, e = .returned (.tuple #[v, .int .i64 (smC n m)]) ∧ Own w' w.heap.size v (outL (smC n m) (smL m)) ∧ Below w.heap.size w w' := by
  by_cases h0 : cod n m = 0
  · have hz := cod_zero h0
    obtain ⟨k, rfl⟩ := Int.eq_ofNat_of_zero_le hz.2.2.1
    have hk : k < 1073741824 := by have := hz.2.2.2.2; omega
    clear hz
    obtain ⟨p, hpp⟩ : ∃ p, p = pop k := ⟨_, rfl⟩
    have HPP := Lib.hid hpp
    have H0 := Lib.hid h0
    clear hpp h0
    by_cases hp8 : p ≤ 8
    · obtain ⟨i0, hi, hz0, hz1, hz2⟩ := info_parts info64
      obtain ⟨N, hN⟩ : ∃ N : Nat, N = 2 ^ p := ⟨_, rfl⟩
      have hN8 : N ≤ 256 := by rw [hN]; exact Nat.pow_le_pow_right (by decide) hp8
      have hNp : 0 < N := by rw [hN]; exact Nat.two_pow_pos _
      have hpow : (2 : Int) ^ p = (N : Int) := by rw [hN]; simp
      have HN := Lib.hid hN
      clear hN
      go_enter Try.func19, Try.ntmps19
      go_wp2_with (first | (go_at_call 53; refine (checkMask_any _ _ _).mono ?_; rw [H0.out]; rintro e w' ⟨rfl, rfl⟩) | (go_at_call 54; refine (countBits_any _ hk _).mono ?_; rw [← HPP.out]; rintro e w' ⟨rfl, rfl⟩) | (at_make; refine wpList_make_own _ rfl _ _ 26 rfl w.heap.size 2 i0 (.int .i64 0) 1 Try.underlying26 hi hz0 hz1 _ _ _ N rfl rfl rfl ?b2 ?b3 (Nat.le_refl _) ?_))
      case b2 => rw [hz2]; omega
      case b3 => unfold maxLen; omega
      intro w0 hown0 hgrow0
      have HO0 := Lib.hid hown0
      clear hown0 hi hz0 hz1 hz2 hpow
      go_wp2
      go_loopw [8, 9] (fun v i wr => ∃ t z : Nat, t < N ∧ z = pd 64 t k ∧ i = .int .i64 z ∧ wr.ownsRow w.heap.size 2 1 v t ((tab t (pdF k)).map (Value.int .i64)) ∧ Below w.heap.size w wr) (fun v _ _ => N - lenOf v)
      case atStart => exact ⟨0, 0, hNp, (pd_zero 64 k).symm, rfl, HO0.out, (Below.refl _ _).grown hgrow0 (Nat.le_refl _) (fun k h => by cases h)⟩
      case round =>
        obtain ⟨t, z, ht, hz, rfl, hown, hbel⟩ := hrel
        clear hgrow0
        have HZ := Lib.hid hz
        have HO := Lib.hid hown
        have hlv := own_lenOf hown
        have HLV := Lib.hid hlv
        have hzk : z ≤ k := by rw [hz]; exact pd_le 64 t k
        clear hz hown hlv
        by_cases hlast : z = k
        · have hb : ((z : Int) == (k : Int)) = true := by simp; omega
          have HL := Lib.hid hlast
          clear hlast
          go_wp2_with (first | (at_builtin; refine list_app1 rfl _ _ rfl w.heap.size _ _ _ rfl (HO.out.alloc _) ⟨wr.heap.size, 0, none⟩ 1 _ rfl (World.cell?_alloc_at _ _ _ _ rfl) (by omega) (by have := hbel.size; simp; omega) ?_; intro v' w1 hown1 hgr1; have HO1 := Lib.hid hown1; clear hown1))
          go_ret2
          have hN1 : t + 1 = N := by
            have h1 := (pd_last 64 t k (by omega) (by rw [← HPP.out, ← HN.out]; exact ht)).1 (by rw [← HZ.out]; exact HL.out)
            rw [h1, ← HPP.out, ← HN.out]
          have hc := smC_ok H0.out (by rw [← HPP.out]; exact hp8)
          refine ⟨_, out_ok hc, Own.ok hc ?_, below_app hbel ((Below.refl _ _).alloc hbel.size _) hbel.size HO.out hgr1⟩
          have ho := HO1.out
          unfold Own smL
          rw [Int.toNat_natCast, ← HPP.out, ← HN.out, tab_len, ← hN1, tab_succ, List.map_append]
          rw [HZ.out] at ho
          exact ho
        · have hb : ((z : Int) == (k : Int)) = false := by simp; omega
          have HL := Lib.hid hlast
          clear hlast
          go_wp2_with (first | (at_builtin; refine list_app1 rfl _ _ rfl w.heap.size _ _ _ rfl (HO.out.alloc _) ⟨wr.heap.size, 0, none⟩ 1 _ rfl (World.cell?_alloc_at _ _ _ _ rfl) (by omega) (by have := hbel.size; simp; omega) ?_; intro v' w1 hown1 hgr1; have hl1 := own_lenOf hown1; have HL1 := Lib.hid hl1; have HO1 := Lib.hid hown1; clear hown1 hl1))
          have hnl : t + 1 < N := by
            have h1 := pd_last 64 t k (by omega) (by rw [← HPP.out, ← HN.out]; exact ht)
            have h2 : ¬ t + 1 = 2 ^ pop k := fun e => HL.out (by rw [HZ.out]; exact h1.2 e)
            rw [← HPP.out, ← HN.out] at h2
            omega
          have hnx := nxE_pd k t hk (by rw [← HZ.out]; exact HL.out)
          rw [← HZ.out] at hnx
          go_roundw
          case rel => exact ⟨t + 1, pd 64 (t + 1) k, hnl, rfl, congrArg (Value.int .i64) hnx, (by have ho := HO1.out; rw [HZ.out] at ho; rw [tab_succ, List.map_append]; exact ho), below_app hbel ((Below.refl _ _).alloc hbel.size _) hbel.size HO.out hgr1⟩
          case measure => rw [HLV.out, HL1.out]; omega
    · have hp9 : 8 < p := by omega
      go_enter Try.func19, Try.ntmps19
      go_wp2_with (first | (go_at_call 53; refine (checkMask_any _ _ _).mono ?_; rw [H0.out]; rintro e w' ⟨rfl, rfl⟩) | (go_at_call 54; refine (countBits_any _ hk _).mono ?_; rw [← HPP.out]; rintro e w' ⟨rfl, rfl⟩))
      go_ret2
      have hc := smC_big H0.out (by rw [← HPP.out]; exact hp9)
      exact ⟨_, by rw [hc]; rfl, Own.nil (by rw [hc]; decide), Below.refl _ _⟩
  · have H0 := Lib.hid h0
    clear h0
    obtain ⟨c, hc⟩ : ∃ c, c = cod n m := ⟨_, rfl⟩
    have hcn : (c == 0) = false := by rw [hc]; simpa using H0.out
    have hcn2 : (c != 0) = true := by rw [hc]; simpa using H0.out
    have HC := Lib.hid hc
    clear hc
    go_enter Try.func19, Try.ntmps19
    go_wp2_with (first | (go_at_call 53; refine (checkMask_any _ _ _).mono ?_; rw [← HC.out]; rintro e w' ⟨rfl, rfl⟩))
    go_ret2
    exact ⟨_, by rw [smC_bad H0.out, ← HC.out]; rfl, Own.nil (smC_ne H0.out), Below.refl _ _⟩

end Go.Proofs.Ytckkkleegohkfaa
