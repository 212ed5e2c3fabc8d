/- The submasks of a mask in ascending order: the i-th one, its neighbours, and how they double. Plain mathematics. -/
import Derived.Test.YtecjmibnoldpgabJn05
namespace Go.Proofs.Ytecjmibnoldpgab
open Go.RowKit

/-- The i-th submask of m (its lowest w digits). -/
def pd : Nat → Nat → Nat → Nat
  | 0, _, _ => 0
  | w + 1, i, m => if m % 2 = 0 then 2 * pd w i (m / 2) else 2 * pd w (i / 2) (m / 2) + i % 2
theorem pd_le (w i m : Nat) : pd w i m ≤ m := by
  induction w generalizing i m with
  | zero => simp [pd]
  | succ w ih =>
    rw [pd]
    split
    · have := ih i (m / 2); omega
    · have := ih (i / 2) (m / 2); omega
theorem pd_zero (w m : Nat) : pd w 0 m = 0 := by
  induction w generalizing m with
  | zero => rfl
  | succ w ih => rw [pd]; simp [ih]

theorem and2 (a b x y : Nat) (hx : x < 2) (hy : y < 2) : (2 * a + x) &&& (2 * b + y) = 2 * (a &&& b) + (x &&& y) := by
  have hxy : x &&& y < 2 ^ 1 := Nat.and_lt_two_pow _ hy
  have e : ∀ u v, 2 * u + v = 2 ^ 1 * u + v := fun u v => by omega
  rw [e a x, e b y, e (a &&& b) (x &&& y)]
  apply Nat.eq_of_testBit_eq
  intro i
  rw [Nat.testBit_and, Nat.testBit_two_pow_mul_add _ hx, Nat.testBit_two_pow_mul_add _ hy, Nat.testBit_two_pow_mul_add _ hxy]
  by_cases h : i < 1 <;> simp [h]
theorem or2 (a b x y : Nat) (hx : x < 2) (hy : y < 2) : (2 * a + x) ||| (2 * b + y) = 2 * (a ||| b) + (x ||| y) := by
  have hxy : x ||| y < 2 ^ 1 := Nat.or_lt_two_pow hx hy
  have e : ∀ u v, 2 * u + v = 2 ^ 1 * u + v := fun u v => by omega
  rw [e a x, e b y, e (a ||| b) (x ||| y)]
  apply Nat.eq_of_testBit_eq
  intro i
  rw [Nat.testBit_or, Nat.testBit_two_pow_mul_add _ hx, Nat.testBit_two_pow_mul_add _ hy, Nat.testBit_two_pow_mul_add _ hxy]
  by_cases h : i < 1 <;> simp [h]

theorem pd_and (w i m : Nat) : pd w i m &&& m = pd w i m := by
  induction w generalizing i m with
  | zero => simp [pd]
  | succ w ih =>
    rw [pd]
    split
    · rename_i h
      have e : m = 2 * (m / 2) + 0 := by omega
      have := and2 (pd w i (m / 2)) (m / 2) 0 0 (by decide) (by decide)
      rw [← e, ih] at this
      simpa using this
    · rename_i h
      have e : m = 2 * (m / 2) + 1 := by omega
      have := and2 (pd w (i / 2) (m / 2)) (m / 2) (i % 2) 1 (by omega) (by decide)
      rw [← e, ih, Nat.and_one_is_mod] at this
      rw [this]
      omega

theorem pd_same (w i m : Nat) (hm : m < 2 ^ w) : (2 ^ w - 1 - (m - pd w i m)) &&& m = pd w i m := by
  induction w generalizing i m with
  | zero => simp [pd]
  | succ w ih =>
    have e2 : (2 : Nat) ^ (w + 1) = 2 ^ w * 2 := Nat.pow_succ ..
    rw [e2] at hm
    by_cases h : m % 2 = 0
    · have hp : pd (w + 1) i m = 2 * pd w i (m / 2) := by rw [pd, if_pos h]
      have hl := pd_le w i (m / 2)
      have e : m = 2 * (m / 2) + 0 := by omega
      have e3 : 2 ^ (w + 1) - 1 - (m - pd (w + 1) i m) = 2 * (2 ^ w - 1 - (m / 2 - pd w i (m / 2))) + 1 := by rw [hp, e2]; omega
      have a := and2 (2 ^ w - 1 - (m / 2 - pd w i (m / 2))) (m / 2) 1 0 (by decide) (by decide)
      rw [← e, ← e3, ih i (m / 2) (by omega)] at a
      rw [a, hp]; rfl
    · have hp : pd (w + 1) i m = 2 * pd w (i / 2) (m / 2) + i % 2 := by rw [pd, if_neg h]
      have hl := pd_le w (i / 2) (m / 2)
      have e : m = 2 * (m / 2) + 1 := by omega
      have e3 : 2 ^ (w + 1) - 1 - (m - pd (w + 1) i m) = 2 * (2 ^ w - 1 - (m / 2 - pd w (i / 2) (m / 2))) + i % 2 := by rw [hp, e2]; omega
      have a := and2 (2 ^ w - 1 - (m / 2 - pd w (i / 2) (m / 2))) (m / 2) (i % 2) 1 (by omega) (by decide)
      rw [← e, ← e3, ih (i / 2) (m / 2) (by omega), Nat.and_one_is_mod] at a
      rw [a, hp]; omega
theorem pd_next (w i m : Nat) (hm : m < 2 ^ w) : (2 ^ w - (m - pd w i m)) &&& m = pd w (i + 1) m := by
  induction w generalizing i m with
  | zero => have : m = 0 := by simpa using hm
            subst this; simp [pd]
  | succ w ih =>
    have e2 : (2 : Nat) ^ (w + 1) = 2 ^ w * 2 := Nat.pow_succ ..
    rw [e2] at hm
    by_cases h : m % 2 = 0
    · have hp : ∀ j, pd (w + 1) j m = 2 * pd w j (m / 2) := fun j => by rw [pd, if_pos h]
      have hl := pd_le w i (m / 2)
      have e : m = 2 * (m / 2) + 0 := by omega
      have e3 : 2 ^ (w + 1) - (m - pd (w + 1) i m) = 2 * (2 ^ w - (m / 2 - pd w i (m / 2))) + 0 := by rw [hp, e2]; omega
      have a := and2 (2 ^ w - (m / 2 - pd w i (m / 2))) (m / 2) 0 0 (by decide) (by decide)
      rw [← e, ← e3, ih i (m / 2) (by omega)] at a
      rw [a, hp]; rfl
    · have hp : ∀ j, pd (w + 1) j m = 2 * pd w (j / 2) (m / 2) + j % 2 := fun j => by rw [pd, if_neg h]
      have hl := pd_le w (i / 2) (m / 2)
      have e : m = 2 * (m / 2) + 1 := by omega
      by_cases hi : i % 2 = 0
      · have e3 : 2 ^ (w + 1) - (m - pd (w + 1) i m) = 2 * (2 ^ w - 1 - (m / 2 - pd w (i / 2) (m / 2))) + 1 := by rw [hp, e2]; omega
        have a := and2 (2 ^ w - 1 - (m / 2 - pd w (i / 2) (m / 2))) (m / 2) 1 1 (by decide) (by decide)
        rw [← e, ← e3, pd_same w (i / 2) (m / 2) (by omega)] at a
        rw [a, hp, show (i + 1) / 2 = i / 2 by omega, show (i + 1) % 2 = 1 by omega]; rfl
      · have e3 : 2 ^ (w + 1) - (m - pd (w + 1) i m) = 2 * (2 ^ w - (m / 2 - pd w (i / 2) (m / 2))) + 0 := by rw [hp, e2]; omega
        have a := and2 (2 ^ w - (m / 2 - pd w (i / 2) (m / 2))) (m / 2) 0 1 (by decide) (by decide)
        rw [← e, ← e3, ih (i / 2) (m / 2) (by omega)] at a
        rw [a, hp, show (i + 1) / 2 = i / 2 + 1 by omega, show (i + 1) % 2 = 0 by omega]; rfl
theorem pd_last (w i m : Nat) (hm : m < 2 ^ w) (hi : i < 2 ^ pop m) : pd w i m = m ↔ i + 1 = 2 ^ pop m := by
  induction w generalizing i m with
  | zero => have : m = 0 := by simpa using hm
            subst this; rw [pop_zero] at hi ⊢; simp [pd]; omega
  | succ w ih =>
    have e2 : (2 : Nat) ^ (w + 1) = 2 ^ w * 2 := Nat.pow_succ ..
    rw [e2] at hm
    have hps := pop_step m
    by_cases h : m % 2 = 0
    · have hp : pd (w + 1) i m = 2 * pd w i (m / 2) := by rw [pd, if_pos h]
      have e : pop m = pop (m / 2) := by omega
      rw [e] at hi ⊢
      have := ih i (m / 2) (by omega) hi
      rw [hp, ← this]
      omega
    · have hp : pd (w + 1) i m = 2 * pd w (i / 2) (m / 2) + i % 2 := by rw [pd, if_neg h]
      have e : pop m = pop (m / 2) + 1 := by omega
      rw [e, Nat.pow_succ] at hi ⊢
      have := ih (i / 2) (m / 2) (by omega) (by omega)
      have hl := pd_le w (i / 2) (m / 2)
      rw [hp]
      constructor
      · intro he
        have h1 : pd w (i / 2) (m / 2) = m / 2 := by omega
        have h2 := this.1 h1
        omega
      · intro he
        have h1 := this.2 (by omega)
        omega

/-- The j-th member of m. -/
def mb : Nat → Nat → Nat → Nat
  | 0, _, _ => 0
  | w + 1, 0, m => if m % 2 = 0 then mb w 0 (m / 2) + 1 else 0
  | w + 1, j + 1, m => if m % 2 = 0 then mb w (j + 1) (m / 2) + 1 else mb w j (m / 2) + 1
theorem mb_even {w j m : Nat} (h : m % 2 = 0) : mb (w + 1) j m = mb w j (m / 2) + 1 := by cases j <;> rw [mb, if_pos h]
theorem mb_odd0 {w m : Nat} (h : ¬ m % 2 = 0) : mb (w + 1) 0 m = 0 := by rw [mb, if_neg h]
theorem mb_oddS {w j m : Nat} (h : ¬ m % 2 = 0) : mb (w + 1) (j + 1) m = mb w j (m / 2) + 1 := by rw [mb, if_neg h]
theorem pd_double (w j k m : Nat) (hm : m < 2 ^ w) (hj : j < pop m) (hk : k < 2 ^ j) : pd w (2 ^ j + k) m = pd w k m ||| 2 ^ mb w j m := by
  induction w generalizing j k m with
  | zero => have : m = 0 := by simpa using hm
            subst this; rw [pop_zero] at hj; omega
  | succ w ih =>
    have e2 : (2 : Nat) ^ (w + 1) = 2 ^ w * 2 := Nat.pow_succ ..
    rw [e2] at hm
    have hps := pop_step m
    by_cases h : m % 2 = 0
    · have hp : ∀ i, pd (w + 1) i m = 2 * pd w i (m / 2) := fun i => by rw [pd, if_pos h]
      have hb : mb (w + 1) j m = mb w j (m / 2) + 1 := mb_even h
      rw [hp, hp, hb, ih j k (m / 2) (by omega) (by omega) hk, Nat.pow_succ]
      have := or2 (pd w k (m / 2)) (2 ^ mb w j (m / 2)) 0 0 (by decide) (by decide)
      simp only [Nat.add_zero, Nat.or_zero] at this
      rw [Nat.mul_comm (2 ^ mb w j (m / 2)) 2, this]
    · have hp : ∀ i, pd (w + 1) i m = 2 * pd w (i / 2) (m / 2) + i % 2 := fun i => by rw [pd, if_neg h]
      cases j with
      | zero =>
        have hk0 : k = 0 := by simpa using hk
        subst hk0
        have hb : mb (w + 1) 0 m = 0 := mb_odd0 h
        rw [hp, hp, hb]
        simp [pd_zero]
      | succ j =>
        have hb : mb (w + 1) (j + 1) m = mb w j (m / 2) + 1 := mb_oddS h
        rw [Nat.pow_succ] at hk
        rw [hp, hp, hb, Nat.pow_succ, show (2 ^ j * 2 + k) / 2 = 2 ^ j + k / 2 by omega, show (2 ^ j * 2 + k) % 2 = k % 2 by omega, ih j (k / 2) (m / 2) (by omega) (by omega) (by omega), Nat.pow_succ]
        have := or2 (pd w (k / 2) (m / 2)) (2 ^ mb w j (m / 2)) (k % 2) 0 (by omega) (by decide)
        simp only [Nat.add_zero, Nat.or_zero] at this
        rw [Nat.mul_comm (2 ^ mb w j (m / 2)) 2, this]

theorem bitN_half (m w : Nat) : bitN m (w + 1) = bitN (m / 2) w := by
  unfold bitN; rw [Nat.div_div_eq_div_mul, Nat.pow_succ, Nat.mul_comm 2]
theorem memTo_half (m w : Nat) : memTo m (w + 1) = (if m % 2 = 0 then [] else [0]) ++ (memTo (m / 2) w).map (· + 1) := by
  induction w with
  | zero =>
    have : bitN m 0 = decide (m % 2 = 1) := by simp [bitN]
    show (if bitN m 0 then memTo m 0 ++ [((0 : Nat) : Int)] else memTo m 0) = _
    rw [this]
    by_cases h : m % 2 = 0
    · simp [memTo, h]
    · simp [memTo, show m % 2 = 1 by omega]
  | succ w ih =>
    rw [memTo, bitN_half, ih, memTo]
    cases bitN (m / 2) w <;> simp
theorem memTo_pop (w m : Nat) (hm : m < 2 ^ w) : (memTo m w).length = pop m := by
  induction w generalizing m with
  | zero => have : m = 0 := by simpa using hm
            subst this; rw [pop_zero]; rfl
  | succ w ih =>
    rw [memTo_half, List.length_append, List.length_map, ih (m / 2) (by rw [Nat.pow_succ] at hm; omega), pop_step m]
    by_cases h : m % 2 = 0
    · simp [h]
    · simp [show m % 2 = 1 by omega]
theorem memTo_nth (w j m : Nat) (hm : m < 2 ^ w) (hj : j < pop m) : nth (memTo m w) j = ((mb w j m : Nat) : Int) := by
  induction w generalizing j m with
  | zero => have : m = 0 := by simpa using hm
            subst this; rw [pop_zero] at hj; omega
  | succ w ih =>
    have hps := pop_step m
    have hm2 : m / 2 < 2 ^ w := by rw [Nat.pow_succ] at hm; omega
    have hl := memTo_pop w (m / 2) hm2
    have hmap : ∀ j, j < pop (m / 2) → nth ((memTo (m / 2) w).map (· + 1)) j = nth (memTo (m / 2) w) j + 1 := fun j h => by
      unfold nth; simp [List.getD, show j < (memTo (m / 2) w).length by omega]
    rw [memTo_half]
    by_cases h : m % 2 = 0
    · rw [mb_even h, if_pos h, List.nil_append, hmap j (by omega), ih j (m / 2) hm2 (by omega)]; rfl
    · rw [if_neg h]
      cases j with
      | zero => rw [mb_odd0 h]; rfl
      | succ j =>
        have hb : mb (w + 1) (j + 1) m = mb w j (m / 2) + 1 := mb_oddS h
        have e : nth ([0] ++ (memTo (m / 2) w).map (· + 1)) (j + 1) = nth ((memTo (m / 2) w).map (· + 1)) j := rfl
        rw [hb, e, hmap j (by omega), ih j (m / 2) hm2 (by omega)]; rfl
theorem mb_lt (w j m : Nat) (hm : m < 2 ^ w) (hj : j < pop m) : mb w j m < w := by
  induction w generalizing j m with
  | zero => have : m = 0 := by simpa using hm
            subst this; rw [pop_zero] at hj; omega
  | succ w ih =>
    have hps := pop_step m
    have hm2 : m / 2 < 2 ^ w := by rw [Nat.pow_succ] at hm; omega
    by_cases h : m % 2 = 0
    · rw [mb_even h]; have := ih j (m / 2) hm2 (by omega); omega
    · cases j with
      | zero => rw [mb_odd0 h]; omega
      | succ j =>
        have hb : mb (w + 1) (j + 1) m = mb w j (m / 2) + 1 := mb_oddS h
        rw [hb]; have := ih j (m / 2) hm2 (by omega); omega

end Go.Proofs.Ytecjmibnoldpgab
