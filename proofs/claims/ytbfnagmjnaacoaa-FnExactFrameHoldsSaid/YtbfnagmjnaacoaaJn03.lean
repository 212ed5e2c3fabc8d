/- 2 texts in one: Mem, Memb. -/
import Derived.Test.YtbfnagmjnaacoaaPop
import Derived.Test.YtbfnagmjnaacoaaJn02
/- Contracts of the functions of chapter 1 behind CountMembers and MembersOf, and the walk of CountMembers' law. Conditions: those in the theorems. -/
namespace Go.Proofs.Ytbfnagmjnaacoaa
open Go.RowKit

theorem cod_zero {n m : Int} (h : cod n m = 0) : 0 ≤ n ∧ n ≤ 30 ∧ 0 ≤ m ∧ m < 2 ^ n.toNat ∧ m < 1073741824 := by
  unfold cod at h
  cases h1 : inB n 0 30 <;> simp [h1] at h
  cases h2 : mskB n m
  · simp [h2] at h
  · have hb : 0 ≤ n ∧ n ≤ 30 := by simpa [inB] using h1
    rw [mskB, inB, full_eq n hb.1 hb.2] at h2
    have hp := pow_bd n hb.1 hb.2
    simp at h2
    exact ⟨hb.1, hb.2, h2.1, by omega, by omega⟩

def cntV (n m : Int) : Int := if cod n m = 0 then ((pop m.toNat : Nat) : Int) else 0
theorem cnt_ok {n m : Int} {k : Nat} (h : cod n m = 0) (hk : m = k) : Ending.returned (.tuple #[.int .i64 (pop k), .int .i64 0]) = .returned (.tuple #[.int .i64 (cntV n m), .int .i64 (cod n m)]) := by
  subst hk; rw [cntV, if_pos h, h]; rfl
theorem cnt_bad {n m c : Int} (h : ¬ cod n m = 0) (hc : c = cod n m) : Ending.returned (.tuple #[.int .i64 0, .int .i64 c]) = .returned (.tuple #[.int .i64 (cntV n m), .int .i64 (cod n m)]) := by rw [cntV, if_neg h, hc]

/-! Members -/
def bitN (m i : Nat) : Bool := decide (m / 2 ^ i % 2 = 1)
theorem bitB_nat (m i : Nat) (hm : m < 1073741824) : bitB m i = bitN m i := by
  have hd : m / 2 ^ i ≤ m := Nat.div_le_self _ _
  have e1 : ((m : Int) / 2 ^ ((i : Nat) : Int).toNat) = ((m / 2 ^ i : Nat) : Int) := by
    rw [Int.toNat_natCast]; simp
  unfold bitB bitN
  rw [e1, show bits .and .i64 ((m / 2 ^ i : Nat) : Int) 1 = bits .and .i64 ((m / 2 ^ i : Nat) : Int) ((1 : Nat) : Int) from rfl, iand _ _ (by omega) (by decide), Nat.and_one_is_mod]
  generalize m / 2 ^ i = q
  rw [Bool.eq_iff_iff]
  simp only [beq_iff_eq, decide_eq_true_eq]
  omega
def memTo (m : Nat) : Nat → List Int
  | 0 => []
  | k + 1 => if bitN m k then memTo m k ++ [((k : Nat) : Int)] else memTo m k
theorem memTo_len (m k : Nat) : (memTo m k).length ≤ k := by
  induction k with
  | zero => simp [memTo]
  | succ k ih =>
    rw [memTo]
    split
    · simp; omega
    · omega
theorem bitN_high {m i k : Nat} (h : m < 2 ^ i) (hk : i ≤ k) : bitN m k = false := by
  have : 2 ^ i ≤ 2 ^ k := Nat.pow_le_pow_right (by decide) hk
  unfold bitN
  rw [Nat.div_eq_of_lt (by omega)]
  rfl
theorem memTo_high {m i : Nat} (h : m < 2 ^ i) (k : Nat) (hk : i ≤ k) : memTo m k = memTo m i := by
  induction k with
  | zero => have : i = 0 := by omega
            subst this; rfl
  | succ k ih =>
    by_cases e : i = k + 1
    · rw [e]
    · rw [memTo, bitN_high h (by omega), ih (by omega)]; rfl

end Go.Proofs.Ytbfnagmjnaacoaa

/- Contracts of MembersOf. Conditions: those in the theorems. -/
namespace Go.Proofs.Ytbfnagmjnaacoaa
open Go.RowKit

theorem cod_pow {n m : Int} {k : Nat} (h : cod n m = 0) (hk : m = k) : k < 2 ^ n.toNat := by
  have hz := (cod_zero h).2.2.2.1
  subst hk
  exact_mod_cast hz
def membL (n m : Int) : List Int := outL (cod n m) (memTo m.toNat n.toNat)
theorem membL_len (n m : Int) : (membL n m).length ≤ 1048576 := by
  unfold membL outL
  split
  · rename_i h
    have h1 := cod_zero h
    have h2 := memTo_len m.toNat n.toNat
    omega
  · simp

end Go.Proofs.Ytbfnagmjnaacoaa
