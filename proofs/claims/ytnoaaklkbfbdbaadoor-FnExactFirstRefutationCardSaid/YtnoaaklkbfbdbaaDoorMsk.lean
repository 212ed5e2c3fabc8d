/- Facts of masks: and, and not. Conditions: those in the theorems. -/
import Derived.Test.YtnoaaklkbfbdbaaDoorJn06
namespace Go.Proofs.YtnoaaklkbfbdbaaDoor
open Go.RowKit

theorem inot (a b : Nat) (ha : a < 1073741824) : bits .andNot .i64 (a : Int) (b : Int) = (((BitVec.ofNat 64 a &&& ~~~ BitVec.ofNat 64 b).toNat : Nat) : Int) := by
  have e1 : bits .andNot .i64 (a : Int) (b : Int) = (BitVec.ofInt 64 (a : Int) &&& ~~~ (BitVec.ofInt 64 (b : Int))).toInt := wrap_toInt _
  rw [e1, BitVec.ofInt_natCast, BitVec.ofInt_natCast, BitVec.toInt_eq_toNat_of_lt]
  rw [BitVec.toNat_and]
  have h1 := Nat.and_le_left (n := (BitVec.ofNat 64 a).toNat) (m := (~~~ BitVec.ofNat 64 b).toNat)
  have h2 : (BitVec.ofNat 64 a).toNat ≤ a := by rw [BitVec.toNat_ofNat]; exact Nat.mod_le _ _
  omega
theorem inot_le (a b : Nat) : (BitVec.ofNat 64 a &&& ~~~ BitVec.ofNat 64 b).toNat ≤ a := by
  rw [BitVec.toNat_and]
  have h1 := Nat.and_le_left (n := (BitVec.ofNat 64 a).toNat) (m := (~~~ BitVec.ofNat 64 b).toNat)
  have h2 : (BitVec.ofNat 64 a).toNat ≤ a := by rw [BitVec.toNat_ofNat]; exact Nat.mod_le _ _
  omega
theorem inot_bit (a b : Nat) (ha : a < 1073741824) (i : Nat) : (BitVec.ofNat 64 a &&& ~~~ BitVec.ofNat 64 b).toNat.testBit i = (a.testBit i && !b.testBit i) := by
  rw [show (BitVec.ofNat 64 a &&& ~~~ BitVec.ofNat 64 b).toNat.testBit i = (BitVec.ofNat 64 a &&& ~~~ BitVec.ofNat 64 b).getLsbD i from rfl, BitVec.getLsbD_and, BitVec.getLsbD_not, BitVec.getLsbD_ofNat, BitVec.getLsbD_ofNat]
  by_cases h : i < 64
  · simp [h]
  · have : a.testBit i = false := Nat.testBit_lt_two_pow (Nat.lt_of_lt_of_le ha (Nat.le_trans (show 1073741824 ≤ 2 ^ 64 by decide) (Nat.pow_le_pow_right (by decide) (by omega))))
    simp [h, this]
theorem T_not {n : Nat} (hn : n ≤ 30) {x y : Int} (hx : InMk n x) (hy : InMk n y) (i : Nat) : T (bits .andNot .i64 x y) i = (T x i && !T y i) := by
  have h1 := hx.bd hn
  obtain ⟨a, rfl⟩ := Int.eq_ofNat_of_zero_le hx.1
  obtain ⟨b, rfl⟩ := Int.eq_ofNat_of_zero_le hy.1
  rw [inot a b (by omega), T, Int.toNat_natCast, inot_bit a b (by omega)]
  rfl
theorem InMk.not {n : Nat} (hn : n ≤ 30) {x y : Int} (hx : InMk n x) (hy : InMk n y) : InMk n (bits .andNot .i64 x y) := by
  have h1 := hx.bd hn
  have a1 := hx.nat
  obtain ⟨a, rfl⟩ := Int.eq_ofNat_of_zero_le hx.1
  obtain ⟨b, rfl⟩ := Int.eq_ofNat_of_zero_le hy.1
  rw [inot a b (by omega)]
  rw [Int.toNat_natCast] at a1
  exact InMk.of (Nat.lt_of_le_of_lt (inot_le a b) a1)
theorem T_an {n : Nat} (hn : n ≤ 30) {x y : Int} (hx : InMk n x) (hy : InMk n y) (i : Nat) : T (bits .and .i64 x y) i = (T x i && T y i) := by
  have h1 := hx.bd hn
  have h2 := hy.bd hn
  obtain ⟨a, rfl⟩ := Int.eq_ofNat_of_zero_le hx.1
  obtain ⟨b, rfl⟩ := Int.eq_ofNat_of_zero_le hy.1
  rw [iand _ _ (by omega) (by omega)]
  simp [T]
theorem InMk.an {n : Nat} (hn : n ≤ 30) {x y : Int} (hx : InMk n x) (hy : InMk n y) : InMk n (bits .and .i64 x y) := by
  have h1 := hx.bd hn
  have h2 := hy.bd hn
  have a2 := hy.nat
  obtain ⟨a, rfl⟩ := Int.eq_ofNat_of_zero_le hx.1
  obtain ⟨b, rfl⟩ := Int.eq_ofNat_of_zero_le hy.1
  rw [iand _ _ (by omega) (by omega)]
  exact InMk.of (Nat.lt_of_le_of_lt Nat.and_le_right (by simpa using a2))

end Go.Proofs.YtnoaaklkbfbdbaaDoor
