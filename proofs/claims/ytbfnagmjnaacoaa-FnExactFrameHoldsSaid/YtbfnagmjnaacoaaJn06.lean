/- 2 texts in one: CoT, Msk. -/
import Derived.Test.YtbfnagmjnaacoaaRm
import Derived.Test.YtbfnagmjnaacoaaInv
/- The mask of the numbers of a list at the members of a mask: what the program's numbersAt answers. Conditions: those in the theorems. -/
namespace Go.Proofs.Ytbfnagmjnaacoaa
open Go.RowKit

def coTo (cs : List Int) (m : Int) : Nat → Int
  | 0 => 0
  | k + 1 => if bitB m k then bits .or .i64 (coTo cs m k) (one (nth cs k)) else coTo cs m k

/-- The mask of the classes of a mask's members. -/
theorem coTo_T {n : Nat} (hn : n ≤ 30) {cs : List Int} (hc : ∀ i, 0 ≤ nth cs i ∧ nth cs i ≤ n) (hl : ∀ i, i < cs.length → nth cs i < n) {m : Int} {p : Nat} (hp : p ≤ 30) (hm : InMk p m) (k : Nat) (hk : k ≤ cs.length) :
    InMk n (coTo cs m k) ∧ ∀ t, T (coTo cs m k) t = true ↔ ∃ i, i < k ∧ T m i = true ∧ nth cs i = t := by
  induction k with
  | zero => exact ⟨InMk.zero n, fun t => by simp [coTo, T_zero]⟩
  | succ k ih =>
    obtain ⟨h1, h2⟩ := ih (by omega)
    rw [coTo, bitB_T (hm.bd hp)]
    cases hb : T m k
    · rw [if_neg (by simp)]
      refine ⟨h1, fun t => (h2 t).trans ⟨fun ⟨i, a, b, c⟩ => ⟨i, by omega, b, c⟩, fun ⟨i, a, b, c⟩ => ?_⟩⟩
      rcases Nat.lt_succ_iff_lt_or_eq.1 a with h | h
      · exact ⟨i, h, b, c⟩
      · subst h; rw [hb] at b; cases b
    · rw [if_pos rfl]
      obtain ⟨q, hq⟩ := Int.eq_ofNat_of_zero_le (hc k).1
      have hqn : q < n := by have := hl k (by omega); omega
      rw [hq]
      have ho := InMk.one hn hqn
      refine ⟨h1.or hn ho, fun t => ?_⟩
      rw [T_or hn h1 ho, Bool.or_eq_true, h2 t, T_one (by omega), decide_eq_true_eq]
      constructor
      · rintro (⟨i, a, b, c⟩ | h)
        · exact ⟨i, by omega, b, c⟩
        · subst h; exact ⟨k, by omega, hb, hq⟩
      · rintro ⟨i, a, b, c⟩
        rcases Nat.lt_succ_iff_lt_or_eq.1 a with h | h
        · exact .inl ⟨i, h, b, c⟩
        · subst h; right; omega

end Go.Proofs.Ytbfnagmjnaacoaa

/- Facts of masks: and, and not. Conditions: those in the theorems. -/
namespace Go.Proofs.Ytbfnagmjnaacoaa
open Go.RowKit

theorem inot (a b : Nat) (ha : a < 1073741824) : bits .andNot .i64 (a : Int) (b : Int) = (((BitVec.ofNat 64 a &&& ~~~ BitVec.ofNat 64 b).toNat : Nat) : Int) := by
  have e1 : bits .andNot .i64 (a : Int) (b : Int) = (BitVec.ofInt 64 (a : Int) &&& ~~~ (BitVec.ofInt 64 (b : Int))).toInt := wrap_toInt _
  rw [e1, BitVec.ofInt_natCast, BitVec.ofInt_natCast, BitVec.toInt_eq_toNat_of_lt]
  rw [BitVec.toNat_and]
  have h1 := Nat.and_le_left (n := (BitVec.ofNat 64 a).toNat) (m := (~~~ BitVec.ofNat 64 b).toNat)
  have h2 : (BitVec.ofNat 64 a).toNat ≤ a := by rw [BitVec.toNat_ofNat]; exact Nat.mod_le _ _
  omega
theorem inot_le (a b : Nat) : (BitVec.ofNat 64 a &&& ~~~ BitVec.ofNat 64 b).toNat ≤ a := by
  rw [BitVec.toNat_and]
  have h1 := Nat.and_le_left (n := (BitVec.ofNat 64 a).toNat) (m := (~~~ BitVec.ofNat 64 b).toNat)
  have h2 : (BitVec.ofNat 64 a).toNat ≤ a := by rw [BitVec.toNat_ofNat]; exact Nat.mod_le _ _
  omega
theorem inot_bit (a b : Nat) (ha : a < 1073741824) (i : Nat) : (BitVec.ofNat 64 a &&& ~~~ BitVec.ofNat 64 b).toNat.testBit i = (a.testBit i && !b.testBit i) := by
  rw [show (BitVec.ofNat 64 a &&& ~~~ BitVec.ofNat 64 b).toNat.testBit i = (BitVec.ofNat 64 a &&& ~~~ BitVec.ofNat 64 b).getLsbD i from rfl, BitVec.getLsbD_and, BitVec.getLsbD_not, BitVec.getLsbD_ofNat, BitVec.getLsbD_ofNat]
  by_cases h : i < 64
  · simp [h]
  · have : a.testBit i = false := Nat.testBit_lt_two_pow (Nat.lt_of_lt_of_le ha (Nat.le_trans (show 1073741824 ≤ 2 ^ 64 by decide) (Nat.pow_le_pow_right (by decide) (by omega))))
    simp [h, this]
theorem T_not {n : Nat} (hn : n ≤ 30) {x y : Int} (hx : InMk n x) (hy : InMk n y) (i : Nat) : T (bits .andNot .i64 x y) i = (T x i && !T y i) := by
  have h1 := hx.bd hn
  obtain ⟨a, rfl⟩ := Int.eq_ofNat_of_zero_le hx.1
  obtain ⟨b, rfl⟩ := Int.eq_ofNat_of_zero_le hy.1
  rw [inot a b (by omega), T, Int.toNat_natCast, inot_bit a b (by omega)]
  rfl
theorem InMk.not {n : Nat} (hn : n ≤ 30) {x y : Int} (hx : InMk n x) (hy : InMk n y) : InMk n (bits .andNot .i64 x y) := by
  have h1 := hx.bd hn
  have a1 := hx.nat
  obtain ⟨a, rfl⟩ := Int.eq_ofNat_of_zero_le hx.1
  obtain ⟨b, rfl⟩ := Int.eq_ofNat_of_zero_le hy.1
  rw [inot a b (by omega)]
  rw [Int.toNat_natCast] at a1
  exact InMk.of (Nat.lt_of_le_of_lt (inot_le a b) a1)
theorem T_an {n : Nat} (hn : n ≤ 30) {x y : Int} (hx : InMk n x) (hy : InMk n y) (i : Nat) : T (bits .and .i64 x y) i = (T x i && T y i) := by
  have h1 := hx.bd hn
  have h2 := hy.bd hn
  obtain ⟨a, rfl⟩ := Int.eq_ofNat_of_zero_le hx.1
  obtain ⟨b, rfl⟩ := Int.eq_ofNat_of_zero_le hy.1
  rw [iand _ _ (by omega) (by omega)]
  simp [T]
theorem InMk.an {n : Nat} (hn : n ≤ 30) {x y : Int} (hx : InMk n x) (hy : InMk n y) : InMk n (bits .and .i64 x y) := by
  have h1 := hx.bd hn
  have h2 := hy.bd hn
  have a2 := hy.nat
  obtain ⟨a, rfl⟩ := Int.eq_ofNat_of_zero_le hx.1
  obtain ⟨b, rfl⟩ := Int.eq_ofNat_of_zero_le hy.1
  rw [iand _ _ (by omega) (by omega)]
  exact InMk.of (Nat.lt_of_le_of_lt Nat.and_le_right (by simpa using a2))

end Go.Proofs.Ytbfnagmjnaacoaa
