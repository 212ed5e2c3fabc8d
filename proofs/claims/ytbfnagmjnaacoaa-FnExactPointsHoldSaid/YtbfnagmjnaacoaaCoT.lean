/- The mask of the numbers of a list at the members of a mask: what the program's numbersAt answers. Conditions: those in the theorems. -/
import Derived.Test.YtbfnagmjnaacoaaRm
import Derived.Test.YtbfnagmjnaacoaaInv
namespace Go.Proofs.Ytbfnagmjnaacoaa
open Go.RowKit

def coTo (cs : List Int) (m : Int) : Nat → Int
  | 0 => 0
  | k + 1 => if bitB m k then bits .or .i64 (coTo cs m k) (one (nth cs k)) else coTo cs m k

/-- The mask of the classes of a mask's members. -/
theorem coTo_T {n : Nat} (hn : n ≤ 30) {cs : List Int} (hc : ∀ i, 0 ≤ nth cs i ∧ nth cs i ≤ n) (hl : ∀ i, i < cs.length → nth cs i < n) {m : Int} {p : Nat} (hp : p ≤ 30) (hm : InMk p m) (k : Nat) (hk : k ≤ cs.length) :
    InMk n (coTo cs m k) ∧ ∀ t, T (coTo cs m k) t = true ↔ ∃ i, i < k ∧ T m i = true ∧ nth cs i = t := by
  induction k with
  | zero => exact ⟨InMk.zero n, fun t => by simp [coTo, T_zero]⟩
  | succ k ih =>
    obtain ⟨h1, h2⟩ := ih (by omega)
    rw [coTo, bitB_T (hm.bd hp)]
    cases hb : T m k
    · rw [if_neg (by simp)]
      refine ⟨h1, fun t => (h2 t).trans ⟨fun ⟨i, a, b, c⟩ => ⟨i, by omega, b, c⟩, fun ⟨i, a, b, c⟩ => ?_⟩⟩
      rcases Nat.lt_succ_iff_lt_or_eq.1 a with h | h
      · exact ⟨i, h, b, c⟩
      · subst h; rw [hb] at b; cases b
    · rw [if_pos rfl]
      obtain ⟨q, hq⟩ := Int.eq_ofNat_of_zero_le (hc k).1
      have hqn : q < n := by have := hl k (by omega); omega
      rw [hq]
      have ho := InMk.one hn hqn
      refine ⟨h1.or hn ho, fun t => ?_⟩
      rw [T_or hn h1 ho, Bool.or_eq_true, h2 t, T_one (by omega), decide_eq_true_eq]
      constructor
      · rintro (⟨i, a, b, c⟩ | h)
        · exact ⟨i, by omega, b, c⟩
        · subst h; exact ⟨k, by omega, hb, hq⟩
      · rintro ⟨i, a, b, c⟩
        rcases Nat.lt_succ_iff_lt_or_eq.1 a with h | h
        · exact .inl ⟨i, h, b, c⟩
        · subst h; right; omega

end Go.Proofs.Ytbfnagmjnaacoaa
