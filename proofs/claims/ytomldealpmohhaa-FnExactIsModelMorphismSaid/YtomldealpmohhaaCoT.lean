/- The mask of the numbers of a list at the members of a mask: what the program's numbersAt answers. Conditions: those in the theorems. -/
import Derived.Test.YtomldealpmohhaaRm
import Derived.Test.YtomldealpmohhaaInv
namespace Go.Proofs.Ytomldealpmohhaa
open Go.RowKit

def coTo (cs : List Int) (m : Int) : Nat → Int
  | 0 => 0
  | k + 1 => if bitB m k then bits .or .i64 (coTo cs m k) (one (nth cs k)) else coTo cs m k

set_option maxHeartbeats 400000 in
theorem classesOf_any (cs : List Int) (m : Int) (a : Option Addr) (cap : Nat) (w : World) (hl : cs.length ≤ 30) (hc : ∀ i, 0 ≤ nth cs i ∧ nth cs i ≤ 30) (h : At w a cs.length cs) :
    Calls Try.prog 113 #[.slice a cs.length cap, .int .i64 m] w fun e w' => e = .returned (.int .i64 (coTo cs m cs.length)) ∧ w = w' := by
  have H := Lib.hid h
  have HC := Lib.hid hc
  clear h hc
  go_enter Try.func113, Try.ntmps113
  go_wp2
  go_loop [5, 10] (fun s i => ∃ k : Nat, k ≤ cs.length ∧ i = .int .i64 k ∧ s = .int .i64 (coTo cs m k)) (fun _ i => cs.length - (intOf i).toNat)
  case atStart => exact ⟨0, Nat.zero_le _, rfl, rfl⟩
  case round =>
    obtain ⟨k, hk, rfl, rfl⟩ := hrel
    by_cases hlt : k < cs.length
    · obtain ⟨b, off, rfl, hb, hc⟩ := H.out.2.resolve_left (by omega)
      have hcell := hc k hlt
      obtain ⟨z, hz⟩ : ∃ z, z = nth cs k := ⟨_, rfl⟩
      rw [← hz] at hcell
      have hz0 : 0 ≤ z := by rw [hz]; exact (HC.out k).1
      have hz1 : z ≤ 30 := by rw [hz]; exact (HC.out k).2
      have Z := Lib.hid hz
      clear hc hz
      cases hbit : bitB m k
      all_goals
        have HB := Lib.hid hbit
        go_wp2_with (go_at_call 54; refine (hasMember_any _ _ _ (by omega) (by omega)).mono ?_; rintro e w' ⟨rfl, rfl⟩)
        go_round
        case rel => exact ⟨k + 1, hlt, by go_num, by simp only [coTo, HB.out, ← Z.out]; rfl⟩
        case measure => simp [intOf]; omega
    · obtain rfl : k = cs.length := by omega
      go_wp2
      go_ret
      exact ⟨rfl, rfl⟩

/-- The mask of the classes of a mask's members. -/
theorem coTo_T {n : Nat} (hn : n ≤ 30) {cs : List Int} (hc : ∀ i, 0 ≤ nth cs i ∧ nth cs i ≤ n) (hl : ∀ i, i < cs.length → nth cs i < n) {m : Int} {p : Nat} (hp : p ≤ 30) (hm : InMk p m) (k : Nat) (hk : k ≤ cs.length) :
    InMk n (coTo cs m k) ∧ ∀ t, T (coTo cs m k) t = true ↔ ∃ i, i < k ∧ T m i = true ∧ nth cs i = t := by
  induction k with
  | zero => exact ⟨InMk.zero n, fun t => by simp [coTo, T_zero]⟩
  | succ k ih =>
    obtain ⟨h1, h2⟩ := ih (by omega)
    rw [coTo, bitB_T (hm.bd hp)]
    cases hb : T m k
    · rw [if_neg (by simp)]
      refine ⟨h1, fun t => (h2 t).trans ⟨fun ⟨i, a, b, c⟩ => ⟨i, by omega, b, c⟩, fun ⟨i, a, b, c⟩ => ?_⟩⟩
      rcases Nat.lt_succ_iff_lt_or_eq.1 a with h | h
      · exact ⟨i, h, b, c⟩
      · subst h; rw [hb] at b; cases b
    · rw [if_pos rfl]
      obtain ⟨q, hq⟩ := Int.eq_ofNat_of_zero_le (hc k).1
      have hqn : q < n := by have := hl k (by omega); omega
      rw [hq]
      have ho := InMk.one hn hqn
      refine ⟨h1.or hn ho, fun t => ?_⟩
      rw [T_or hn h1 ho, Bool.or_eq_true, h2 t, T_one (by omega), decide_eq_true_eq]
      constructor
      · rintro (⟨i, a, b, c⟩ | h)
        · exact ⟨i, by omega, b, c⟩
        · subst h; exact ⟨k, by omega, hb, hq⟩
      · rintro ⟨i, a, b, c⟩
        rcases Nat.lt_succ_iff_lt_or_eq.1 a with h | h
        · exact .inl ⟨i, h, b, c⟩
        · subst h; right; omega

end Go.Proofs.Ytomldealpmohhaa
