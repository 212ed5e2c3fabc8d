/- Morphisms of models by value: variables that are pulled back agree exactly if each world's do with its image's. Plain mathematics. -/
import Derived.Test.YtomldealpmohhaaMrM
import Derived.Test.YtomldealpmohhaaAtm
import Derived.Test.YtomldealpmohhaaEqI
namespace Go.Proofs.Ytomldealpmohhaa
open Go.RowKit

theorem atB_at {ys zs : List Int} {x y : Int} (k : Nat) : atB ys zs x y k = true ↔ ∀ v, v < k → bitB (nth ys v) x = bitB (nth zs v) y := by
  induction k with
  | zero => exact ⟨fun _ i h => absurd h (by omega), fun _ => rfl⟩
  | succ k ih =>
    rw [atB, Bool.and_eq_true, ih, beq_iff_eq]
    constructor
    · rintro ⟨a, b⟩ v hv
      by_cases e : v = k
      · subst e; exact b
      · exact a v (by omega)
    · exact fun h => ⟨fun v hv => h v (by omega), h k (by omega)⟩
theorem sqTo_at {ls : List Int} {y : Int} {n : Nat} (hn : n ≤ 30) (k : Nat) (hk : k ≤ n) : InMk n (sqTo ls y k) ∧ ∀ i, T (sqTo ls y k) i = (decide (i < k) && bitB y (nth ls i)) := by
  induction k with
  | zero => exact ⟨InMk.zero n, fun i => by simp [sqTo, T_zero]⟩
  | succ k ih =>
    obtain ⟨h1, h2⟩ := ih (by omega)
    have ho := InMk.one hn (show k < n by omega)
    rw [sqTo]
    cases hb : bitB y (nth ls k)
    · rw [if_neg (by simp)]
      refine ⟨h1, fun i => ?_⟩
      rw [h2 i]
      by_cases e : i = k
      · subst e; rw [hb]; simp
      · have : decide (i < k + 1) = decide (i < k) := by rw [decide_eq_decide]; omega
        rw [this]
    · rw [if_pos rfl]
      refine ⟨h1.or hn ho, fun i => ?_⟩
      rw [T_or hn h1 ho, h2 i, T_one (by omega)]
      by_cases e : i = k
      · subst e; rw [hb]; simp
      · have : decide (i < k + 1) = decide (i < k) := by rw [decide_eq_decide]; omega
        rw [this]
        simp [show ¬ k = i from fun h => e h.symm]
/-- The first k worlds have the variables of their images. -/
def vaB (ys zs ls : List Int) : Nat → Bool
  | 0 => true
  | k + 1 => vaB ys zs ls k && atB ys zs k (nth ls k) ys.length
theorem vaB_false {ys zs ls : List Int} {k l : Nat} (hk : k ≤ l) (h : vaB ys zs ls k = false) : vaB ys zs ls l = false := by
  induction l with
  | zero => simp at hk; subst hk; exact h
  | succ l ih =>
    by_cases e : k = l + 1
    · subst e; exact h
    · rw [vaB, ih (by omega)]; rfl
theorem vaB_iff {ys zs ls : List Int} (k : Nat) : vaB ys zs ls k = true ↔ ∀ x, x < k → ∀ v, v < ys.length → bitB (nth ys v) x = bitB (nth zs v) (nth ls x) := by
  induction k with
  | zero => exact ⟨fun _ i h => absurd h (by omega), fun _ => rfl⟩
  | succ k ih =>
    rw [vaB, Bool.and_eq_true, ih, atB_at]
    constructor
    · rintro ⟨a, b⟩ x hx
      by_cases e : x = k
      · subst e; exact b
      · exact a x (by omega)
    · exact fun h => ⟨fun x hx => h x (by omega), h k (by omega)⟩
theorem va_pl {ys zs ls : List Int} {n : Nat} (hn : n ≤ 30) (hl : ls.length = n) (hyz : zs.length = ys.length) (hy : ∀ i, InMk n (nth ys i)) : vaB ys zs ls ls.length = decide (plL ls zs = ys) := by
  rw [Bool.eq_iff_iff, vaB_iff, decide_eq_true_eq]
  constructor
  · intro h
    refine list_ext_i (by rw [plL_len, hyz]) fun v hv => ?_
    rw [plL_len] at hv
    obtain ⟨q1, q2⟩ := sqTo_at (ls := ls) (y := nth zs v) hn ls.length (by omega)
    rw [plL, tab_nth _ _ _ hv]
    refine T_ext q1 (hy v) fun i => ?_
    rw [q2 i]
    by_cases hi : i < ls.length
    · rw [← h i hi v (by omega), decide_eq_true hi, Bool.true_and, bitB_T ((hy v).bd hn)]
    · rw [T_high (hy v) (by omega), decide_eq_false hi]; rfl
  · intro h x hx v hv
    obtain ⟨q1, q2⟩ := sqTo_at (ls := ls) (y := nth zs v) hn ls.length (by omega)
    have e : nth (plL ls zs) v = nth ys v := by rw [h]
    rw [plL, tab_nth _ _ _ (show v < zs.length by omega)] at e
    rw [bitB_T ((hy v).bd hn), ← e, q2 x, decide_eq_true hx, Bool.true_and]

def mmK (n0 : Int) (xs ys : List Int) (n1 : Int) (ps zs ls : List Int) : Bool := isM n0 xs ys && isM n1 ps zs && mpB n0 n1 ls
def mmC (n0 : Int) (xs ys : List Int) (n1 : Int) (ps zs ls : List Int) : Int := if mmK n0 xs ys n1 ps zs ls then 0 else 1
def mmV (n0 : Int) (xs ys : List Int) (n1 : Int) (ps zs ls : List Int) : Bool := mmK n0 xs ys n1 ps zs ls && (vaB ys zs ls ls.length && mrB xs ps ls ls.length)
theorem mm_bad {n0 n1 : Int} {xs ys ps zs ls : List Int} (h : mmK n0 xs ys n1 ps zs ls = false) : Ending.returned (.tuple #[.bool false, .int .i64 1]) = .returned (.tuple #[.bool (mmV n0 xs ys n1 ps zs ls), .int .i64 (mmC n0 xs ys n1 ps zs ls)]) := by rw [mmV, mmC, h]; rfl
theorem mm_ok {n0 n1 : Int} {xs ys ps zs ls : List Int} {z : Bool} (h : mmK n0 xs ys n1 ps zs ls = true) (hz : z = (vaB ys zs ls ls.length && mrB xs ps ls ls.length)) : Ending.returned (.tuple #[.bool z, .int .i64 0]) = .returned (.tuple #[.bool (mmV n0 xs ys n1 ps zs ls), .int .i64 (mmC n0 xs ys n1 ps zs ls)]) := by rw [mmV, mmC, h, hz]; rfl
theorem mmK_of {n0 n1 : Int} {xs ys ps zs ls : List Int} (h0 : isM n0 xs ys = true) (h1 : isM n1 ps zs = true) (h2 : mpB n0 n1 ls = true) : Mp xs ps ls ∧ imK n0 xs n1 ps ls = true ∧ vaB ys zs ls ls.length = decide (plL ls zs = ys) := by
  have f0 := (isM_ok h0).1
  have f1 := (isM_ok h1).1
  have m := (mp_of f0 f1 h2).2.2
  refine ⟨m, by rw [imK, f0, f1, h2]; rfl, va_pl (n := xs.length) (by have := m.x8; omega) m.ll ?_ (isM_rel h0).2.2.2⟩
  have := (isM_ok h0).2.2.2.2.1
  have := (isM_ok h1).2.2.2.2.1
  omega

end Go.Proofs.Ytomldealpmohhaa
