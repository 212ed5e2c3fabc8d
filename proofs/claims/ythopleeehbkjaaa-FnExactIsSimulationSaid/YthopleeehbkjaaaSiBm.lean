/- A link is a bisimulation for the program exactly if it is one for the model. Plain mathematics. -/
import Derived.Test.YthopleeehbkjaaaSiT
namespace Go.Proofs.Ythopleeehbkjaaa
open Go.RowKit

theorem ivTo_T2 {p q : Nat} (hp : p ≤ 30) (hq : q ≤ 30) {xs : List Int} (hr : ∀ i, InMk q (nth xs i)) (t k : Nat) (hk : k ≤ p) :
    InMk p (ivTo xs t k) ∧ ∀ i, T (ivTo xs t k) i = true ↔ i < k ∧ T (nth xs i) t = true := by
  induction k with
  | zero => exact ⟨InMk.zero p, fun i => by simp [ivTo, T_zero]⟩
  | succ k ih =>
    obtain ⟨h1, h2⟩ := ih (by omega)
    rw [ivTo, bitB_T ((hr k).bd hq)]
    cases hb : T (nth xs k) t
    · rw [if_neg (by simp)]
      refine ⟨h1, fun i => (h2 i).trans ⟨fun ⟨a, b⟩ => ⟨by omega, b⟩, fun ⟨a, b⟩ => ⟨?_, b⟩⟩⟩
      rcases Nat.lt_succ_iff_lt_or_eq.1 a with h | h
      · exact h
      · subst h; rw [hb] at b; cases b
    · rw [if_pos rfl]
      have ho := InMk.one hp (show k < p by omega)
      refine ⟨h1.or hp ho, fun i => ?_⟩
      rw [T_or hp h1 ho, Bool.or_eq_true, h2 i, T_one (by omega), decide_eq_true_eq]
      constructor
      · rintro (⟨a, b⟩ | h)
        · exact ⟨by omega, b⟩
        · subst h; exact ⟨by omega, hb⟩
      · rintro ⟨a, b⟩
        rcases Nat.lt_succ_iff_lt_or_eq.1 a with h | h
        · exact .inl ⟨h, b⟩
        · exact .inr h.symm

theorem atB_T {ys zs : List Int} {p q : Nat} (hp : p ≤ 30) (hq : q ≤ 30) (hy : ∀ i, InMk p (nth ys i)) (hz : ∀ i, InMk q (nth zs i)) (x y k : Nat) :
    atB ys zs x y k = true ↔ ∀ v, v < k → T (nth ys v) x = T (nth zs v) y := by
  induction k with
  | zero => simp [atB]
  | succ k ih =>
    rw [atB, Bool.and_eq_true, ih, bitB_T ((hy k).bd hp), bitB_T ((hz k).bd hq), beq_iff_eq]
    constructor
    · rintro ⟨a, b⟩ v hv
      rcases Nat.lt_succ_iff_lt_or_eq.1 hv with h | h
      · exact a v h
      · subst h; exact b
    · exact fun h => ⟨fun v hv => h v (by omega), h k (by omega)⟩

def backL (ls : List Int) (n : Nat) : List Int := tab n (fun t => ivTo ls t ls.length)
theorem backL_len (ls : List Int) (n : Nat) : (backL ls n).length = n := tab_len _ _

section
variable {xs ys ps zs ls : List Int}
theorem Lk.back_T (h : Lk xs ys ps zs ls) (y : Nat) : InMk xs.length (nth (backL ls ps.length) y) ∧ ∀ x, T (nth (backL ls ps.length) y) x = true ↔ y < ps.length ∧ x < ls.length ∧ T (nth ls x) y = true := by
  have hp := Nat.le_trans h.p8 (show 8 ≤ 30 by decide)
  have hx := Nat.le_trans h.x8 (show 8 ≤ 30 by decide)
  by_cases hy : y < ps.length
  · rw [backL, tab_nth _ _ _ hy]
    obtain ⟨a, b⟩ := ivTo_T2 hx hp h.lr y ls.length (by rw [h.ll]; exact Nat.le_refl _)
    exact ⟨a, fun x => by rw [b x]; simp [hy]⟩
  · rw [nth_high (by rw [backL_len]; omega)]
    exact ⟨InMk.zero _, fun x => by simp [T_zero, hy]⟩
theorem Lk.back (h : Lk xs ys ps zs ls) : Lk ps zs xs ys (backL ls ps.length) where
  x8 := h.p8
  p8 := h.x8
  xr := h.pr
  pr := h.xr
  yr := h.zr
  zr := h.yr
  yz := h.yz.symm
  ll := backL_len _ _
  lr := fun i => (h.back_T i).1
theorem Lk.bel_T (h : Lk xs ys ps zs ls) (x y : Nat) : T (belV xs ys ps zs ls x) y = true ↔ y < ps.length ∧ (∀ j, j < ls.length → T (nth xs x) j = true → ∃ z, T (nth ps y) z = true ∧ T (nth ls j) z = true) ∧ ∀ v, v < ys.length → T (nth ys v) x = true → T (nth zs v) y = true := by
  have hp := Nat.le_trans h.p8 (show 8 ≤ 30 by decide)
  have hx := Nat.le_trans h.x8 (show 8 ≤ 30 by decide)
  rw [belV, (mkT_T hp ps.length (Nat.le_refl _)).2 y, Bool.and_eq_true, decide_eq_true_eq, beB, gdB_T hx hp h.yr h.zr, foB_T hp hx h.lr (h.pr y) (h.xr x)]
theorem Lk.st_T (h : Lk xs ys ps zs ls) (x y : Nat) : T (stV xs ys ps zs ls x) y = true ↔ y < ps.length ∧ (∀ v, v < ys.length → T (nth ys v) x = T (nth zs v) y) ∧ (∀ j, j < ls.length → T (nth xs x) j = true → ∃ z, T (nth ps y) z = true ∧ T (nth ls j) z = true) ∧ ∀ z, T (nth ps y) z = true → ∃ j, j < ls.length ∧ T (nth xs x) j = true ∧ T (nth ls j) z = true := by
  have hp := Nat.le_trans h.p8 (show 8 ≤ 30 by decide)
  have hx := Nat.le_trans h.x8 (show 8 ≤ 30 by decide)
  obtain ⟨i1, i2⟩ := imgTo_T hp (xs := ls) h.lr ((h.xr x).bd hx) ls.length
  rw [stV, (mkT_T hp ps.length (Nat.le_refl _)).2 y, Bool.and_eq_true, decide_eq_true_eq, stB, Bool.and_eq_true, Bool.and_eq_true, atB_T hx hp h.yr h.zr, foB_T hp hx h.lr (h.pr y) (h.xr x), beq_iff_eq, andNot_zero hp (h.pr y) i1]
  constructor
  · rintro ⟨a, ⟨b, c⟩, d⟩
    exact ⟨a, b, c, fun z hz => (i2 z).1 (d z hz)⟩
  · rintro ⟨a, b, c, d⟩
    exact ⟨a, ⟨b, c⟩, fun z hz => (i2 z).2 (d z hz)⟩
theorem Lk.st_in (h : Lk xs ys ps zs ls) (x : Nat) : InMk ps.length (stV xs ys ps zs ls x) := (mkT_T (Nat.le_trans h.p8 (by decide)) ps.length (Nat.le_refl _)).1

theorem Lk.bis (h : Lk xs ys ps zs ls) : (decide (simL xs ys ps zs ls = ls) && decide (simL ps zs xs ys (backL ls ps.length) = backL ls ps.length)) = insB ls (tab xs.length (stV xs ys ps zs ls)) ls.length := by
  have hp := Nat.le_trans h.p8 (show 8 ≤ 30 by decide)
  have hx := Nat.le_trans h.x8 (show 8 ≤ 30 by decide)
  rw [h.test, h.back.test, Bool.eq_iff_iff, Bool.and_eq_true, insB_iff hp h.lr (tab_in fun i _ => h.bel_in i), insB_iff hx h.back.lr (tab_in fun i _ => h.back.bel_in i), insB_iff hp h.lr (tab_in fun i _ => h.st_in i), backL_len]
  constructor
  · rintro ⟨a, b⟩ i hi y hy
    have a1 := a i hi y hy
    rw [tab_nth _ _ _ hi] at a1
    rw [h.bel_T] at a1
    obtain ⟨a2, a3, a4⟩ := a1
    have b1 := b y a2 i (((h.back_T y).2 i).2 ⟨a2, hi, hy⟩)
    rw [tab_nth _ _ _ a2, h.back.bel_T] at b1
    obtain ⟨b2, b3, b4⟩ := b1
    rw [tab_nth _ _ _ (by rw [← h.ll]; exact hi), h.st_T]
    refine ⟨a2, fun v hv => ?_, a3, fun z hz => ?_⟩
    · rw [Bool.eq_iff_iff]
      exact ⟨a4 v hv, b4 v (by rw [h.yz]; exact hv)⟩
    · obtain ⟨j, h1, h2⟩ := b3 z (by rw [backL_len]; exact T_lt (h.pr y) hz) hz
      obtain ⟨-, h3, h4⟩ := ((h.back_T z).2 j).1 h2
      exact ⟨j, h3, h1, h4⟩
  · intro a
    refine ⟨fun i hi y hy => ?_, fun y hy x hx2 => ?_⟩
    · have a1 := a i hi y hy
      rw [tab_nth _ _ _ (by rw [← h.ll]; exact hi), h.st_T] at a1
      obtain ⟨a2, a3, a4, a5⟩ := a1
      rw [tab_nth _ _ _ hi, h.bel_T]
      exact ⟨a2, a4, fun v hv ht => by rw [← a3 v hv]; exact ht⟩
    · obtain ⟨-, hi, hl⟩ := ((h.back_T y).2 x).1 hx2
      have a1 := a x hi y hl
      rw [tab_nth _ _ _ (by rw [← h.ll]; exact hi), h.st_T] at a1
      obtain ⟨a2, a3, a4, a5⟩ := a1
      rw [tab_nth _ _ _ hy, h.back.bel_T]
      refine ⟨by rw [← h.ll]; exact hi, fun z hz ht => ?_, fun v hv ht => by rw [a3 v (by rw [← h.yz]; exact hv)]; exact ht⟩
      obtain ⟨j, h1, h2, h3⟩ := a5 z ht
      exact ⟨j, h2, ((h.back_T z).2 j).2 ⟨by rw [backL_len] at hz; exact hz, h1, h3⟩⟩
end

end Go.Proofs.Ythopleeehbkjaaa
