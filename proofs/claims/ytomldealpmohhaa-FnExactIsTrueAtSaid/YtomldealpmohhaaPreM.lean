/- Facts of the preimage: its members; a box of what is not, not. Plain mathematics. -/
import Derived.Test.YtomldealpmohhaaPre
import Derived.Test.YtomldealpmohhaaTrM
namespace Go.Proofs.Ytomldealpmohhaa
open Go.RowKit

theorem and_zero {n : Nat} (hn : n ≤ 30) {x y : Int} (hx : InMk n x) (hy : InMk n y) : (bits .and .i64 x y == 0) = true ↔ ∀ i, T x i = true → T y i = false := by
  rw [beq_iff_eq]
  constructor
  · intro h i hi
    have := T_an hn hx hy i
    rw [h, T_zero, hi, Bool.true_and] at this
    exact this.symm
  · intro h
    refine T_ext (hx.an hn hy) (InMk.zero n) fun i => ?_
    rw [T_an hn hx hy, T_zero]
    cases hi : T x i
    · rfl
    · rw [h i hi]; rfl

theorem piTo_T {n : Nat} (hn : n ≤ 30) {xs : List Int} (hr : Rel n (nth xs)) {m : Int} (hm : InMk n m) {p : Nat} (hp : p ≤ 30) (k : Nat) (hk : k ≤ p) :
    InMk p (piTo xs m k) ∧ ∀ i, T (piTo xs m k) i = true ↔ i < k ∧ ∃ j, T (nth xs i) j = true ∧ T m j = true := by
  induction k with
  | zero => exact ⟨InMk.zero p, fun i => by simp [piTo, T_zero]⟩
  | succ k ih =>
    obtain ⟨h1, h2⟩ := ih (by omega)
    have hz := and_zero hn (hr k) hm
    rw [piTo]
    cases hb : (bits .and .i64 (nth xs k) m == 0)
    · rw [if_neg (by simp)]
      have hex : ∃ j, T (nth xs k) j = true ∧ T m j = true := by
        refine Classical.byContradiction fun hh => ?_
        rw [hz.2 (fun i hi => by
          cases hmi : T m i
          · rfl
          · exact absurd ⟨i, hi, hmi⟩ hh)] at hb
        cases hb
      have ho := InMk.one hp (show k < p by omega)
      refine ⟨h1.or hp ho, fun i => ?_⟩
      rw [T_or hp h1 ho, Bool.or_eq_true, h2 i, T_one (by omega), decide_eq_true_eq]
      constructor
      · rintro (⟨a, b⟩ | h)
        · exact ⟨by omega, b⟩
        · subst h; exact ⟨by omega, hex⟩
      · rintro ⟨a, b⟩
        rcases Nat.lt_succ_iff_lt_or_eq.1 a with h | h
        · exact .inl ⟨h, b⟩
        · exact .inr h.symm
    · rw [if_pos rfl]
      refine ⟨h1, fun i => (h2 i).trans ⟨fun ⟨a, b⟩ => ⟨by omega, b⟩, fun ⟨a, b⟩ => ⟨?_, b⟩⟩⟩
      rcases Nat.lt_succ_iff_lt_or_eq.1 a with h | h
      · exact h
      · subst h
        obtain ⟨j, h3, h4⟩ := b
        rw [hz.1 hb j h3] at h4
        cases h4

/-- The diamond by the box. -/
theorem pi_box {xs : List Int} (hn : xs.length ≤ 30) (hr : Rel xs.length (nth xs)) {m : Int} (hm : InMk xs.length m) : piTo xs m xs.length = bits .andNot .i64 (full xs.length) (boxTo xs (bits .andNot .i64 (full xs.length) m) xs.length) := by
  have hF := InMk.full hn
  have hN := hF.not hn hm
  obtain ⟨p1, p2⟩ := piTo_T hn hr hm hn xs.length (Nat.le_refl _)
  obtain ⟨b1, b2⟩ := boxTo_T hn hr (hN.bd hn) xs.length (Nat.le_refl _)
  refine T_ext p1 (hF.not hn b1) fun i => ?_
  rw [T_not hn hF b1, T_full hn, Bool.eq_iff_iff, p2 i, Bool.and_eq_true, decide_eq_true_eq, Bool.not_eq_true', Bool.eq_false_iff, ne_eq, b2 i]
  constructor
  · rintro ⟨h, j, h1, h2⟩
    refine ⟨h, fun hh => ?_⟩
    have := hh.2 j h1
    rw [T_not hn hF hm, h2] at this
    simp at this
  · rintro ⟨h, hh⟩
    refine ⟨h, Classical.byContradiction fun hx => hh ⟨h, fun j hj => ?_⟩⟩
    rw [T_not hn hF hm, T_full hn]
    have : T m j = false := by
      cases hmj : T m j
      · rfl
      · exact absurd ⟨j, hj, hmj⟩ hx
    rw [this]
    simp
    exact T_lt (hr i) hj

end Go.Proofs.Ytomldealpmohhaa
