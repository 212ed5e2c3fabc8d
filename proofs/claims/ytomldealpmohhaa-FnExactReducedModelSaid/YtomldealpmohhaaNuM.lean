/- Classes numbered in the order of their first things, and a map that holds the numbers. Plain mathematics. -/
import Derived.Maps.OwnSet
import Derived.Maps.OwnOps
import Derived.Test.YtomldealpmohhaaJn04
namespace Go.Proofs.Ytomldealpmohhaa
open Go.RowKit

/-- How many labels there are below k, and the number of each. -/
noncomputable def stF (l : Nat → Lit) : Nat → Nat × (Lit → Option Nat)
  | 0 => (0, fun _ => none)
  | k + 1 => match (stF l k).2 (l k) with
    | some _ => stF l k
    | none => ((stF l k).1 + 1, fun a => open Classical in if a = l k then some (stF l k).1 else (stF l k).2 a)
noncomputable def numF (l : Nat → Lit) (k : Nat) : Nat := ((stF l k).2 (l k)).getD (stF l k).1
theorem st_old {l : Nat → Lit} {k i : Nat} (h : (stF l k).2 (l k) = some i) : stF l (k + 1) = stF l k ∧ numF l k = i := by
  constructor
  · rw [stF, h]
  · rw [numF, h]; rfl
theorem st_new {l : Nat → Lit} {k : Nat} (h : (stF l k).2 (l k) = none) : stF l (k + 1) = ((stF l k).1 + 1, fun a => open Classical in if a = l k then some (stF l k).1 else (stF l k).2 a) ∧ numF l k = (stF l k).1 := by
  constructor
  · rw [stF, h]
  · rw [numF, h]; rfl
theorem st_le {l : Nat → Lit} (k : Nat) : (stF l k).1 ≤ (stF l (k + 1)).1 ∧ (stF l (k + 1)).1 ≤ (stF l k).1 + 1 := by
  cases h : (stF l k).2 (l k) with
  | some i => rw [(st_old h).1]; exact ⟨Nat.le_refl _, Nat.le_succ _⟩
  | none => rw [(st_new h).1]; exact ⟨Nat.le_succ _, Nat.le_refl _⟩
theorem st_mono {l : Nat → Lit} {k n : Nat} (h : k ≤ n) : (stF l k).1 ≤ (stF l n).1 := by
  induction n with
  | zero => obtain rfl : k = 0 := by omega
            exact Nat.le_refl _
  | succ n ih =>
    by_cases e : k = n + 1
    · subst e; exact Nat.le_refl _
    · exact Nat.le_trans (ih (by omega)) (st_le n).1
theorem st_bd {l : Nat → Lit} (k : Nat) : (stF l k).1 ≤ k := by
  induction k with
  | zero => exact Nat.le_refl _
  | succ k ih => have := (st_le (l := l) k).2; omega

/-- What the map says: a label has a number exactly if it stands below k, and then its thing's number. -/
theorem st_has {l : Nat → Lit} (k : Nat) : (∀ j, j < k → (stF l k).2 (l j) = some (numF l j)) ∧ (∀ a i, (stF l k).2 a = some i → (∃ j, j < k ∧ l j = a ∧ numF l j = i) ∧ i < (stF l k).1) ∧ (∀ a b i, (stF l k).2 a = some i → (stF l k).2 b = some i → a = b) := by
  induction k with
  | zero => exact ⟨(fun j h => absurd h (by omega)), (fun a i (h : none = some i) => (by cases h)), (fun a b i (h : none = some i) _ => (by cases h))⟩
  | succ k ih =>
    obtain ⟨h1, h2, h3⟩ := ih
    cases h : (stF l k).2 (l k) with
    | some i =>
      obtain ⟨e1, e2⟩ := st_old h
      rw [e1]
      refine ⟨fun j hj => ?_, fun a i' h' => ?_, h3⟩
      · by_cases e : j = k
        · subst e; rw [e2]; exact h
        · exact h1 j (by omega)
      · obtain ⟨⟨j, a1, a2, a3⟩, a4⟩ := h2 a i' h'
        exact ⟨⟨j, by omega, a2, a3⟩, a4⟩
    | none =>
      obtain ⟨e1, e2⟩ := st_new h
      rw [e1]
      refine ⟨fun j hj => ?_, fun a i' h' => ?_, fun a b i' ha hb => ?_⟩
      · by_cases e : j = k
        · subst e; simp [e2]
        · have hj' := h1 j (by omega)
          have hne : ¬ l j = l k := fun e' => by rw [e', h] at hj'; cases hj'
          simp [hne, hj']
      · by_cases e : a = l k
        · simp [e] at h'
          subst h'
          exact ⟨⟨k, by omega, e.symm, e2⟩, Nat.lt_succ_self _⟩
        · simp [e] at h'
          obtain ⟨⟨j, a1, a2, a3⟩, a4⟩ := h2 a i' h'
          exact ⟨⟨j, by omega, a2, a3⟩, by show i' < _ + 1; omega⟩
      · by_cases ea : a = l k
        · by_cases eb : b = l k
          · rw [ea, eb]
          · simp [ea] at ha
            simp [eb] at hb
            have := (h2 b i' hb).2
            omega
        · simp [ea] at ha
          by_cases eb : b = l k
          · simp [eb] at hb
            have := (h2 a i' ha).2
            omega
          · simp [eb] at hb
            exact h3 a b i' ha hb
/-- Things have one number exactly if they have one label. -/
theorem num_iff {l : Nat → Lit} (i j : Nat) : numF l i = numF l j ↔ l i = l j := by
  have h := st_has (l := l) (i + j + 1)
  have a := h.1 i (by omega)
  have b := h.1 j (by omega)
  constructor
  · intro e
    rw [e] at a
    exact h.2.2 _ _ _ a b
  · intro e
    rw [e] at a
    rw [a] at b
    exact Option.some.inj b
theorem num_lt {l : Nat → Lit} {i n : Nat} (h : i < n) : numF l i < (stF l n).1 := ((st_has n).2.1 _ _ ((st_has n).1 i h)).2
/-- The numbers hang on the classes alone. -/
theorem num_ext {l m : Nat → Lit} {n : Nat} (h : ∀ i j, i < n → j < n → (l i = l j ↔ m i = m j)) : ∀ k, k ≤ n → (stF l k).1 = (stF m k).1 ∧ (∀ j, j < n → (stF l k).2 (l j) = (stF m k).2 (m j)) := by
  intro k
  induction k with
  | zero => exact fun _ => ⟨rfl, fun j _ => rfl⟩
  | succ k ih =>
    intro hk
    obtain ⟨h1, h2⟩ := ih (by omega)
    have h3 := h2 k (by omega)
    cases e : (stF l k).2 (l k) with
    | some i =>
      rw [(st_old e).1, (st_old (h3.symm.trans e)).1]
      exact ⟨h1, h2⟩
    | none =>
      rw [(st_new e).1, (st_new (h3.symm.trans e)).1]
      refine ⟨by show _ + 1 = _ + 1; rw [h1], fun j hj => ?_⟩
      have := h j k hj (by omega)
      by_cases e2 : l j = l k
      · simp [e2, this.1 e2, h1]
      · have e3 : ¬ m j = m k := fun q => e2 (this.2 q)
        simp [e2, e3, h2 j hj]
theorem st_new_iff {l : Nat → Lit} (k : Nat) : (stF l k).2 (l k) = none ↔ ∀ j, j < k → l j ≠ l k := by
  constructor
  · intro h j hj e
    have := (st_has (l := l) k).1 j hj
    rw [e, h] at this
    cases this
  · intro h
    cases hs : (stF l k).2 (l k) with
    | none => rfl
    | some i =>
      obtain ⟨⟨j, h1, h2, -⟩, -⟩ := (st_has (l := l) k).2.1 _ _ hs
      exact absurd h2 (h j h1)
theorem num_same {l m : Nat → Lit} {n : Nat} (h : ∀ i j, i < n → j < n → (l i = l j ↔ m i = m j)) {i : Nat} (hi : i < n) : numF l i = numF m i := by
  obtain ⟨h1, h2⟩ := num_ext h i (by omega)
  rw [numF, numF, h1, h2 i hi]

/-! The map. -/
def Md (l : Nat → Lit) (k : Nat) (D : DataW Unit) : Prop := Maps.Tidy D ∧ Maps.size D = (stF l k).1 ∧ (∀ a, Maps.has D a = ((stF l k).2 a).isSome) ∧ ∀ a i z, (stF l k).2 a = some i → D.atKey a z = .lit (.int .i64 i)
theorem Md.zero (l : Nat → Lit) : Md l 0 (.map []) := ⟨Maps.tidy_empty, rfl, fun a => rfl, fun a i z h => by cases h⟩
theorem Md.old {l : Nat → Lit} {k i : Nat} {D : DataW Unit} (h : Md l k D) (e : (stF l k).2 (l k) = some i) : Md l (k + 1) D := by
  unfold Md
  rw [(st_old e).1]
  exact h
theorem Md.new {l : Nat → Lit} {k : Nat} {D : DataW Unit} (h : Md l k D) (hk : WideAt.IsKeyLit (l k)) (e : (stF l k).2 (l k) = none) : Md l (k + 1) (D.put (l k) (.lit (.int .i64 (stF l k).1))) := by
  obtain ⟨t, s, hh, ha⟩ := h
  have hn : Maps.has D (l k) = false := by rw [hh, e]; rfl
  refine ⟨?_, ?_, fun a => ?_, fun a i z he => ?_⟩
  · exact t.put hk _
  · rw [Maps.size_put t, hn, (st_new e).1, s]; rfl
  · rw [(st_new e).1]
    by_cases e2 : a = l k
    · subst e2
      rw [Maps.has_put_same t.isMap hk]; simp
    · rw [Maps.has_put_other e2, hh]; simp [e2]
  · rw [(st_new e).1] at he
    by_cases e2 : a = l k
    · simp [e2] at he
      subst e2
      rw [Maps.atKey_put_same t.isMap hk, he]
    · simp [e2] at he
      rw [Maps.atKey_put_other e2]
      exact ha a i z he

end Go.Proofs.Ytomldealpmohhaa
