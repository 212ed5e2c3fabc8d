/- Clusters of worlds: their numbers, and how they tell depths. No program text. -/
import Derived.Test.YtckilaeolkgnkaaDpt
namespace Go.Proofs.Ytckilaeolkgnkaa
open Go.RowKit

def mu (xs : List Int) (w v : Nat) : Bool := T (nth (rcL xs) w) v && T (nth (rcL xs) v) w
theorem mu_iff {xs : List Int} (hn : xs.length ≤ 30) (hr : Rel xs.length (nth xs)) {w v : Nat} (hw : w < xs.length) (hv : v < xs.length) : mu xs w v = true ↔ Rch xs w v ∧ Rch xs v w := by
  obtain ⟨-, c2⟩ := rc_T hn hr
  unfold mu
  rw [Bool.and_eq_true, c2 w v hw, c2 v w hv]
theorem mu_refl {xs : List Int} (hn : xs.length ≤ 30) (hr : Rel xs.length (nth xs)) {w : Nat} (hw : w < xs.length) : mu xs w w = true := (mu_iff hn hr hw hw).2 ⟨.inl rfl, .inl rfl⟩
theorem mu_symm (xs : List Int) (w v : Nat) : mu xs w v = mu xs v w := by unfold mu; exact Bool.and_comm _ _
theorem mu_trans {xs : List Int} (hn : xs.length ≤ 30) (hr : Rel xs.length (nth xs)) {w v u : Nat} (hw : w < xs.length) (hv : v < xs.length) (hu : u < xs.length) (h1 : mu xs w v = true) (h2 : mu xs v u = true) : mu xs w u = true := by
  obtain ⟨a, b⟩ := (mu_iff hn hr hw hv).1 h1
  obtain ⟨c, d⟩ := (mu_iff hn hr hv hu).1 h2
  exact (mu_iff hn hr hw hu).2 ⟨Rch_trans hv a c, Rch_trans hv d b⟩

def owTo (xs : List Int) (F : Nat → Int) (w : Nat) : Nat → Int
  | 0 => -1
  | j + 1 => if owTo xs F w j < 0 ∧ mu xs w j = true then F j else owTo xs F w j
theorem ow_spec {xs : List Int} {F : Nat → Int} {w : Nat} : ∀ j, (∀ v, v < j → 0 ≤ F v) → (owTo xs F w j = -1 ∧ ∀ v, v < j → mu xs w v = false) ∨ (∃ v, v < j ∧ mu xs w v = true ∧ owTo xs F w j = F v)
  | 0, _ => .inl ⟨rfl, fun v h => by omega⟩
  | j + 1, h => by
    rcases ow_spec (xs := xs) (F := F) (w := w) j (fun v hv => h v (by omega)) with ⟨h1, h2⟩ | ⟨v, hv, h1, h2⟩
    · cases hm : mu xs w j
      · exact .inl ⟨by simp [owTo, h1, hm], fun v hv => by
          by_cases e : v = j
          · subst e; exact hm
          · exact h2 v (by omega)⟩
      · exact .inr ⟨j, by omega, hm, by simp [owTo, h1, hm]⟩
    · refine .inr ⟨v, by omega, h1, ?_⟩
      have h3 := h v (by omega)
      have h4 : ¬ owTo xs F w j < 0 := by rw [h2]; omega
      rw [owTo, if_neg (fun q => h4 q.1), h2]

def ckS (xs : List Int) : Nat → List Int × Int
  | 0 => ([], 0)
  | k + 1 => if owTo xs (nth (ckS xs k).1) k k < 0 then ((ckS xs k).1 ++ [(ckS xs k).2], (ckS xs k).2 + 1) else ((ckS xs k).1 ++ [owTo xs (nth (ckS xs k).1) k k], (ckS xs k).2)
theorem nth_app_lt {L : List Int} {z : Int} {i : Nat} (h : i < L.length) : nth (L ++ [z]) i = nth L i := by
  simp [nth, List.getElem?_append_left h]
theorem nth_app_at {L : List Int} {z : Int} {i : Nat} (h : i = L.length) : nth (L ++ [z]) i = z := by
  subst h
  simp [nth]
theorem ck_inv {xs : List Int} (hn : xs.length ≤ 30) (hr : Rel xs.length (nth xs)) : ∀ k, k ≤ xs.length → (ckS xs k).1.length = k ∧ 0 ≤ (ckS xs k).2 ∧ (ckS xs k).2 ≤ k ∧ (∀ i, i < k → 0 ≤ nth (ckS xs k).1 i ∧ nth (ckS xs k).1 i < (ckS xs k).2) ∧ (∀ i j, i < k → j < k → (nth (ckS xs k).1 i = nth (ckS xs k).1 j ↔ mu xs i j = true))
  | 0, _ => ⟨rfl, Int.le_refl _, Int.le_refl _, fun i h => by omega, fun i j h => by omega⟩
  | k + 1, hk => by
    obtain ⟨i1, i2, i3, i4, i5⟩ := ck_inv hn hr k (by omega)
    rcases ow_spec (xs := xs) (F := nth (ckS xs k).1) (w := k) k (fun v hv => (i4 v hv).1) with ⟨h1, h2⟩ | ⟨v, hv, h1, h2⟩
    · have e : ckS xs (k + 1) = ((ckS xs k).1 ++ [(ckS xs k).2], (ckS xs k).2 + 1) := by rw [ckS, if_pos (by rw [h1]; decide)]
      rw [e]
      have a1 : ∀ i, i < k → nth ((ckS xs k).1 ++ [(ckS xs k).2]) i = nth (ckS xs k).1 i := fun i hi => nth_app_lt (by omega)
      have a2 : nth ((ckS xs k).1 ++ [(ckS xs k).2]) k = (ckS xs k).2 := nth_app_at i1.symm
      refine ⟨by simp [i1], by simp only; omega, by simp only; push_cast; omega, fun i hi => ?_, fun i j hi hj => ?_⟩
      · by_cases ei : i = k
        · subst ei; simp only [a2]; omega
        · have := i4 i (by omega)
          simp only [a1 i (by omega)]; omega
      · simp only
        by_cases ei : i = k
        · by_cases ej : j = k
          · subst ei ej; exact ⟨fun _ => mu_refl hn hr (by omega), fun _ => rfl⟩
          · subst ei
            rw [a2, a1 j (by omega)]
            have := i4 j (by omega)
            have m := h2 j (by omega)
            exact ⟨fun q => by omega, fun q => by rw [m] at q; cases q⟩
        · by_cases ej : j = k
          · subst ej
            rw [a2, a1 i (by omega)]
            have := i4 i (by omega)
            have m := h2 i (by omega)
            rw [mu_symm] at m
            exact ⟨fun q => by omega, fun q => by rw [m] at q; cases q⟩
          · rw [a1 i (by omega), a1 j (by omega)]
            exact i5 i j (by omega) (by omega)
    · have h3 := i4 v hv
      have e : ckS xs (k + 1) = ((ckS xs k).1 ++ [nth (ckS xs k).1 v], (ckS xs k).2) := by rw [ckS, if_neg (by rw [h2]; omega), h2]
      rw [e]
      have a1 : ∀ i, i < k → nth ((ckS xs k).1 ++ [nth (ckS xs k).1 v]) i = nth (ckS xs k).1 i := fun i hi => nth_app_lt (by omega)
      have a2 : nth ((ckS xs k).1 ++ [nth (ckS xs k).1 v]) k = nth (ckS xs k).1 v := nth_app_at i1.symm
      have kv : ∀ j, j < xs.length → (mu xs k j = true ↔ mu xs v j = true) := fun j hj => by
        have h1' := h1
        rw [mu_symm] at h1'
        exact ⟨fun q => mu_trans hn hr (by omega) (by omega) hj h1' q, fun q => mu_trans hn hr (by omega) (by omega) hj h1 q⟩
      refine ⟨by simp [i1], by simp only; omega, by simp only; push_cast; omega, fun i hi => ?_, fun i j hi hj => ?_⟩
      · by_cases ei : i = k
        · subst ei; simp only [a2]; omega
        · simp only [a1 i (by omega)]; exact i4 i (by omega)
      · simp only
        by_cases ei : i = k
        · by_cases ej : j = k
          · subst ei ej; exact ⟨fun _ => mu_refl hn hr (by omega), fun _ => rfl⟩
          · subst ei
            rw [a2, a1 j (by omega), kv j (by omega)]
            exact i5 v j (by omega) (by omega)
        · by_cases ej : j = k
          · subst ej
            rw [a2, a1 i (by omega), mu_symm, kv i (by omega), mu_symm]
            exact i5 i v (by omega) (by omega)
          · rw [a1 i (by omega), a1 j (by omega)]
            exact i5 i j (by omega) (by omega)
def ckL (xs : List Int) : List Int := (ckS xs xs.length).1
theorem ckL_len {xs : List Int} (hn : xs.length ≤ 30) (hr : Rel xs.length (nth xs)) : (ckL xs).length = xs.length := (ck_inv hn hr xs.length (Nat.le_refl _)).1
theorem ck_up {xs : List Int} (hn : xs.length ≤ 30) (hr : Rel xs.length (nth xs)) {w v : Nat} (hw : w < xs.length) (hv : v < xs.length) : up xs w v = (!(nth (ckL xs) v == nth (ckL xs) w) && T (nth (rcL xs) w) v) := by
  have h := (ck_inv hn hr xs.length (Nat.le_refl _)).2.2.2.2 v w hv hw
  have e : (nth (ckL xs) v == nth (ckL xs) w) = mu xs v w := by
    rw [Bool.eq_iff_iff, beq_iff_eq]
    exact h
  rw [e]
  unfold up mu
  cases T (nth (rcL xs) w) v <;> cases T (nth (rcL xs) v) w <;> rfl

end Go.Proofs.Ytckilaeolkgnkaa
