/- Clusters as the program numbers them: the masks of their worlds, numbered in the order of their first worlds. No program text. -/
import Derived.Test.YtckilaeolkgnkaaCuM
import Derived.Test.YtckilaeolkgnkaaNuM
namespace Go.Proofs.Ytckilaeolkgnkaa
open Go.RowKit

def cuF (xs : List Int) (j : Nat) : Lit := .int .i64 (nth (cuL xs) j)
theorem cu_eq {xs : List Int} (hn : xs.length ≤ 30) (hr : Rel xs.length (nth xs)) {j k : Nat} (hj : j < xs.length) (hk : k < xs.length) : cuF xs j = cuF xs k ↔ mu xs j k = true := by
  obtain ⟨a1, a2⟩ := cu_T hn hr hj
  obtain ⟨b1, b2⟩ := cu_T hn hr hk
  constructor
  · intro h
    have e : nth (cuL xs) j = nth (cuL xs) k := by
      unfold cuF at h
      injection h
    rw [← a2 k hk, e, b2 k hk]
    exact mu_refl hn hr hk
  · intro h
    have e : nth (cuL xs) j = nth (cuL xs) k := by
      refine T_ext a1 b1 fun v => ?_
      by_cases hv : v < xs.length
      · rw [a2 v hv, b2 v hv, Bool.eq_iff_iff]
        constructor
        · intro q
          rw [mu_symm] at h
          exact mu_trans hn hr hk hj hv h q
        · intro q
          exact mu_trans hn hr hj hk hv h q
      · rw [T_high a1 (by omega), T_high b1 (by omega)]
    unfold cuF
    rw [e]
theorem cu_st {xs : List Int} (hn : xs.length ≤ 30) (hr : Rel xs.length (nth xs)) : ∀ k, k ≤ xs.length → ((stF (cuF xs) k).1 : Int) = (ckS xs k).2 ∧ ∀ t, t < k → nth (ckS xs k).1 t = (numF (cuF xs) t : Nat)
  | 0, _ => ⟨rfl, fun t h => absurd h (by omega)⟩
  | k + 1, hk => by
    obtain ⟨h1, h2⟩ := cu_st hn hr k (by omega)
    obtain ⟨i1, -⟩ := ck_inv hn hr k (by omega)
    obtain ⟨-, g1, g2, g3⟩ := leC_spec hn hr (show k < xs.length by omega)
    by_cases hl : leC xs k < k
    · rw [ck_low hn hr (by omega) hl]
      have e : cuF xs (leC xs k) = cuF xs k := (cu_eq hn hr (by omega) (by omega)).2 (by rw [mu_symm]; exact g2)
      have hs : (stF (cuF xs) k).2 (cuF xs k) ≠ none := fun q => (st_new_iff k).1 q _ hl e
      cases hq : (stF (cuF xs) k).2 (cuF xs k) with
      | none => exact absurd hq hs
      | some i =>
        refine ⟨by rw [(st_old hq).1]; exact h1, fun t ht => ?_⟩
        by_cases e2 : t = k
        · subst e2
          rw [nth_app_at i1.symm, h2 _ hl, (num_iff _ _).2 e]
        · rw [nth_app_lt (by omega)]; exact h2 t (by omega)
    · rw [ck_new hn hr (by omega) hl]
      have hq : (stF (cuF xs) k).2 (cuF xs k) = none := (st_new_iff k).2 fun y hy q => by
        have := (cu_eq hn hr (by omega) (by omega)).1 q
        rw [mu_symm] at this
        have h5 := g3 y (by omega)
        rw [this] at h5; cases h5
      obtain ⟨q1, q2⟩ := st_new hq
      refine ⟨by rw [q1]; show (((stF (cuF xs) k).1 + 1 : Nat) : Int) = _; rw [← h1]; omega, fun t ht => ?_⟩
      by_cases e2 : t = k
      · subst e2
        rw [nth_app_at i1.symm, q2, h1]
      · rw [nth_app_lt (by omega)]; exact h2 t (by omega)
theorem cu_num {xs : List Int} (hn : xs.length ≤ 30) (hr : Rel xs.length (nth xs)) : tab xs.length (fun i => (numF (cuF xs) i : Int)) = ckL xs := by
  rw [← tab_ck hn hr]
  unfold tab
  refine List.map_congr_left fun t ht => ?_
  exact ((cu_st hn hr xs.length (Nat.le_refl _)).2 t (List.mem_range.1 ht)).symm

end Go.Proofs.Ytckilaeolkgnkaa
