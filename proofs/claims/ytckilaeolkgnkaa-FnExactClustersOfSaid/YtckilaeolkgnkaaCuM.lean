/- Clusters as the program numbers them: the least world of a cluster tells its number. No program text. -/
import Derived.Test.YtckilaeolkgnkaaCkM
import Derived.Test.YtckilaeolkgnkaaFlQ
import Derived.Shelf.Spec.TrailingZeros
namespace Go.Proofs.Ytckilaeolkgnkaa
open Go.RowKit

/-- The masks of the worlds of the clusters. -/
def cuL (xs : List Int) : List Int := opL .and (rcL xs) (tab xs.length (fun t => ivTo (rcL xs) t xs.length)) xs.length
theorem cuL_len (xs : List Int) : (cuL xs).length = xs.length := opL_len _ _ _ _
theorem cu_T {xs : List Int} (hn : xs.length ≤ 30) (hr : Rel xs.length (nth xs)) {k : Nat} (hk : k < xs.length) : InMk xs.length (nth (cuL xs) k) ∧ ∀ v, v < xs.length → T (nth (cuL xs) k) v = mu xs k v := by
  obtain ⟨c1, -⟩ := rc_T hn hr
  obtain ⟨i1, i2⟩ := ivTo_T hn c1 k xs.length (Nat.le_refl _)
  have e : nth (cuL xs) k = bits .and .i64 (nth (rcL xs) k) (ivTo (rcL xs) k xs.length) := by rw [cuL, opL_nth _ _ _ _ _ hk, tab_nth _ _ _ hk]
  rw [e]
  refine ⟨InMk.and hn (c1 k) i1, fun v hv => ?_⟩
  rw [T_and hn (c1 k) i1, mu, Bool.eq_iff_iff, Bool.and_eq_true, Bool.and_eq_true, i2 v]
  exact ⟨fun h => ⟨h.1, h.2.2⟩, fun h => ⟨h.1, hv, h.2⟩⟩
theorem ctz_at {x : Nat} (h0 : x ≠ 0) (hx : x < 2 ^ 64) : x.testBit (Lib.ctz 64 x) = true ∧ ∀ i, i < Lib.ctz 64 x → x.testBit i = false := by
  obtain ⟨m, hm, hc⟩ := Lib.ctzFrom_spec 64 x (Nat.pos_of_ne_zero h0) hx
  have e : Lib.ctz 64 x = Lib.ctzFrom 64 x := if_neg h0
  rw [e]
  generalize Lib.ctzFrom 64 x = c at hm hc
  constructor
  · rw [hm, Nat.mul_comm, Nat.testBit_mul_two_pow]
    simp [Nat.testBit_zero]
  · intro i hi
    rw [hm, Nat.mul_comm, Nat.testBit_mul_two_pow]
    simp; omega
/-- The least world of the cluster of k. -/
def leC (xs : List Int) (k : Nat) : Nat := Lib.ctz 64 (nth (cuL xs) k).toNat
theorem leC_spec {xs : List Int} (hn : xs.length ≤ 30) (hr : Rel xs.length (nth xs)) {k : Nat} (hk : k < xs.length) : (nth (cuL xs) k).toNat ≠ 0 ∧ leC xs k ≤ k ∧ mu xs k (leC xs k) = true ∧ ∀ v, v < leC xs k → mu xs k v = false := by
  obtain ⟨c1, c2⟩ := cu_T hn hr hk
  have hkk : (nth (cuL xs) k).toNat.testBit k = true := (c2 k hk).trans (mu_refl hn hr hk)
  have h0 : (nth (cuL xs) k).toNat ≠ 0 := fun e => by rw [e] at hkk; simp at hkk
  have hlt : (nth (cuL xs) k).toNat < 2 ^ 64 := Nat.lt_of_lt_of_le c1.nat (Nat.pow_le_pow_right (by decide) (by omega))
  obtain ⟨a, b⟩ := ctz_at h0 hlt
  have hle : leC xs k ≤ k := by
    by_cases h : k < leC xs k
    · have := b k h; rw [hkk] at this; cases this
    · omega
  refine ⟨h0, hle, ?_, fun v hv => ?_⟩
  · rw [← c2 _ (by omega)]; exact a
  · rw [← c2 _ (by omega)]; exact b v hv
theorem ck_low {xs : List Int} (hn : xs.length ≤ 30) (hr : Rel xs.length (nth xs)) {k : Nat} (hk : k < xs.length) (h : leC xs k < k) : ckS xs (k + 1) = ((ckS xs k).1 ++ [nth (ckS xs k).1 (leC xs k)], (ckS xs k).2) := by
  obtain ⟨-, -, h2, -⟩ := leC_spec hn hr hk
  obtain ⟨i1, i2, i3, i4, i5⟩ := ck_inv hn hr k (by omega)
  rcases ow_spec (xs := xs) (F := nth (ckS xs k).1) (w := k) k (fun v hv => (i4 v hv).1) with ⟨g1, g2⟩ | ⟨v, hv, g1, g2⟩
  · have := g2 _ h; rw [h2] at this; cases this
  · have e : nth (ckS xs k).1 v = nth (ckS xs k).1 (leC xs k) := (i5 v _ hv h).2 (by
      rw [mu_symm] at g1
      exact mu_trans hn hr (by omega) hk (by omega) g1 h2)
    rw [ckS, if_neg (by rw [g2]; have := (i4 v hv).1; omega), g2, e]
theorem ck_new {xs : List Int} (hn : xs.length ≤ 30) (hr : Rel xs.length (nth xs)) {k : Nat} (hk : k < xs.length) (h : ¬ leC xs k < k) : ckS xs (k + 1) = ((ckS xs k).1 ++ [(ckS xs k).2], (ckS xs k).2 + 1) := by
  obtain ⟨-, h1, -, h3⟩ := leC_spec hn hr hk
  obtain ⟨i1, i2, i3, i4, i5⟩ := ck_inv hn hr k (by omega)
  rcases ow_spec (xs := xs) (F := nth (ckS xs k).1) (w := k) k (fun v hv => (i4 v hv).1) with ⟨g1, g2⟩ | ⟨v, hv, g1, g2⟩
  · rw [ckS, if_pos (by rw [g1]; decide)]
  · have := h3 v (by omega); rw [g1] at this; cases this

/-- The row under way: the numbers below k. -/
def cuS (xs : List Int) (k t : Nat) : Int := if t < k then nth (ckS xs k).1 t else 0
theorem cuS_start (xs : List Int) (t : Nat) : cuS xs 0 t = 0 := by unfold cuS; rw [if_neg (by omega)]
theorem cuS_set {xs : List Int} (hn : xs.length ≤ 30) (hr : Rel xs.length (nth xs)) {k : Nat} (hk : k < xs.length) {z c : Int} (h : ckS xs (k + 1) = ((ckS xs k).1 ++ [z], c)) (t : Nat) : (if t = k then z else cuS xs k t) = cuS xs (k + 1) t := by
  obtain ⟨i1, -⟩ := ck_inv hn hr k (by omega)
  unfold cuS
  rw [h]
  by_cases e : t = k
  · subst e; rw [if_pos rfl, if_pos (by omega)]; exact (nth_app_at i1.symm).symm
  · rw [if_neg e]
    by_cases h2 : t < k
    · rw [if_pos h2, if_pos (by omega)]; exact (nth_app_lt (by omega)).symm
    · rw [if_neg h2, if_neg (by omega)]
theorem cuS_all {xs : List Int} {t : Nat} (h : t < xs.length) : cuS xs xs.length t = nth (ckL xs) t := by unfold cuS; rw [if_pos h]; rfl
theorem tab_ck {xs : List Int} (hn : xs.length ≤ 30) (hr : Rel xs.length (nth xs)) : tab xs.length (fun t => nth (ckL xs) t) = ckL xs := by
  have hl := ckL_len hn hr
  apply List.ext_getElem?
  intro i
  by_cases hi : i < xs.length
  · have h := tab_nth xs.length (fun t => nth (ckL xs) t) i hi
    rw [List.getElem?_eq_getElem (by rw [tab_len]; exact hi), List.getElem?_eq_getElem (by rw [hl]; exact hi)]
    have e1 : nth (tab xs.length fun t => nth (ckL xs) t) i = (tab xs.length fun t => nth (ckL xs) t)[i]'(by rw [tab_len]; exact hi) := by
      unfold nth; rw [List.getD_eq_getElem?_getD, List.getElem?_eq_getElem (by rw [tab_len]; exact hi)]; rfl
    have e2 : nth (ckL xs) i = (ckL xs)[i]'(by rw [hl]; exact hi) := by
      unfold nth; rw [List.getD_eq_getElem?_getD, List.getElem?_eq_getElem (by rw [hl]; exact hi)]; rfl
    rw [← e1, ← e2, h]
  · rw [List.getElem?_eq_none (by rw [tab_len]; omega), List.getElem?_eq_none (by rw [hl]; omega)]

end Go.Proofs.Ytckilaeolkgnkaa
