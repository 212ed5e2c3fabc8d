/- What the law FnClusters asks of clusters, depths, roots and reach. Plain mathematics. -/
import Derived.Test.YtckilaeolkgnkaaCkM
import Derived.Test.YtckilaeolkgnkaaDptI
namespace Go.Proofs.Ytckilaeolkgnkaa
open Go.RowKit

theorem mxF_ge {g : Nat → Int} {p : Nat → Bool} {n k : Nat} (hk : k < n) (hp : p k = true) : g k ≤ mxF g p n := by
  induction n with
  | zero => omega
  | succ n ih =>
    rw [mxF]
    by_cases e : k = n
    · subst e; rw [if_pos hp]; omega
    · have := ih (by omega)
      split <;> omega
theorem mxF_congrP {g : Nat → Int} {p q : Nat → Bool} {n : Nat} (h : ∀ k, k < n → p k = q k) : mxF g p n = mxF g q n := by
  induction n with
  | zero => rfl
  | succ n ih => rw [mxF, mxF, ih fun k hk => h k (by omega), h n (by omega)]
theorem dp_up {xs : List Int} (hn : xs.length ≤ 30) (hr : Rel xs.length (nth xs)) {w v : Nat} (hw : w < xs.length) (hv : v < xs.length) (h : up xs w v = true) : dp xs v < dp xs w := by
  rw [dp_eq hn hr hw]
  have := mxF_ge (g := dp xs) hv h
  omega
theorem dp_mu {xs : List Int} (hn : xs.length ≤ 30) (hr : Rel xs.length (nth xs)) {w v : Nat} (hw : w < xs.length) (hv : v < xs.length) (h : mu xs w v = true) : dp xs w = dp xs v := by
  rw [dp_eq hn hr hw, dp_eq hn hr hv]
  obtain ⟨h1, h2⟩ := (mu_iff hn hr hw hv).1 h
  rw [mxF_congrP (q := up xs v) fun k hk => ?_]
  rw [Bool.eq_iff_iff, up_iff hn hr hw hk, up_iff hn hr hv hk]
  exact ⟨fun ⟨a, b⟩ => ⟨Rch_trans hw h2 a, fun c => b (Rch_trans hv c h2)⟩, fun ⟨a, b⟩ => ⟨Rch_trans hv h1 a, fun c => b (Rch_trans hw c h1)⟩⟩
theorem rt_T {xs : List Int} (hn : xs.length ≤ 30) (k : Nat) (hk : k ≤ xs.length) : InMk xs.length (rtTo xs k) ∧ ∀ i, T (rtTo xs k) i = true ↔ i < k ∧ nth (rcL xs) i = full xs.length := by
  induction k with
  | zero => exact ⟨InMk.zero _, fun i => by simp [rtTo, T_zero]⟩
  | succ k ih =>
    obtain ⟨h1, h2⟩ := ih (by omega)
    rw [rtTo]
    by_cases h : nth (rcL xs) k = full xs.length
    · rw [if_pos h]
      have ho := InMk.one hn (show k < xs.length by omega)
      refine ⟨h1.or hn ho, fun i => ?_⟩
      rw [T_or hn h1 ho, Bool.or_eq_true, h2 i, T_one (by omega), decide_eq_true_eq]
      constructor
      · rintro (⟨a, b⟩ | rfl)
        · exact ⟨by omega, b⟩
        · exact ⟨by omega, h⟩
      · rintro ⟨a, b⟩
        by_cases e : i = k
        · exact .inr e.symm
        · exact .inl ⟨by omega, b⟩
    · rw [if_neg h]
      refine ⟨h1, fun i => (h2 i).trans ⟨fun ⟨a, b⟩ => ⟨by omega, b⟩, fun ⟨a, b⟩ => ⟨?_, b⟩⟩⟩
      by_cases e : i = k
      · subst e; exact absurd b h
      · omega

theorem clu_all {n : Int} {xs : List Int} (h : frB n xs = true) :
    n = xs.length ∧ xs.length ≤ 8 ∧ (∀ w, w < xs.length → gwV n xs (one w) = nth (rcL xs) w ∧ cwV n xs (one w) = 0) ∧
    (∀ w, w < xs.length → bitB (rtTo xs xs.length) w = decide (nth (rcL xs) w = full xs.length)) ∧
    (∀ w v, w < xs.length → v < xs.length → (nth (ckL xs) w == nth (ckL xs) v) = (bitB (nth (rcL xs) w) v && bitB (nth (rcL xs) v) w)) ∧
    (∀ w v, w < xs.length → v < xs.length → bitB (nth (rcL xs) w) v = true → bitB (nth (rcL xs) v) w = false → dp xs v < dp xs w) ∧
    (∀ w v, w < xs.length → v < xs.length → bitB (nth (rcL xs) w) v = true → bitB (nth (rcL xs) v) w = true → dp xs w = dp xs v) ∧ Rel xs.length (nth (rcL xs)) := by
  obtain ⟨hN, h8, -, hr⟩ := frB_ok h
  have hn : xs.length ≤ 30 := by omega
  obtain ⟨r1, -⟩ := rc_T hn hr
  have hb : ∀ w v : Nat, bitB (nth (rcL xs) w) v = T (nth (rcL xs) w) v := fun w v => bitB_T ((r1 w).bd hn) v
  refine ⟨hN, h8, fun w hw => ?_, fun w hw => ?_, fun w v hw hv => ?_, fun w v hw hv h1 h2 => ?_, fun w v hw hv h1 h2 => ?_, r1⟩
  · have hc : cwV n xs (one w) = 0 := by
      have := cw_of (n := n) (m := one w) (b := true) h (by rw [hN]; exact (mskB_InN hn _).2 (InMk.one hn hw))
      rw [this]; rfl
    exact ⟨by rw [gwV, if_pos hc, rchV_one hn hr hw], hc⟩
  · obtain ⟨t1, t2⟩ := rt_T hn xs.length (Nat.le_refl _)
    rw [bitB_T (t1.bd hn), Bool.eq_iff_iff, t2 w, decide_eq_true_eq]
    exact ⟨fun x => x.2, fun x => ⟨hw, x⟩⟩
  · have := (ck_inv hn hr xs.length (Nat.le_refl _)).2.2.2.2 w v hw hv
    rw [hb, hb, Bool.eq_iff_iff, beq_iff_eq]
    exact this
  · rw [hb] at h1 h2
    exact dp_up hn hr hw hv (by unfold up; rw [h1, h2]; rfl)
  · rw [hb] at h1 h2
    exact dp_mu hn hr hw hv (by unfold mu; rw [h1, h2]; rfl)

end Go.Proofs.Ytckilaeolkgnkaa
