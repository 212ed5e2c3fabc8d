/- Entailment of plain formulas, by rows and by words (mathematics). No conditions but those in the theorems. -/
import Derived.Test.YtfpnmeacnhcakaaDoorCk
import Derived.Test.YtfpnmeacnhcakaaDoorBw
import Derived.Test.YtfpnmeacnhcakaaDoorSh
namespace Go.Proofs.YtfpnmeacnhcakaaDoor
open Go.RowKit

/-- The first n formulas are true in the row r. -/
noncomputable def alTo (xss : List (List Nd)) (r : Nat) : Nat → Bool
  | 0 => true
  | j + 1 => alTo xss r j && (toFm (nthL xss j)).ev r
/-- In the first r rows f is true where the formulas are. -/
noncomputable def enTo (xss : List (List Nd)) (f : Fm) : Nat → Bool
  | 0 => true
  | r + 1 => enTo xss f r && (!alTo xss r xss.length || f.ev r)
theorem alTo_false {xss : List (List Nd)} {r k l : Nat} (hk : k ≤ l) (h : alTo xss r k = false) : alTo xss r l = false := by
  induction l with
  | zero => simp at hk; subst hk; exact h
  | succ l ih =>
    by_cases e : k = l + 1
    · subst e; exact h
    · rw [alTo, ih (by omega)]; rfl
theorem enTo_false {xss : List (List Nd)} {f : Fm} {k l : Nat} (hk : k ≤ l) (h : enTo xss f k = false) : enTo xss f l = false := by
  induction l with
  | zero => simp at hk; subst hk; exact h
  | succ l ih =>
    by_cases e : k = l + 1
    · subst e; exact h
    · rw [enTo, ih (by omega)]; rfl
theorem alTo_next {xss : List (List Nd)} {r j : Nat} (h : alTo xss r j = true) : alTo xss r (j + 1) = (toFm (nthL xss j)).ev r := by rw [alTo, h]; rfl
theorem enTo_skip {xss : List (List Nd)} {f : Fm} {r : Nat} (h : enTo xss f r = true) (h2 : alTo xss r xss.length = false) : enTo xss f (r + 1) = true := by rw [enTo, h, h2]; rfl
theorem enTo_yes {xss : List (List Nd)} {f : Fm} {r : Nat} (h : enTo xss f r = true) (h2 : f.ev r = true) : enTo xss f (r + 1) = true := by rw [enTo, h, h2]; simp
theorem enTo_no {xss : List (List Nd)} {f : Fm} {r n : Nat} (hr : r < n) (h1 : alTo xss r xss.length = true) (h2 : f.ev r = false) : enTo xss f n = false := enTo_false (k := r + 1) hr (by rw [enTo, h1, h2]; simp)
theorem enTo_iff (xss : List (List Nd)) (f : Fm) (n : Nat) : enTo xss f n = true ↔ ∀ r, r < n → alTo xss r xss.length = true → f.ev r = true := by
  induction n with
  | zero => simp [enTo]
  | succ n ih =>
    rw [enTo, Bool.and_eq_true, ih]
    constructor
    · rintro ⟨h1, h2⟩ r hr ha
      by_cases e : r = n
      · subst e; rw [ha] at h2; simpa using h2
      · exact h1 r (by omega) ha
    · intro h
      refine ⟨fun r hr => h r (by omega), ?_⟩
      cases e : alTo xss n xss.length
      · rfl
      · rw [h n (by omega) e]; rfl
/-- The error of the formulas. -/
def ckE (xss : List (List Nd)) (xs : List Nd) : Int := ckA (xss ++ [xs]) (xss.length + 1)
noncomputable def enV (xss : List (List Nd)) (xs : List Nd) : Bool := if ckE xss xs = 0 then enTo xss (toFm xs) 64 else false
theorem enV_bad {xss : List (List Nd)} {xs : List Nd} (h : ckE xss xs ≠ 0) : enV xss xs = false := if_neg h
theorem enV_good {xss : List (List Nd)} {xs : List Nd} (h : ckE xss xs = 0) : enV xss xs = enTo xss (toFm xs) 64 := if_pos h
theorem ckA_zero {xss : List (List Nd)} {n : Nat} (h : ckA xss n = 0) : okAll xss n = true ∧ plAll xss n = true := by
  unfold ckA at h
  split at h
  · split at h
    · exact ⟨by assumption, by assumption⟩
    · cases h
  · cases h
theorem ck_of {xs : List Nd} (h1 : isB xs xs.length = true) (h2 : plTo xs xs.length = true) : ck xs = 0 := by rw [ck, h1, h2]; rfl
theorem ckE_good {xss : List (List Nd)} {xs : List Nd} (h : ckE xss xs = 0) : (∀ j, j < xss.length → ck (nthL xss j) = 0) ∧ ck xs = 0 := by
  obtain ⟨h1, h2⟩ := ckA_zero h
  have e1 : nthL (xss ++ [xs]) xss.length = xs := by rw [nthL_app, if_neg (Nat.lt_irrefl _), if_pos rfl]
  refine ⟨fun j hj => ?_, ?_⟩
  · have e : nthL (xss ++ [xs]) j = nthL xss j := by rw [nthL_app, if_pos hj]
    have a1 := okAll_at h1 (show j < xss.length + 1 by omega)
    have a2 := plAll_at h2 (show j < xss.length + 1 by omega)
    rw [e] at a1 a2
    exact ck_of a1 a2
  · have a1 := okAll_at h1 (Nat.lt_succ_self _)
    have a2 := plAll_at h2 (Nat.lt_succ_self _)
    rw [e1] at a1 a2
    exact ck_of a1 a2
theorem app_len {xss : List (List Nd)} {xs : List Nd} (h : ∀ j, j < xss.length → (nthL xss j).length ≤ 1048576) (h' : xs.length ≤ 1048576) : ∀ j, j < xss.length + 1 → (nthL (xss ++ [xs]) j).length ≤ 1048576 := by
  intro j hj
  rw [nthL_app]
  split
  · exact h j (by assumption)
  · split
    · exact h'
    · exact Nat.zero_le _
/-- The rows in which the first n formulas are true. -/
noncomputable def cmTo (xss : List (List Nd)) : Nat → BitVec 64
  | 0 => BitVec.allOnes 64
  | j + 1 => cmTo xss j &&& (toFm (nthL xss j)).mw
theorem ck_ok {xs : List Nd} (h : ck xs = 0) : (toFm xs).ok := (toFm_of (ck_good h).1).1
theorem cmTo_row {xss : List (List Nd)} {n r : Nat} (hg : ∀ j, j < n → ck (nthL xss j) = 0) (hr : r < 64) : (cmTo xss n).getLsbD r = alTo xss r n := by
  induction n with
  | zero => rw [cmTo, alTo, BitVec.getLsbD_allOnes]; simp [hr]
  | succ n ih => rw [cmTo, alTo, BitVec.getLsbD_and, ih (fun j hj => hg j (by omega)), Fm.mw_row _ (ck_ok (hg n (by omega))) r hr]
theorem en_word {xss : List (List Nd)} {f : Fm} (hg : ∀ j, j < xss.length → ck (nthL xss j) = 0) (hf : f.ok) : (U (cmTo xss xss.length &&& ~~~f.mw) == 0) = enTo xss f 64 := by
  rw [U_zero, U_beq, Bool.eq_iff_iff, beq_iff_eq, enTo_iff]
  constructor
  · intro h r hr ha
    have := congrArg (fun b => BitVec.getLsbD b r) h
    simp only [BitVec.getLsbD_and, BitVec.getLsbD_not, cmTo_row hg hr, ha, Fm.mw_row f hf r hr] at this
    simpa [hr] using this
  · intro h
    refine word_ext fun r hr => ?_
    rw [BitVec.getLsbD_and, BitVec.getLsbD_not, cmTo_row hg hr, Fm.mw_row f hf r hr]
    cases e : alTo xss r xss.length
    · simp
    · rw [h r hr e]; simp

end Go.Proofs.YtfpnmeacnhcakaaDoor
