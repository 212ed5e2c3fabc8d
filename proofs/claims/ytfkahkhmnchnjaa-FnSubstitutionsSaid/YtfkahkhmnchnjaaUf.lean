/- Unification of formulas, step by step: where two formulas first differ, what is bound, and that the variables get fewer. No conditions but those in the theorems. -/
import Derived.Test.YtfkahkhmnchnjaaThen
import Derived.Test.YtfkahkhmnchnjaaMt
namespace Go.Proofs.Ytfkahkhmnchnjaa

/-- A formula's image under a substitution. -/
def Fm.sub (s : Int → Fm) : Fm → Fm
  | .va v => s v
  | .fa => .fa
  | .bi k a b => .bi k (a.sub s) (b.sub s)
  | .un k a => .un k (a.sub s)
theorem Fm.sub_ok {s : Int → Fm} (hs : ∀ v, 0 ≤ v → v < 6 → (s v).ok) : ∀ f : Fm, f.ok → (f.sub s).ok := by
  intro f
  induction f with
  | va v => intro h; exact hs v h.1 h.2
  | fa => intro _; trivial
  | bi k a b iha ihb => intro h; exact ⟨h.1, iha h.2.1, ihb h.2.2⟩
  | un k a ih => intro h; exact ⟨h.1, ih h.2⟩
def flat (s : Int → List Nd) (xs : List Nd) : List Nd := xs.flatMap fun n => if n.1 = 0 then s n.2 else [n]
theorem take_succ_nd {xs : List Nd} {k : Nat} (h : k < xs.length) : xs.take (k + 1) = xs.take k ++ [(kd xs k, sy xs k)] := by
  rw [List.take_succ_eq_append_getElem h]
  congr 2
  simp [kd, sy, List.getD_eq_getElem?_getD, h]
theorem subTo_flat (s : Int → List Nd) (xs : List Nd) : ∀ k, k ≤ xs.length → subTo s xs k = flat s (xs.take k) := by
  intro k
  induction k with
  | zero => intro _; rfl
  | succ k ih =>
    intro hk
    rw [subTo, ih (by omega), take_succ_nd (by omega), flat, flat, List.flatMap_append]
    congr 1
    simp
theorem sub_flat (s : Int → List Nd) (xs : List Nd) : subTo s xs xs.length = flat s xs := by
  rw [subTo_flat s xs _ (Nat.le_refl _), List.take_length]
theorem flat_enc {s : Int → List Nd} {t : Int → Fm} (f : Fm) (hf : f.ok) (h : ∀ v, 0 ≤ v → v < 6 → s v = (t v).enc) : flat s f.enc = (f.sub t).enc := by
  induction f with
  | va v =>
    show (if (0 : Int) = 0 then s v else [(0, v)]) ++ [] = _
    rw [if_pos rfl, h v hf.1 hf.2, List.append_nil]; rfl
  | fa => rfl
  | un k a ih =>
    show (if k = 0 then s 0 else [(k, 0)]) ++ flat s a.enc = _
    rw [if_neg (by have := hf.1; omega), ih hf.2]; rfl
  | bi k a b iha ihb =>
    show (if k = 0 then s 0 else [(k, 0)]) ++ flat s (a.enc ++ b.enc) = _
    rw [if_neg (by have := hf.1; omega)]
    have e : flat s (a.enc ++ b.enc) = flat s a.enc ++ flat s b.enc := by simp [flat]
    rw [e, iha hf.2.1, ihb hf.2.2]; rfl

/-- The images s are formulas. -/
def sOK (s : Int → List Nd) : Prop := ∀ q : Nat, q ≤ 5 → isB (s q) (s q).length = true
theorem sOK_len {s : Int → List Nd} (h : sOK s) : ∀ q : Nat, q ≤ 5 → 0 < (s q).length ∧ (s q).length ≤ 40 := fun q hq => is_pos' (h q hq)
theorem sOK_fm {s : Int → List Nd} (h : sOK s) : ∀ v : Int, 0 ≤ v → v < 6 → s v = (toFm (s v)).enc ∧ (toFm (s v)).ok := by
  intro v h0 h6
  obtain ⟨q, rfl⟩ := Int.eq_ofNat_of_zero_le h0
  obtain ⟨g1, g2, -⟩ := toFm_of (h q (by omega))
  exact ⟨g2, g1⟩
theorem sub_is {s : Int → List Nd} {xs : List Nd} (h : sOK s) (hx : isB xs xs.length = true) (hl : (subTo s xs xs.length).length ≤ 40) : isB (subTo s xs xs.length) (subTo s xs xs.length).length = true := by
  obtain ⟨g1, g2, -⟩ := toFm_of hx
  have e : subTo s xs xs.length = ((toFm xs).sub (fun v => toFm (s v))).enc := by
    rw [sub_flat]
    conv => lhs; rw [g2]
    exact flat_enc _ g1 (fun v h0 h6 => (sOK_fm h v h0 h6).1)
  rw [e] at hl ⊢
  rw [Fm.enc_len] at hl
  exact fm_is _ (Fm.sub_ok (fun v h0 h6 => (sOK_fm h v h0 h6).2) _ g1) hl
theorem sOK_B {x : Int} {bs : List Nd} (h : isB bs bs.length = true) : sOK (sgB x bs) := by
  intro q hq
  rw [sgB]
  split
  · exact h
  · exact fm_is (.va q) ⟨by omega, by omega⟩ (by show 1 ≤ 40; omega)

/-- How many nodes two lists have in common at their heads. -/
def cp : List Nd → List Nd → Nat
  | x :: xs, y :: ys => if x = y then cp xs ys + 1 else 0
  | _, _ => 0
theorem cp_le (xs ys : List Nd) : cp xs ys ≤ xs.length ∧ cp xs ys ≤ ys.length := by
  induction xs generalizing ys with
  | nil => simp [cp]
  | cons x xs ih =>
    cases ys with
    | nil => simp [cp]
    | cons y ys =>
      rw [cp]
      have := ih ys
      split
      · simp; omega
      · simp
theorem cp_self (xs : List Nd) : cp xs xs = xs.length := by
  induction xs with
  | nil => rfl
  | cons x xs ih => rw [cp, if_pos rfl, ih]; rfl
theorem kd_cons0 (x : Nd) (xs : List Nd) : kd (x :: xs) 0 = x.1 ∧ sy (x :: xs) 0 = x.2 := ⟨rfl, rfl⟩
theorem kd_cons1 (x : Nd) (xs : List Nd) (j : Nat) : kd (x :: xs) (j + 1) = kd xs j ∧ sy (x :: xs) (j + 1) = sy xs j := ⟨rfl, rfl⟩
theorem cp_same (xs ys : List Nd) : ∀ j, j < cp xs ys → kd xs j = kd ys j ∧ sy xs j = sy ys j := by
  induction xs generalizing ys with
  | nil => intro j h; simp [cp] at h
  | cons x xs ih =>
    intro j h
    cases ys with
    | nil => simp [cp] at h
    | cons y ys =>
      rw [cp] at h
      split at h
      · rename_i e
        subst e
        cases j with
        | zero => exact ⟨rfl, rfl⟩
        | succ j => exact ih ys j (by omega)
      · omega
theorem cp_diff (xs ys : List Nd) (h1 : cp xs ys < xs.length) (h2 : cp xs ys < ys.length) : ¬ (kd xs (cp xs ys) = kd ys (cp xs ys) ∧ sy xs (cp xs ys) = sy ys (cp xs ys)) := by
  induction xs generalizing ys with
  | nil => simp at h1
  | cons x xs ih =>
    cases ys with
    | nil => simp at h2
    | cons y ys =>
      rw [cp] at h1 h2 ⊢
      split at h1
      · rename_i e
        subst e
        rw [if_pos rfl] at h2 ⊢
        exact ih ys (by simpa using h1) (by simpa using h2)
      · rename_i e
        rw [if_neg e]
        intro h
        exact e (Prod.ext h.1 h.2)
theorem cp_pre (xs ys : List Nd) (h : cp xs ys = xs.length) : ∃ r, ys = xs ++ r := by
  induction xs generalizing ys with
  | nil => exact ⟨ys, rfl⟩
  | cons x xs ih =>
    cases ys with
    | nil => simp [cp] at h
    | cons y ys =>
      rw [cp] at h
      split at h
      · rename_i e
        subst e
        obtain ⟨r, hr⟩ := ih ys (by simpa using h)
        exact ⟨r, by rw [hr]; rfl⟩
      · simp at h
theorem cp_comm (xs ys : List Nd) : cp xs ys = cp ys xs := by
  induction xs generalizing ys with
  | nil => cases ys <;> rfl
  | cons x xs ih =>
    cases ys with
    | nil => rfl
    | cons y ys =>
      rw [cp, cp, ih ys]
      by_cases e : x = y
      · rw [if_pos e, if_pos e.symm]
      · rw [if_neg e, if_neg (fun h => e h.symm)]
theorem cp_lt {xs ys : List Nd} (hx : isB xs xs.length = true) (hy : isB ys ys.length = true) (hne : xs ≠ ys) : cp xs ys < xs.length ∧ cp xs ys < ys.length := by
  obtain ⟨f1, f2, -⟩ := toFm_of hx
  obtain ⟨g1, g2, -⟩ := toFm_of hy
  have hle := cp_le xs ys
  constructor
  · rcases Nat.lt_or_ge (cp xs ys) xs.length with h | h
    · exact h
    · obtain ⟨r, hr⟩ := cp_pre xs ys (by omega)
      have e : (toFm xs).enc ++ r = (toFm ys).enc ++ [] := by rw [← f2, ← g2, List.append_nil]; exact hr.symm
      exact absurd (by rw [f2, g2, (enc_inj _ f1 _ _ _ g1 e).1]) hne
  · rcases Nat.lt_or_ge (cp xs ys) ys.length with h | h
    · exact h
    · obtain ⟨r, hr⟩ := cp_pre ys xs (by rw [cp_comm]; omega)
      have e : (toFm ys).enc ++ r = (toFm xs).enc ++ [] := by rw [← f2, ← g2, List.append_nil]; exact hr.symm
      exact absurd (by rw [f2, g2, (enc_inj _ g1 _ _ _ f1 e).1]) hne

end Go.Proofs.Ytfkahkhmnchnjaa
