/- Unification of formulas, step by step: where two formulas first differ, what is bound, and that the variables get fewer. No conditions but those in the theorems. -/
import Derived.Test.YtbhgedabcclimaaThen
import Derived.Test.YtbhgedabcclimaaMt
namespace Go.Proofs.Ytbhgedabcclimaa

/-- A formula's image under a substitution. -/
def Fm.sub (s : Int → Fm) : Fm → Fm
  | .va v => s v
  | .fa => .fa
  | .bi k a b => .bi k (a.sub s) (b.sub s)
  | .un k a => .un k (a.sub s)
theorem Fm.sub_ok {s : Int → Fm} (hs : ∀ v, 0 ≤ v → v < 6 → (s v).ok) : ∀ f : Fm, f.ok → (f.sub s).ok := by
  intro f
  induction f with
  | va v => intro h; exact hs v h.1 h.2
  | fa => intro _; trivial
  | bi k a b iha ihb => intro h; exact ⟨h.1, iha h.2.1, ihb h.2.2⟩
  | un k a ih => intro h; exact ⟨h.1, ih h.2⟩
def flat (s : Int → List Nd) (xs : List Nd) : List Nd := xs.flatMap fun n => if n.1 = 0 then s n.2 else [n]
theorem take_succ_nd {xs : List Nd} {k : Nat} (h : k < xs.length) : xs.take (k + 1) = xs.take k ++ [(kd xs k, sy xs k)] := by
  rw [List.take_succ_eq_append_getElem h]
  congr 2
  simp [kd, sy, List.getD_eq_getElem?_getD, h]
theorem subTo_flat (s : Int → List Nd) (xs : List Nd) : ∀ k, k ≤ xs.length → subTo s xs k = flat s (xs.take k) := by
  intro k
  induction k with
  | zero => intro _; rfl
  | succ k ih =>
    intro hk
    rw [subTo, ih (by omega), take_succ_nd (by omega), flat, flat, List.flatMap_append]
    congr 1
    simp
theorem sub_flat (s : Int → List Nd) (xs : List Nd) : subTo s xs xs.length = flat s xs := by
  rw [subTo_flat s xs _ (Nat.le_refl _), List.take_length]
theorem flat_enc {s : Int → List Nd} {t : Int → Fm} (f : Fm) (hf : f.ok) (h : ∀ v, 0 ≤ v → v < 6 → s v = (t v).enc) : flat s f.enc = (f.sub t).enc := by
  induction f with
  | va v =>
    show (if (0 : Int) = 0 then s v else [(0, v)]) ++ [] = _
    rw [if_pos rfl, h v hf.1 hf.2, List.append_nil]; rfl
  | fa => rfl
  | un k a ih =>
    show (if k = 0 then s 0 else [(k, 0)]) ++ flat s a.enc = _
    rw [if_neg (by have := hf.1; omega), ih hf.2]; rfl
  | bi k a b iha ihb =>
    show (if k = 0 then s 0 else [(k, 0)]) ++ flat s (a.enc ++ b.enc) = _
    rw [if_neg (by have := hf.1; omega)]
    have e : flat s (a.enc ++ b.enc) = flat s a.enc ++ flat s b.enc := by simp [flat]
    rw [e, iha hf.2.1, ihb hf.2.2]; rfl

/-- The images s are formulas. -/
def sOK (s : Int → List Nd) : Prop := ∀ q : Nat, q ≤ 5 → isB (s q) (s q).length = true
theorem sOK_len {s : Int → List Nd} (h : sOK s) : ∀ q : Nat, q ≤ 5 → 0 < (s q).length ∧ (s q).length ≤ 40 := fun q hq => is_pos' (h q hq)
theorem sOK_fm {s : Int → List Nd} (h : sOK s) : ∀ v : Int, 0 ≤ v → v < 6 → s v = (toFm (s v)).enc ∧ (toFm (s v)).ok := by
  intro v h0 h6
  obtain ⟨q, rfl⟩ := Int.eq_ofNat_of_zero_le h0
  obtain ⟨g1, g2, -⟩ := toFm_of (h q (by omega))
  exact ⟨g2, g1⟩
theorem sub_is {s : Int → List Nd} {xs : List Nd} (h : sOK s) (hx : isB xs xs.length = true) (hl : (subTo s xs xs.length).length ≤ 40) : isB (subTo s xs xs.length) (subTo s xs xs.length).length = true := by
  obtain ⟨g1, g2, -⟩ := toFm_of hx
  have e : subTo s xs xs.length = ((toFm xs).sub (fun v => toFm (s v))).enc := by
    rw [sub_flat]
    conv => lhs; rw [g2]
    exact flat_enc _ g1 (fun v h0 h6 => (sOK_fm h v h0 h6).1)
  rw [e] at hl ⊢
  rw [Fm.enc_len] at hl
  exact fm_is _ (Fm.sub_ok (fun v h0 h6 => (sOK_fm h v h0 h6).2) _ g1) hl
theorem sOK_B {x : Int} {bs : List Nd} (h : isB bs bs.length = true) : sOK (sgB x bs) := by
  intro q hq
  rw [sgB]
  split
  · exact h
  · exact fm_is (.va q) ⟨by omega, by omega⟩ (by show 1 ≤ 40; omega)

/-- How many nodes two lists have in common at their heads. -/
def cp : List Nd → List Nd → Nat
  | x :: xs, y :: ys => if x = y then cp xs ys + 1 else 0
  | _, _ => 0
theorem cp_le (xs ys : List Nd) : cp xs ys ≤ xs.length ∧ cp xs ys ≤ ys.length := by
  induction xs generalizing ys with
  | nil => simp [cp]
  | cons x xs ih =>
    cases ys with
    | nil => simp [cp]
    | cons y ys =>
      rw [cp]
      have := ih ys
      split
      · simp; omega
      · simp
theorem cp_self (xs : List Nd) : cp xs xs = xs.length := by
  induction xs with
  | nil => rfl
  | cons x xs ih => rw [cp, if_pos rfl, ih]; rfl
theorem kd_cons0 (x : Nd) (xs : List Nd) : kd (x :: xs) 0 = x.1 ∧ sy (x :: xs) 0 = x.2 := ⟨rfl, rfl⟩
theorem kd_cons1 (x : Nd) (xs : List Nd) (j : Nat) : kd (x :: xs) (j + 1) = kd xs j ∧ sy (x :: xs) (j + 1) = sy xs j := ⟨rfl, rfl⟩
theorem cp_same (xs ys : List Nd) : ∀ j, j < cp xs ys → kd xs j = kd ys j ∧ sy xs j = sy ys j := by
  induction xs generalizing ys with
  | nil => intro j h; simp [cp] at h
  | cons x xs ih =>
    intro j h
    cases ys with
    | nil => simp [cp] at h
    | cons y ys =>
      rw [cp] at h
      split at h
      · rename_i e
        subst e
        cases j with
        | zero => exact ⟨rfl, rfl⟩
        | succ j => exact ih ys j (by omega)
      · omega
theorem cp_diff (xs ys : List Nd) (h1 : cp xs ys < xs.length) (h2 : cp xs ys < ys.length) : ¬ (kd xs (cp xs ys) = kd ys (cp xs ys) ∧ sy xs (cp xs ys) = sy ys (cp xs ys)) := by
  induction xs generalizing ys with
  | nil => simp at h1
  | cons x xs ih =>
    cases ys with
    | nil => simp at h2
    | cons y ys =>
      rw [cp] at h1 h2 ⊢
      split at h1
      · rename_i e
        subst e
        rw [if_pos rfl] at h2 ⊢
        exact ih ys (by simpa using h1) (by simpa using h2)
      · rename_i e
        rw [if_neg e]
        intro h
        exact e (Prod.ext h.1 h.2)
theorem cp_pre (xs ys : List Nd) (h : cp xs ys = xs.length) : ∃ r, ys = xs ++ r := by
  induction xs generalizing ys with
  | nil => exact ⟨ys, rfl⟩
  | cons x xs ih =>
    cases ys with
    | nil => simp [cp] at h
    | cons y ys =>
      rw [cp] at h
      split at h
      · rename_i e
        subst e
        obtain ⟨r, hr⟩ := ih ys (by simpa using h)
        exact ⟨r, by rw [hr]; rfl⟩
      · simp at h
theorem cp_comm (xs ys : List Nd) : cp xs ys = cp ys xs := by
  induction xs generalizing ys with
  | nil => cases ys <;> rfl
  | cons x xs ih =>
    cases ys with
    | nil => rfl
    | cons y ys =>
      rw [cp, cp, ih ys]
      by_cases e : x = y
      · rw [if_pos e, if_pos e.symm]
      · rw [if_neg e, if_neg (fun h => e h.symm)]
theorem cp_lt {xs ys : List Nd} (hx : isB xs xs.length = true) (hy : isB ys ys.length = true) (hne : xs ≠ ys) : cp xs ys < xs.length ∧ cp xs ys < ys.length := by
  obtain ⟨f1, f2, -⟩ := toFm_of hx
  obtain ⟨g1, g2, -⟩ := toFm_of hy
  have hle := cp_le xs ys
  constructor
  · rcases Nat.lt_or_ge (cp xs ys) xs.length with h | h
    · exact h
    · obtain ⟨r, hr⟩ := cp_pre xs ys (by omega)
      have e : (toFm xs).enc ++ r = (toFm ys).enc ++ [] := by rw [← f2, ← g2, List.append_nil]; exact hr.symm
      exact absurd (by rw [f2, g2, (enc_inj _ f1 _ _ _ g1 e).1]) hne
  · rcases Nat.lt_or_ge (cp xs ys) ys.length with h | h
    · exact h
    · obtain ⟨r, hr⟩ := cp_pre ys xs (by rw [cp_comm]; omega)
      have e : (toFm ys).enc ++ r = (toFm xs).enc ++ [] := by rw [← f2, ← g2, List.append_nil]; exact hr.symm
      exact absurd (by rw [f2, g2, (enc_inj _ g1 _ _ _ f1 e).1]) hne

theorem cut_at {xs : List Nd} (hb : isB xs xs.length = true) {k : Nat} (hk : k < xs.length) : ∃ e : Nat, pe xs (xs.length - k) 1 k = e ∧ k < e ∧ e ≤ xs.length ∧ cut xs k = (xs.drop k).take (e - k) ∧ (cut xs k).length = e - k ∧ isB (cut xs k) (cut xs k).length = true ∧ kd (cut xs k) 0 = kd xs k ∧ sy (cut xs k) 0 = sy xs k := by
  obtain ⟨f, r, hf, he⟩ := sub_at hb hk
  have hpe := pe_end f hf he
  have hlen := congrArg List.length he
  simp only [List.length_drop, List.length_append, Fm.enc_len] at hlen
  have hsz := f.sz_pos
  have h40 := (is_pos' hb).2
  have hcut : cut xs k = f.enc := by
    rw [cut, hpe, he, Int.toNat_natCast, show k + f.sz - k = f.enc.length by rw [Fm.enc_len]; omega, List.take_left]
  have hcl : (cut xs k).length = f.sz := by rw [hcut, Fm.enc_len]
  have hd := drop_cons hk
  have hx : kd (cut xs k) 0 = kd xs k ∧ sy (cut xs k) 0 = sy xs k := by
    rw [cut, hpe, hd, Int.toNat_natCast, show k + f.sz - k = (f.sz - 1) + 1 by omega, List.take_succ_cons]
    exact ⟨rfl, rfl⟩
  refine ⟨k + f.sz, hpe, by omega, by omega, ?_, by omega, ?_, hx.1, hx.2⟩
  · rw [cut, hpe, Int.toNat_natCast]
  · rw [hcut]; exact fm_is f hf (by omega)
theorem cut_sub (xs : List Nd) (k : Nat) : ∀ n ∈ cut xs k, n ∈ xs := fun n hn => List.mem_of_mem_drop (List.mem_of_mem_take hn)

/-- Is the node of the second list bound rather than that of the first one. -/
def swB (k s k' s' : Int) : Bool := k' == 0 && (k != 0 || decide (s < s'))
def hdN (xs : List Nd) (k : Nat) : Nd := (kd xs k, sy xs k)
theorem hd_mem {xs : List Nd} {k : Nat} (h : k < xs.length) : hdN xs k ∈ xs := by
  have := drop_cons h
  have h2 : hdN xs k ∈ xs.drop k := by rw [this]; exact List.mem_cons_self
  exact List.mem_of_mem_drop h2
/-- What is bound next, and to what. -/
def nx (xs ys : List Nd) : Option (Nat × List Nd) :=
  if swB (kd xs (cp xs ys)) (sy xs (cp xs ys)) (kd ys (cp xs ys)) (sy ys (cp xs ys)) then
    (if kd ys (cp xs ys) ≠ 0 ∨ hdN ys (cp xs ys) ∈ cut xs (cp xs ys) then none else some ((sy ys (cp xs ys)).toNat, cut xs (cp xs ys)))
  else (if kd xs (cp xs ys) ≠ 0 ∨ hdN xs (cp xs ys) ∈ cut ys (cp xs ys) then none else some ((sy xs (cp xs ys)).toNat, cut ys (cp xs ys)))
def bd (q : Nat) (e xs : List Nd) : List Nd := subTo (sgB q e) xs xs.length
def okU (xs ys : List Nd) (im : List (List Nd)) : Bool := limB im 6 && (decide (xs.length ≤ 40) && decide (ys.length ≤ 40))
/-- The unification, for so many rounds at most. -/
def uf : Nat → List Nd → List Nd → List (List Nd) → List (List Nd) × Int
  | 0, _, _, _ => ([], 0)
  | n + 1, xs, ys, im => if xs = ys then (im, 0) else match nx xs ys with
    | none => ([], 4)
    | some (q, e) => if okU (bd q e xs) (bd q e ys) (thTo (sgB q e) im 6) then uf n (bd q e xs) (bd q e ys) (thTo (sgB q e) im 6) else ([], 3)

def cnt (p : Nat → Bool) : Nat → Nat
  | 0 => 0
  | n + 1 => cnt p n + (if p n then 1 else 0)
theorem cnt_le {p p' : Nat → Bool} (h : ∀ q, p' q = true → p q = true) : ∀ n, cnt p' n ≤ cnt p n := by
  intro n
  induction n with
  | zero => exact Nat.le_refl _
  | succ n ih =>
    rw [cnt, cnt]
    cases e : p' n
    · simp; omega
    · rw [h n e]; simp; omega
theorem cnt_lt {p p' : Nat → Bool} (h : ∀ q, p' q = true → p q = true) {q : Nat} (h1 : p q = true) (h2 : p' q = false) : ∀ n, q < n → cnt p' n < cnt p n := by
  intro n
  induction n with
  | zero => intro h; omega
  | succ n ih =>
    intro hq
    rw [cnt, cnt]
    by_cases e : q = n
    · subst e
      have := cnt_le h q
      rw [h1, h2]; simp; omega
    · have := ih (by omega)
      cases e2 : p' n
      · simp; omega
      · rw [h n e2]; simp; omega
def occ (xs ys : List Nd) (q : Nat) : Bool := decide (((0 : Int), (q : Int)) ∈ xs) || decide (((0 : Int), (q : Int)) ∈ ys)
def nv (xs ys : List Nd) : Nat := cnt (occ xs ys) 6
theorem nv_le (xs ys : List Nd) : nv xs ys ≤ 6 := by
  have : ∀ n, cnt (occ xs ys) n ≤ n := by
    intro n
    induction n with
    | zero => exact Nat.le_refl _
    | succ n ih => rw [cnt]; split <;> omega
  exact this 6
/-- What is told of a binding that is found. -/
theorem nx_some {xs ys : List Nd} (hx : isB xs xs.length = true) (hy : isB ys ys.length = true) (hne : xs ≠ ys) {q : Nat} {e : List Nd} (h : nx xs ys = some (q, e)) :
    q ≤ 5 ∧ isB e e.length = true ∧ ((0 : Int), (q : Int)) ∉ e ∧ (((0 : Int), (q : Int)) ∈ xs ∨ ((0 : Int), (q : Int)) ∈ ys) ∧ ((∀ n ∈ e, n ∈ xs) ∨ (∀ n ∈ e, n ∈ ys)) := by
  obtain ⟨h1, h2⟩ := cp_lt hx hy hne
  obtain ⟨t, -, -, -, -, -, hc, -⟩ := cut_at hx h1
  obtain ⟨t', -, -, -, -, -, hc', -⟩ := cut_at hy h2
  rw [nx] at h
  split at h
  · split at h
    · cases h
    · rename_i hn
      simp only [not_or, Classical.not_not] at hn
      simp only [Option.some.injEq, Prod.mk.injEq] at h
      obtain ⟨hq, he⟩ := h
      obtain ⟨p, hp, hp5⟩ := sy_six (is_treeTo' hy) h2
      rw [hp, Int.toNat_natCast] at hq
      subst hq
      have hd : hdN ys (cp xs ys) = ((0 : Int), (p : Int)) := by rw [hdN, hn.1, hp]
      rw [hd] at hn
      refine ⟨hp5, by rw [← he]; exact hc, by rw [← he]; exact hn.2, .inr (by rw [← hd]; exact hd_mem h2), .inl (by rw [← he]; exact cut_sub _ _)⟩
  · split at h
    · cases h
    · rename_i hn
      simp only [not_or, Classical.not_not] at hn
      simp only [Option.some.injEq, Prod.mk.injEq] at h
      obtain ⟨hq, he⟩ := h
      obtain ⟨p, hp, hp5⟩ := sy_six (is_treeTo' hx) h1
      rw [hp, Int.toNat_natCast] at hq
      subst hq
      have hd : hdN xs (cp xs ys) = ((0 : Int), (p : Int)) := by rw [hdN, hn.1, hp]
      rw [hd] at hn
      refine ⟨hp5, by rw [← he]; exact hc', by rw [← he]; exact hn.2, .inl (by rw [← hd]; exact hd_mem h1), .inr (by rw [← he]; exact cut_sub _ _)⟩
theorem mem_bd {q : Nat} {e xs : List Nd} {n : Nd} (h : n ∈ bd q e xs) : n ∈ e ∨ (n ∈ xs ∧ n ≠ ((0 : Int), (q : Int))) := by
  rw [bd, sub_flat, flat, List.mem_flatMap] at h
  obtain ⟨m, hm, hn⟩ := h
  by_cases h0 : m.1 = 0
  · rw [if_pos h0, sgB] at hn
    by_cases h1 : m.2 = (q : Int)
    · rw [if_pos h1] at hn; exact .inl hn
    · rw [if_neg h1] at hn
      have : n = m := by simp at hn; rw [hn]; exact Prod.ext h0.symm rfl
      subst this
      exact .inr ⟨hm, fun hh => h1 (by rw [hh])⟩
  · rw [if_neg h0] at hn
    have : n = m := by simpa using hn
    subst this
    exact .inr ⟨hm, fun hh => h0 (by rw [hh])⟩
theorem nv_bd {xs ys : List Nd} (hx : isB xs xs.length = true) (hy : isB ys ys.length = true) (hne : xs ≠ ys) {q : Nat} {e : List Nd} (h : nx xs ys = some (q, e)) : nv (bd q e xs) (bd q e ys) < nv xs ys := by
  obtain ⟨hq, -, hnot, hin, hsub⟩ := nx_some hx hy hne h
  have step : ∀ p : Nat, occ (bd q e xs) (bd q e ys) p = true → occ xs ys p = true := by
    intro p hp
    simp only [occ, Bool.or_eq_true, decide_eq_true_eq] at hp ⊢
    have he : ((0 : Int), (p : Int)) ∈ e → ((0 : Int), (p : Int)) ∈ xs ∨ ((0 : Int), (p : Int)) ∈ ys := fun hh => by
      rcases hsub with h1 | h1
      · exact .inl (h1 _ hh)
      · exact .inr (h1 _ hh)
    rcases hp with hp | hp
    · rcases mem_bd hp with h1 | h1
      · exact he h1
      · exact .inl h1.1
    · rcases mem_bd hp with h1 | h1
      · exact he h1
      · exact .inr h1.1
  refine cnt_lt step (q := q) ?_ ?_ 6 (by omega)
  · simp only [occ, Bool.or_eq_true, decide_eq_true_eq]; exact hin
  · simp only [occ, Bool.or_eq_false_iff, decide_eq_false_iff_not]
    constructor
    · intro hh
      rcases mem_bd hh with h1 | h1
      · exact hnot h1
      · exact h1.2 rfl
    · intro hh
      rcases mem_bd hh with h1 | h1
      · exact hnot h1
      · exact h1.2 rfl

end Go.Proofs.Ytbhgedabcclimaa
