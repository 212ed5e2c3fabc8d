/- The rounds of a contest: partitions of worlds into those that are alike in k rounds. Plain mathematics. -/
import Derived.Test.YtomldealpmohhaaRf
import Derived.Test.YtomldealpmohhaaJn08
import Derived.Test.YtomldealpmohhaaJn19
namespace Go.Proofs.Ytomldealpmohhaa
open Go.RowKit

/-- A finer labelling has no fewer classes, and the same ones if as many. -/
theorem st_step {l : Nat → Lit} (k : Nat) : (stF l (k + 1)).1 = (stF l k).1 + if (stF l k).2 (l k) = none then 1 else 0 := by
  cases h : (stF l k).2 (l k) with
  | some i => rw [(st_old h).1]; simp
  | none => rw [(st_new h).1]; simp
theorem st_fine {l m : Nat → Lit} {n : Nat} (h : ∀ i j, i < n → j < n → l i = l j → m i = m j) : ∀ k, k ≤ n → (stF m k).1 ≤ (stF l k).1 := by
  intro k
  induction k with
  | zero => exact fun _ => Nat.le_refl _
  | succ k ih =>
    intro hk
    have := ih (by omega)
    rw [st_step, st_step]
    by_cases e : (stF m k).2 (m k) = none
    · have e2 : (stF l k).2 (l k) = none := (st_new_iff k).2 fun j hj q => (st_new_iff k).1 e j hj (h j k (by omega) (by omega) q)
      rw [if_pos e, if_pos e2]; omega
    · rw [if_neg e]; omega
theorem st_fine2 {l m : Nat → Lit} {n : Nat} (h : ∀ i j, i < n → j < n → l i = l j → m i = m j) (he : (stF m n).1 = (stF l n).1) : ∀ k, k < n → (stF l k).2 (l k) = none → (stF m k).2 (m k) = none := by
  -- the counts agree from the back
  have back : ∀ d k, k + d = n → (stF m k).1 = (stF l k).1 := by
    intro d
    induction d with
    | zero => intro k hk; obtain rfl : k = n := by omega
              exact he
    | succ d ih =>
      intro k hk
      have h1 := ih (k + 1) (by omega)
      have h2 := st_fine h k (by omega)
      rw [st_step, st_step] at h1
      by_cases e : (stF m k).2 (m k) = none
      · have e2 : (stF l k).2 (l k) = none := (st_new_iff k).2 fun j hj q => (st_new_iff k).1 e j hj (h j k (by omega) (by omega) q)
        rw [if_pos e, if_pos e2] at h1; omega
      · rw [if_neg e] at h1
        split at h1 <;> omega
  intro k hk hl
  have h1 := back (n - k) k (by omega)
  have h2 := back (n - (k + 1)) (k + 1) (by omega)
  rw [st_step, st_step, if_pos hl] at h2
  by_cases e : (stF m k).2 (m k) = none
  · exact e
  · rw [if_neg e] at h2; omega
theorem st_same {l m : Nat → Lit} {n : Nat} (h : ∀ i j, i < n → j < n → l i = l j → m i = m j) (he : (stF m n).1 = (stF l n).1) : ∀ j, j < n → ∀ i, i < j → m i = m j → l i = l j := by
  intro j
  induction j using Nat.strongRecOn with
  | _ j ih =>
    intro hj i hi e
    have hn : ¬ (stF m j).2 (m j) = none := fun q => (st_new_iff j).1 q i hi e
    have hl : ¬ (stF l j).2 (l j) = none := fun q => hn (st_fine2 h he j hj q)
    rw [st_new_iff] at hl
    obtain ⟨i', h1, h2⟩ : ∃ i', i' < j ∧ l i' = l j := Classical.byContradiction fun hh => hl fun i' h1 h2 => hh ⟨i', h1, h2⟩
    have e2 : m i = m i' := e.trans (h i' j (by omega) hj h2).symm
    rcases Nat.lt_trichotomy i i' with q | q | q
    · rw [ih i' h1 (by omega) i q e2, h2]
    · subst q; exact h2
    · rw [← ih i hi (by omega) i' q e2.symm, h2]

section
variable (n : Nat) (xs ys : List Int)
noncomputable def vLs (v : Nat) : List Int := match v with
  | 0 => tab n (fun _ => 0)
  | v + 1 => nuL n (fun j => kyB (nth (vLs v) j) (bitB (nth ys v) j))
noncomputable def cLs (k : Nat) : List Int := match k with
  | 0 => vLs n ys 6
  | k + 1 => nuL n (fun j => kyI (nth (cLs k) j) (coTo (cLs k) (nth xs j) n))
noncomputable def lF (k : Nat) (j : Nat) : Lit := match k with
  | 0 => kyB (nth (vLs n ys 5) j) (bitB (nth ys 5) j)
  | k + 1 => kyI (nth (cLs n xs ys k) j) (coTo (cLs n xs ys k) (nth xs j) n)
end
theorem cLs_eq (n : Nat) (xs ys : List Int) (k : Nat) : cLs n xs ys k = nuL n (lF n xs ys k) := by cases k <;> rfl
theorem vLs_len (n : Nat) (ys : List Int) (v : Nat) : (vLs n ys v).length = n := by cases v <;> exact tab_len _ _
theorem cLs_len (n : Nat) (xs ys : List Int) (k : Nat) : (cLs n xs ys k).length = n := by rw [cLs_eq]; exact nuL_len _ _
theorem vLs_bd {n : Nat} {ys : List Int} (v i : Nat) : 0 ≤ nth (vLs n ys v) i ∧ nth (vLs n ys v) i ≤ n := by
  cases v with
  | zero =>
    by_cases h : i < n
    · rw [vLs, tab_nth _ _ _ h]; omega
    · rw [nth_high (by rw [vLs_len]; omega)]; omega
  | succ v => exact nuL_bd i
theorem cLs_bd {n : Nat} {xs ys : List Int} (k i : Nat) : 0 ≤ nth (cLs n xs ys k) i ∧ nth (cLs n xs ys k) i ≤ n := by rw [cLs_eq]; exact nuL_bd i
theorem cLs_lt {n : Nat} {xs ys : List Int} (k : Nat) {i : Nat} (h : i < n) : nth (cLs n xs ys k) i < n := by
  rw [cLs_eq, nuL, tab_nth _ _ _ h]
  have := num_lt (l := lF n xs ys k) h
  have := st_bd (l := lF n xs ys k) n
  omega
/-- Alike in k rounds. -/
def BB (xs ys ps zs : List Int) : Nat → Nat → Nat → Prop
  | 0, x, y => ∀ v, v < 6 → T (nth ys v) x = T (nth zs v) y
  | k + 1, x, y => (∀ v, v < 6 → T (nth ys v) x = T (nth zs v) y) ∧ (∀ x', T (nth xs x) x' = true → ∃ y', T (nth ps y) y' = true ∧ BB xs ys ps zs k x' y') ∧ (∀ y', T (nth ps y) y' = true → ∃ x', T (nth xs x) x' = true ∧ BB xs ys ps zs k x' y')
theorem BB_atoms {xs ys ps zs : List Int} {k x y : Nat} (h : BB xs ys ps zs k x y) : ∀ v, v < 6 → T (nth ys v) x = T (nth zs v) y := by
  cases k with
  | zero => exact h
  | succ k => exact h.1
theorem BB_down {xs ys ps zs : List Int} : ∀ (k : Nat) {x y : Nat}, BB xs ys ps zs (k + 1) x y → BB xs ys ps zs k x y := by
  intro k
  induction k with
  | zero => intro x y h; exact h.1
  | succ k ih =>
    intro x y h
    refine ⟨h.1, fun x' hx => ?_, fun y' hy => ?_⟩
    · obtain ⟨y', h1, h2⟩ := h.2.1 x' hx
      exact ⟨y', h1, ih h2⟩
    · obtain ⟨x', h1, h2⟩ := h.2.2 y' hy
      exact ⟨x', h1, ih h2⟩

structure Sm1 (xs ys : List Int) : Prop where
  n30 : xs.length ≤ 30
  xr : Rel xs.length (nth xs)
  yr : ∀ i, InMk xs.length (nth ys i)

theorem wfL {n : Nat} (hn : n ≤ 30) {z : Int} (h : 0 ≤ z ∧ z ≤ n) : (Lit.int .i64 z).wf = true := wf64 h.1 (by omega)
theorem mk_wf {n : Nat} (hn : n ≤ 30) {z : Int} (h : InMk n z) : (Lit.int .i64 z).wf = true := wf64 h.1 (by have := (h.bd hn).2; omega)

section
variable {xs ys : List Int}
theorem vLs_iff (h : Sm1 xs ys) (v : Nat) {i j : Nat} (hi : i < xs.length) (hj : j < xs.length) : nth (vLs xs.length ys v) i = nth (vLs xs.length ys v) j ↔ ∀ u, u < v → T (nth ys u) i = T (nth ys u) j := by
  induction v with
  | zero => rw [vLs, tab_nth _ _ _ hi, tab_nth _ _ _ hj]; simp
  | succ v ih =>
    rw [vLs, nuL_iff hi hj]
    constructor
    · intro e u hu
      obtain ⟨e1, e2⟩ := kyB_inj (wfL h.n30 (vLs_bd v i)) (wfL h.n30 (vLs_bd v j)) e
      rcases Nat.lt_succ_iff_lt_or_eq.1 hu with q | q
      · exact ih.1 e1 u q
      · subst q
        rw [bitB_T ((h.yr u).bd h.n30), bitB_T ((h.yr u).bd h.n30)] at e2
        exact e2
    · intro e
      rw [ih.2 fun u hu => e u (by omega), bitB_T ((h.yr v).bd h.n30), bitB_T ((h.yr v).bd h.n30), e v (by omega)]
theorem co_in (h : Sm1 xs ys) (k j : Nat) : InMk xs.length (coTo (cLs xs.length xs ys k) (nth xs j) xs.length) ∧ ∀ t, T (coTo (cLs xs.length xs ys k) (nth xs j) xs.length) t = true ↔ ∃ i, i < xs.length ∧ T (nth xs j) i = true ∧ nth (cLs xs.length xs ys k) i = t :=
  coTo_T h.n30 (cLs_bd k) (fun i hi => cLs_lt k (by rw [cLs_len] at hi; exact hi)) h.n30 (h.xr j) _ (by rw [cLs_len]; exact Nat.le_refl _)
theorem cLs_next (h : Sm1 xs ys) (k : Nat) {i j : Nat} (hi : i < xs.length) (hj : j < xs.length) : nth (cLs xs.length xs ys (k + 1)) i = nth (cLs xs.length xs ys (k + 1)) j ↔ nth (cLs xs.length xs ys k) i = nth (cLs xs.length xs ys k) j ∧ ∀ t, T (coTo (cLs xs.length xs ys k) (nth xs i) xs.length) t = T (coTo (cLs xs.length xs ys k) (nth xs j) xs.length) t := by
  rw [cLs, nuL_iff hi hj]
  constructor
  · intro e
    obtain ⟨e1, e2⟩ := kyI_inj (wfL h.n30 (cLs_bd k i)) (wfL h.n30 (cLs_bd k j)) (mk_wf h.n30 (co_in h k i).1) (mk_wf h.n30 (co_in h k j).1) e
    exact ⟨e1, fun t => by rw [e2]⟩
  · rintro ⟨e1, e2⟩
    rw [e1, T_ext (co_in h k i).1 (co_in h k j).1 e2]
/-- Worlds are in one class of round k exactly if they are alike in k rounds. -/
theorem cLs_iff (h : Sm1 xs ys) (k : Nat) {i j : Nat} (hi : i < xs.length) (hj : j < xs.length) : nth (cLs xs.length xs ys k) i = nth (cLs xs.length xs ys k) j ↔ BB xs ys xs ys k i j := by
  induction k generalizing i j with
  | zero => exact vLs_iff h 6 hi hj
  | succ k ih =>
    rw [cLs_next h k hi hj, ih hi hj]
    have half : ∀ {i j : Nat}, i < xs.length → j < xs.length → ((∀ t, T (coTo (cLs xs.length xs ys k) (nth xs i) xs.length) t = true → T (coTo (cLs xs.length xs ys k) (nth xs j) xs.length) t = true) ↔ ∀ i', T (nth xs i) i' = true → ∃ j', T (nth xs j) j' = true ∧ BB xs ys xs ys k i' j') := by
      intro i j hi hj
      constructor
      · intro e i' hi'
        have hl := T_lt (h.xr i) hi'
        obtain ⟨q, hq⟩ := Int.eq_ofNat_of_zero_le (cLs_bd (xs := xs) (ys := ys) (n := xs.length) k i').1
        obtain ⟨j', a, b, c⟩ := ((co_in h k j).2 q).1 (e q (((co_in h k i).2 q).2 ⟨i', hl, hi', hq⟩))
        exact ⟨j', b, (ih hl a).1 (hq.trans c.symm)⟩
      · intro e t ht
        obtain ⟨i', a, b, c⟩ := ((co_in h k i).2 t).1 ht
        obtain ⟨j', h1, h2⟩ := e i' b
        have hl := T_lt (h.xr j) h1
        exact ((co_in h k j).2 t).2 ⟨j', hl, h1, by rw [← (ih a hl).2 h2]; exact c⟩
    have sym : ∀ (k : Nat) {i j : Nat}, BB xs ys xs ys k i j → BB xs ys xs ys k j i := by
      intro k
      induction k with
      | zero => intro i j q v hv; exact (q v hv).symm
      | succ k ih2 =>
        rintro i j ⟨a, b, c⟩
        refine ⟨fun v hv => (a v hv).symm, fun x' hx => ?_, fun y' hy => ?_⟩
        · obtain ⟨z, h1, h2⟩ := c x' hx; exact ⟨z, h1, ih2 h2⟩
        · obtain ⟨z, h1, h2⟩ := b y' hy; exact ⟨z, h1, ih2 h2⟩
    constructor
    · rintro ⟨a, b⟩
      refine ⟨BB_atoms a, (half hi hj).1 fun t ht => by rw [← b t]; exact ht, fun y' hy => ?_⟩
      obtain ⟨z, h1, h2⟩ := (half hj hi).1 (fun t ht => by rw [b t]; exact ht) y' hy
      exact ⟨z, h1, sym k h2⟩
    · intro a
      refine ⟨BB_down k a, fun t => Bool.eq_iff_iff.2 ⟨(half hi hj).2 a.2.1 t, (half hj hi).2 (fun i' hi' => ?_) t⟩⟩
      obtain ⟨z, h1, h2⟩ := a.2.2 i' hi'
      exact ⟨z, h1, sym k h2⟩

/-! Where the rounds stop. -/
theorem lF_fine (h : Sm1 xs ys) (k : Nat) : ∀ i j, i < xs.length → j < xs.length → lF xs.length xs ys (k + 1) i = lF xs.length xs ys (k + 1) j → lF xs.length xs ys k i = lF xs.length xs ys k j := by
  intro i j hi hj e
  have e1 : nth (cLs xs.length xs ys (k + 1)) i = nth (cLs xs.length xs ys (k + 1)) j := by rw [cLs_eq, nuL_iff hi hj]; exact e
  have e2 := ((cLs_next h k hi hj).1 e1).1
  rw [cLs_eq, nuL_iff hi hj] at e2
  exact e2
noncomputable def dK (xs ys : List Int) (k : Nat) : Nat := (stF (lF xs.length xs ys k) xs.length).1
theorem dK_bd (xs ys : List Int) (k : Nat) : dK xs ys k ≤ xs.length := st_bd _
theorem dK_lt (h : Sm1 xs ys) (k : Nat) (hne : cLs xs.length xs ys k ≠ cLs xs.length xs ys (k + 1)) : dK xs ys k < dK xs ys (k + 1) := by
  have h1 := st_fine (lF_fine h k) xs.length (Nat.le_refl _)
  rcases Nat.lt_or_ge (dK xs ys k) (dK xs ys (k + 1)) with q | q
  · exact q
  · exfalso
    have he : (stF (lF xs.length xs ys k) xs.length).1 = (stF (lF xs.length xs ys (k + 1)) xs.length).1 := Nat.le_antisymm h1 q
    have hs := st_same (lF_fine h k) he
    refine hne ?_
    rw [cLs_eq, cLs_eq]
    refine nth_ext (by rw [nuL_len, nuL_len]) fun i hi => ?_
    rw [nuL_len] at hi
    rw [nuL, nuL, tab_nth _ _ _ hi, tab_nth _ _ _ hi]
    have := num_same (l := lF xs.length xs ys k) (m := lF xs.length xs ys (k + 1)) (n := xs.length) (fun a b ha hb => ⟨fun e => ?_, lF_fine h k a b ha hb⟩) hi
    · rw [this]
    · rcases Nat.lt_trichotomy a b with q | q | q
      · exact hs b hb a q e
      · subst q; rfl
      · exact (hs a ha b q e.symm).symm
theorem cLs_stay {n : Nat} {k : Nat} (h : cLs n xs ys k = cLs n xs ys (k + 1)) (d : Nat) : cLs n xs ys (k + d) = cLs n xs ys k := by
  induction d with
  | zero => rfl
  | succ d ih => rw [← Nat.add_assoc, cLs, ih]; exact (show cLs n xs ys (k + 1) = _ from h.symm)
end

end Go.Proofs.Ytomldealpmohhaa
