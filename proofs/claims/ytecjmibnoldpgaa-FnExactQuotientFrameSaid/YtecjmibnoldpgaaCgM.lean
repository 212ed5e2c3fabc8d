/- Congruences by value: numbered in the order of first things; classes whose members have one image; their quotients. Plain mathematics. -/
import Derived.Test.YtecjmibnoldpgaaMrM
import Derived.Test.YtecjmibnoldpgaaQuM
import Derived.Test.YtecjmibnoldpgaaEqI
namespace Go.Proofs.Ytecjmibnoldpgaa
open Go.RowKit

/-- The labels of a list of class numbers. -/
def lbI (ls : List Int) (j : Nat) : Lit := .int .i64 (nth ls j)
theorem lbI_iff (ls : List Int) (i j : Nat) : lbI ls i = lbI ls j ↔ nth ls i = nth ls j := by
  unfold lbI
  constructor
  · intro h
    injection h
  · intro h; rw [h]
/-- The first k are numbered from 0 on in the order of their first things. -/
def AgK (ls : List Int) (k : Nat) : Prop := ∀ i, i < k → (numF (lbI ls) i : Int) = nth ls i
noncomputable def nmB (ls : List Int) : Bool := decide (nuL ls.length (lbI ls) = ls)
theorem nmB_ag {ls : List Int} : nmB ls = true ↔ AgK ls ls.length := by
  unfold nmB AgK
  rw [decide_eq_true_eq]
  constructor
  · intro h i hi
    have e : nth (nuL ls.length (lbI ls)) i = nth ls i := by rw [h]
    rw [nuL, tab_nth _ _ _ hi] at e
    exact e
  · intro h
    refine list_ext_i (nuL_len _ _) fun j hj => ?_
    rw [nuL_len] at hj
    rw [nuL, tab_nth _ _ _ hj]
    exact h j hj
/-- One more: the check of the next number. -/
theorem ag_next {ls : List Int} {k : Nat} (h : AgK ls k) : (numF (lbI ls) k : Int) = nth ls k ↔ 0 ≤ nth ls k ∧ nth ls k ≤ (stF (lbI ls) k).1 := by
  cases hs : (stF (lbI ls) k).2 (lbI ls k) with
  | some i =>
    obtain ⟨e1, e2⟩ := st_old hs
    obtain ⟨⟨j, a1, a2, a3⟩, a4⟩ := (st_has k).2.1 _ _ hs
    have e3 := (lbI_iff ls j k).1 a2
    have e4 := h j a1
    rw [a3] at e4
    rw [e2, e4, e3]
    constructor
    · intro _; omega
    · intro _; rfl
  | none =>
    obtain ⟨e1, e2⟩ := st_new hs
    rw [e2]
    constructor
    · intro e; omega
    · rintro ⟨a, b⟩
      by_cases e : nth ls k = (stF (lbI ls) k).1
      · exact e.symm
      · obtain ⟨c, hc⟩ := Int.eq_ofNat_of_zero_le a
        obtain ⟨j, h1, h2⟩ := st_all (l := lbI ls) k c (by omega)
        have e4 := h j h1
        rw [h2] at e4
        have e5 : lbI ls j = lbI ls k := (lbI_iff ls j k).2 (by rw [← e4, hc])
        have := (st_has (l := lbI ls) k).1 j h1
        rw [e5, hs] at this
        cases this
theorem ag_top {ls : List Int} {k : Nat} (h : AgK ls (k + 1)) : (stF (lbI ls) (k + 1)).1 = if nth ls k = (stF (lbI ls) k).1 then (stF (lbI ls) k).1 + 1 else (stF (lbI ls) k).1 := by
  have hk := h k (by omega)
  cases hs : (stF (lbI ls) k).2 (lbI ls k) with
  | some i =>
    obtain ⟨e1, e2⟩ := st_old hs
    have h4 := ((st_has k).2.1 _ _ hs).2
    rw [e2] at hk
    rw [e1, if_neg (by omega)]
  | none =>
    obtain ⟨e1, e2⟩ := st_new hs
    rw [e2] at hk
    rw [e1, if_pos hk.symm]
theorem AgK.up {ls : List Int} {k : Nat} (h : AgK ls k) (hk : (numF (lbI ls) k : Int) = nth ls k) : AgK ls (k + 1) := fun i hi => by
  by_cases e : i = k
  · rw [e]; exact hk
  · exact h i (by omega)
theorem AgK.down {ls : List Int} {k l : Nat} (h : AgK ls l) (hk : k ≤ l) : AgK ls k := fun i hi => h i (by omega)

theorem nm_cq {ls : List Int} (h : nmB ls = true) : Cq ls ls.length (stF (lbI ls) ls.length).1 := by
  have e : nuL ls.length (lbI ls) = ls := by simpa [nmB] using h
  have q := cq_of ls.length (lbI ls)
  rw [e] at q
  exact q

/-- The image of what a world sees. -/
def ciF (ls xs : List Int) (x : Nat) : Int := coTo ls (nth xs x) ls.length
def cgI (ls xs : List Int) (x : Nat) : Nat → Bool
  | 0 => true
  | y + 1 => cgI ls xs x y && !(nth ls x == nth ls y && !(ciF ls xs x == ciF ls xs y))
def cgO (ls xs : List Int) : Nat → Bool
  | 0 => true
  | x + 1 => cgO ls xs x && cgI ls xs x x
theorem cgI_iff {ls xs : List Int} {x : Nat} (k : Nat) : cgI ls xs x k = true ↔ ∀ y, y < k → nth ls x = nth ls y → ciF ls xs x = ciF ls xs y := by
  induction k with
  | zero => exact ⟨fun _ i h => absurd h (by omega), fun _ => rfl⟩
  | succ k ih =>
    rw [cgI, Bool.and_eq_true, ih]
    constructor
    · rintro ⟨a, b⟩ y hy e
      by_cases e2 : y = k
      · subst e2
        simp [e] at b
        exact b
      · exact a y (by omega) e
    · intro h
      refine ⟨fun y hy => h y (by omega), ?_⟩
      by_cases e : nth ls x = nth ls k
      · simp [e, h k (by omega) e]
      · simp [e]
theorem cgI_false {ls xs : List Int} {x k l : Nat} (hk : k ≤ l) (h : cgI ls xs x k = false) : cgI ls xs x l = false := by
  induction l with
  | zero => simp at hk; subst hk; exact h
  | succ l ih =>
    by_cases e : k = l + 1
    · subst e; exact h
    · rw [cgI, ih (by omega)]; rfl
theorem cgO_false {ls xs : List Int} {k l : Nat} (hk : k ≤ l) (h : cgO ls xs k = false) : cgO ls xs l = false := by
  induction l with
  | zero => simp at hk; subst hk; exact h
  | succ l ih =>
    by_cases e : k = l + 1
    · subst e; exact h
    · rw [cgO, ih (by omega)]; rfl
theorem cgO_iff {ls xs : List Int} (k : Nat) : cgO ls xs k = true ↔ ∀ x y, x < k → y < k → nth ls x = nth ls y → ciF ls xs x = ciF ls xs y := by
  induction k with
  | zero => exact ⟨fun _ i _ h => absurd h (by omega), fun _ => rfl⟩
  | succ k ih =>
    rw [cgO, Bool.and_eq_true, ih, cgI_iff]
    constructor
    · rintro ⟨a, b⟩ x y hx hy e
      by_cases e1 : x = k
      · subst e1
        by_cases e2 : y = x
        · subst e2; rfl
        · exact b y (by omega) e
      · by_cases e2 : y = k
        · subst e2; exact (b x (by omega) e.symm).symm
        · exact a x y (by omega) (by omega) e
    · exact fun h => ⟨fun x y hx hy => h x y (by omega) (by omega), fun y hy => h k y (by omega) (by omega)⟩

section
variable {cs xs : List Int} {n m : Nat}
theorem Cq.qa_T (h : Cq cs n m) (hn : n ≤ 8) (hx : ∀ i, InMk n (nth xs i)) (c t : Nat) : ∀ k, k ≤ n → (T (qaF cs xs n k c) t = true ↔ ∃ w, w < k ∧ nth cs w = (c : Int) ∧ T (coTo cs (nth xs w) n) t = true)
  | 0, _ => by rw [qaF, T_zero]; simp
  | k + 1, hk => by
    have hm := h.mn
    have ih := h.qa_T hn hx c t k (by omega)
    have hb := h.bd k (by omega)
    rw [qaF]
    by_cases e : c = (nth cs k).toNat
    · rw [if_pos e, T_or (n := m) (by omega) (h.qa hn hx c k) (h.co hn (hx k) (Nat.le_refl n)).1, Bool.or_eq_true, ih]
      constructor
      · rintro (⟨w, a, b, d⟩ | d)
        · exact ⟨w, by omega, b, d⟩
        · exact ⟨k, by omega, by omega, d⟩
      · rintro ⟨w, a, b, d⟩
        by_cases e2 : w = k
        · subst e2; exact .inr d
        · exact .inl ⟨w, by omega, b, d⟩
    · rw [if_neg e, ih]
      constructor
      · rintro ⟨w, a, b, d⟩; exact ⟨w, by omega, b, d⟩
      · rintro ⟨w, a, b, d⟩
        by_cases e2 : w = k
        · subst e2; omega
        · exact ⟨w, by omega, b, d⟩
/-- The quotient of classes whose members have one image: the image of any member. -/
theorem Cq.qa_cg (h : Cq cs n m) (hn : n ≤ 8) (hx : ∀ i, InMk n (nth xs i)) (hc : cgO cs xs n = true) {w : Nat} (hw : w < n) : qaF cs xs n n (nth cs w).toNat = ciF cs xs w := by
  have hm := h.mn
  have hb := h.bd w hw
  have hl := h.len
  refine T_ext (h.qa hn hx _ _) (h.co hn (hx w) (by omega)).1 fun t => ?_
  rw [Bool.eq_iff_iff, h.qa_T hn hx _ t n (Nat.le_refl n)]
  constructor
  · rintro ⟨v, a, b, d⟩
    have e := (cgO_iff n).1 hc v w a hw (by omega)
    rw [← e]
    unfold ciF
    rw [hl]
    exact d
  · intro d
    unfold ciF at d
    rw [hl] at d
    exact ⟨w, hw, by omega, d⟩
/-- A list of classes is a morphism onto its quotient exactly if classes have one image. -/
theorem Cq.mr_cg (h : Cq cs n m) (hn : n ≤ 8) (hx : ∀ i, InMk n (nth xs i)) : mrB xs (tab m (qaF cs xs n n)) cs n = cgO cs xs n := by
  have hl := h.len
  have key : ∀ k, k ≤ n → (mrB xs (tab m (qaF cs xs n n)) cs k = true ↔ ∀ w, w < k → ciF cs xs w = qaF cs xs n n (nth cs w).toNat) := by
    intro k
    induction k with
    | zero => exact fun _ => ⟨fun _ i h => absurd h (by omega), fun _ => rfl⟩
    | succ k ih =>
      intro hk
      have hb := h.bd k (by omega)
      rw [mrB, Bool.and_eq_true, ih (by omega), tab_nth _ _ _ (show (nth cs k).toNat < m by omega), beq_iff_eq]
      constructor
      · rintro ⟨a, b⟩ w hw
        by_cases e : w = k
        · subst e; exact b
        · exact a w (by omega)
      · exact fun q => ⟨fun w hw => q w (by omega), q k (by omega)⟩
  rw [Bool.eq_iff_iff, key n (Nat.le_refl n)]
  constructor
  · intro q
    rw [cgO_iff]
    intro x y hx' hy e
    rw [q x hx', q y hy, e]
  · intro q w hw
    exact (h.qa_cg hn hx q hw).symm
/-- The arrows of the classes as the model writes them: the last member's image. -/
def lqF (cs xs : List Int) : Nat → Nat → Int
  | 0, _ => 0
  | k + 1, c => if c = (nth cs k).toNat then ciF cs xs k else lqF cs xs k c
theorem lq_set {k j : Nat} {z : Int} (hj : nth cs k = (j : Int)) (hz : z = ciF cs xs k) (t : Nat) : (if t = j then z else lqF cs xs k t) = lqF cs xs (k + 1) t := by
  rw [lqF, hj, Int.toNat_natCast, hz]
theorem lq_at (k c : Nat) : (∃ w, w < k ∧ (nth cs w).toNat = c ∧ lqF cs xs k c = ciF cs xs w) ∨ ((∀ w, w < k → (nth cs w).toNat ≠ c) ∧ lqF cs xs k c = 0) := by
  induction k with
  | zero => exact .inr ⟨fun w h => absurd h (by omega), rfl⟩
  | succ k ih =>
    rw [lqF]
    by_cases e : c = (nth cs k).toNat
    · rw [if_pos e]; exact .inl ⟨k, by omega, e.symm, rfl⟩
    · rw [if_neg e]
      rcases ih with ⟨w, a, b, d⟩ | ⟨a, d⟩
      · exact .inl ⟨w, by omega, b, d⟩
      · refine .inr ⟨fun w hw => ?_, d⟩
        by_cases e2 : w = k
        · subst e2; exact fun q => e q.symm
        · exact a w (by omega)
theorem Cq.lq (h : Cq cs n m) (hn : n ≤ 8) (hx : ∀ i, InMk n (nth xs i)) (hc : cgO cs xs n = true) {c : Nat} (hcm : c < m) : lqF cs xs n c = qaF cs xs n n c := by
  rcases lq_at (cs := cs) (xs := xs) n c with ⟨w, a, b, d⟩ | ⟨a, -⟩
  · rw [d, ← h.qa_cg hn hx hc a, b]
  · obtain ⟨i, h1, h2⟩ := h.all c hcm
    exact absurd (by rw [h2, Int.toNat_natCast]) (a i h1)
end

end Go.Proofs.Ytecjmibnoldpgaa
