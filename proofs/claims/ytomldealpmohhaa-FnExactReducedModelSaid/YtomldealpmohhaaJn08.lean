/- 2 texts in one: CtN, QuM. -/
import Derived.Test.YtomldealpmohhaaNuM
import Derived.Test.YtomldealpmohhaaJn07
/- The list of the numbers of things with labels. Plain mathematics. -/
namespace Go.Proofs.Ytomldealpmohhaa
open Go.RowKit

noncomputable def nuL (n : Nat) (l : Nat → Lit) : List Int := tab n (fun i => (numF l i : Int))
theorem nuL_len (n : Nat) (l : Nat → Lit) : (nuL n l).length = n := tab_len _ _
theorem nuL_bd {n : Nat} {l : Nat → Lit} (i : Nat) : 0 ≤ nth (nuL n l) i ∧ nth (nuL n l) i ≤ n := by
  by_cases h : i < n
  · rw [nuL, tab_nth _ _ _ h]
    have := num_lt (l := l) h
    have := st_bd (l := l) n
    omega
  · rw [nth_high (by rw [nuL_len]; omega)]; omega
theorem nuL_iff {n : Nat} {l : Nat → Lit} {i j : Nat} (hi : i < n) (hj : j < n) : nth (nuL n l) i = nth (nuL n l) j ↔ l i = l j := by
  rw [nuL, tab_nth _ _ _ hi, tab_nth _ _ _ hj, ← num_iff]
  omega

end Go.Proofs.Ytomldealpmohhaa

/- Quotients: the arrows and the values of the model of classes. Plain mathematics. -/
namespace Go.Proofs.Ytomldealpmohhaa
open Go.RowKit

structure Cq (cs : List Int) (n m : Nat) : Prop where
  len : cs.length = n
  bd : ∀ i, i < n → 0 ≤ nth cs i ∧ nth cs i < m
  mn : m ≤ n
  all : ∀ c, c < m → ∃ i, i < n ∧ nth cs i = (c : Int)
theorem st_all {l : Nat → Lit} : ∀ k c, c < (stF l k).1 → ∃ j, j < k ∧ numF l j = c
  | 0, c, h => absurd h (by show ¬ c < 0; omega)
  | k + 1, c, h => by
    cases hs : (stF l k).2 (l k) with
    | some i =>
      rw [(st_old hs).1] at h
      obtain ⟨j, h1, h2⟩ := st_all k c h
      exact ⟨j, by omega, h2⟩
    | none =>
      obtain ⟨e1, e2⟩ := st_new hs
      rw [e1] at h
      have h' : c < (stF l k).1 + 1 := h
      by_cases e : c = (stF l k).1
      · exact ⟨k, by omega, by rw [e2, e]⟩
      · obtain ⟨j, h1, h2⟩ := st_all (l := l) k c (by omega)
        exact ⟨j, by omega, h2⟩
theorem cq_of (n : Nat) (l : Nat → Lit) : Cq (nuL n l) n (stF l n).1 := by
  refine ⟨nuL_len _ _, fun i hi => ?_, st_bd n, fun c hc => ?_⟩
  · rw [nuL, tab_nth _ _ _ hi]
    have h := st_has (l := l) n
    have h2 := (h.2.1 _ _ (h.1 i hi)).2
    omega
  · obtain ⟨j, h1, h2⟩ := st_all n c hc
    exact ⟨j, h1, by rw [nuL, tab_nth _ _ _ h1, h2]⟩

section
variable {cs xs ys : List Int} {n m : Nat}
theorem Cq.b30 (h : Cq cs n m) (i : Nat) : 0 ≤ nth cs i ∧ nth cs i ≤ m := by
  by_cases hi : i < n
  · have := h.bd i hi; omega
  · rw [nth_high (by rw [h.len]; omega)]; omega
theorem Cq.co (h : Cq cs n m) (hn : n ≤ 8) {q : Int} (hq : InMk n q) {k : Nat} (hk : k ≤ n) : InMk m (coTo cs q k) ∧ ∀ t, T (coTo cs q k) t = true ↔ ∃ i, i < k ∧ T q i = true ∧ nth cs i = t :=
  coTo_T (by have := h.mn; omega) h.b30 (fun i hi => (h.bd i (by rw [h.len] at hi; exact hi)).2) (by omega) hq k (by rw [h.len]; exact hk)
theorem Cq.full (h : Cq cs n m) (hn : n ≤ 8) : coTo cs (full n) n = full m := by
  have hm := h.mn
  obtain ⟨a, b⟩ := h.co hn (InMk.full (by omega)) (Nat.le_refl n)
  refine T_ext a (InMk.full (by omega)) fun t => ?_
  rw [Bool.eq_iff_iff, b t, T_full (by omega), decide_eq_true_eq]
  constructor
  · rintro ⟨i, h1, h2, h3⟩
    have := h.bd i h1
    omega
  · intro ht
    obtain ⟨i, h1, h2⟩ := h.all t ht
    exact ⟨i, h1, by rw [T_full (by omega)]; exact decide_eq_true h1, h2⟩
theorem pop_ones : ∀ m : Nat, pop (2 ^ m - 1) = m
  | 0 => by rw [pop]; rfl
  | m + 1 => by
    have h := Nat.two_pow_pos m
    have e : 2 ^ (m + 1) = 2 * 2 ^ m := by rw [Nat.pow_succ]; omega
    rw [pop, dif_neg (by omega), show (2 ^ (m + 1) - 1) % 2 = 1 by omega, show (2 ^ (m + 1) - 1) / 2 = 2 ^ m - 1 by omega, pop_ones m]
    omega

theorem or_as {a b c : Int} (hm : m ≤ 30) (ha : InMk m a) (hb : InMk m b) (hc : InMk m c) : bits .or .i64 (bits .or .i64 a b) c = bits .or .i64 a (bits .or .i64 b c) :=
  T_ext ((ha.or hm hb).or hm hc) (ha.or hm (hb.or hm hc)) fun t => by rw [T_or hm (ha.or hm hb) hc, T_or hm ha hb, T_or hm ha (hb.or hm hc), T_or hm hb hc, Bool.or_assoc]
theorem or_nil {a : Int} (hm : m ≤ 30) (ha : InMk m a) : bits .or .i64 a 0 = a :=
  T_ext (ha.or hm (InMk.zero m)) ha fun t => by rw [T_or hm ha (InMk.zero m), T_zero, Bool.or_false]

/-- The arrows of the classes, from the first w worlds. -/
def qaF (cs xs : List Int) (n : Nat) : Nat → Nat → Int
  | 0, _ => 0
  | w + 1, c => if c = (nth cs w).toNat then bits .or .i64 (qaF cs xs n w c) (coTo cs (nth xs w) n) else qaF cs xs n w c
theorem Cq.qa (h : Cq cs n m) (hn : n ≤ 8) (hx : ∀ i, InMk n (nth xs i)) (c : Nat) : ∀ w, InMk m (qaF cs xs n w c)
  | 0 => InMk.zero m
  | w + 1 => by
    have hm := h.mn
    rw [qaF]
    split
    · exact (h.qa hn hx c w).or (by omega) (h.co hn (hx w) (Nat.le_refl n)).1
    · exact h.qa hn hx c w
theorem qa_set {w j : Nat} {z : Int} (hj : nth cs w = (j : Int)) (hz : z = bits .or .i64 (qaF cs xs n w j) (coTo cs (nth xs w) n)) (t : Nat) : (if t = j then z else qaF cs xs n w t) = qaF cs xs n (w + 1) t := by
  rw [qaF, hj, Int.toNat_natCast, hz]
  by_cases e : t = j
  · rw [if_pos e, if_pos e, e]
  · rw [if_neg e, if_neg e]
/-- .. and the world x's first y arrows. -/
def qiF (cs xs : List Int) (n x y t : Nat) : Int := if t = (nth cs x).toNat then bits .or .i64 (qaF cs xs n x t) (coTo cs (nth xs x) y) else qaF cs xs n x t
theorem Cq.qi0 (h : Cq cs n m) (hn : n ≤ 8) (hx : ∀ i, InMk n (nth xs i)) (x t : Nat) : qaF cs xs n x t = qiF cs xs n x 0 t := by
  have hm := h.mn
  unfold qiF
  split
  · exact (or_nil (m := m) (by omega) (h.qa hn hx t x)).symm
  · rfl
theorem qi_all (x t : Nat) : qiF cs xs n x n t = qaF cs xs n (x + 1) t := rfl
theorem Cq.qi_set (h : Cq cs n m) (hn : n ≤ 8) (hx : ∀ i, InMk n (nth xs i)) {x y j : Nat} {z : Int} (hy : y < n) (hj : nth cs x = (j : Int)) (hb : bitB (nth xs x) y = true) (hz : z = bits .or .i64 (qiF cs xs n x y j) (one (nth cs y))) (t : Nat) : (if t = j then z else qiF cs xs n x y t) = qiF cs xs n x (y + 1) t := by
  have hm := h.mn
  have e : (nth cs x).toNat = j := by rw [hj, Int.toNat_natCast]
  unfold qiF
  rw [e]
  by_cases ht : t = j
  · rw [if_pos ht, if_pos ht, hz, ht]
    unfold qiF
    rw [e, if_pos rfl, coTo, if_pos hb]
    obtain ⟨q, hq⟩ := Int.eq_ofNat_of_zero_le (h.bd y hy).1
    have hqm : q < m := by have := (h.bd y hy).2; omega
    rw [hq]
    exact or_as (m := m) (by omega) (h.qa hn hx j x) (h.co hn (hx x) (by omega)).1 (InMk.one (by omega) hqm)
  · rw [if_neg ht, if_neg ht, if_neg ht]
theorem qi_skip {x y : Nat} (hb : bitB (nth xs x) y = false) (t : Nat) : qiF cs xs n x y t = qiF cs xs n x (y + 1) t := by
  unfold qiF
  rw [coTo, hb]
  rfl
/-- The values under way. -/
def qvF (cs ys : List Int) (x v t : Nat) : Int := coTo cs (nth ys t) (if t < v then x + 1 else x)
theorem qv_set {x v : Nat} {z : Int} (hb : bitB (nth ys v) x = true) (hz : z = bits .or .i64 (qvF cs ys x v v) (one (nth cs x))) (t : Nat) : (if t = v then z else qvF cs ys x v t) = qvF cs ys x (v + 1) t := by
  unfold qvF
  by_cases e : t = v
  · subst e
    rw [if_pos rfl, if_pos (by omega), coTo, if_pos hb, hz]
    unfold qvF
    rw [if_neg (by omega)]
  · rw [if_neg e]
    by_cases h2 : t < v
    · rw [if_pos h2, if_pos (by omega)]
    · rw [if_neg h2, if_neg (by omega)]
theorem qv_skip {x v : Nat} (hb : bitB (nth ys v) x = false) (t : Nat) : qvF cs ys x v t = qvF cs ys x (v + 1) t := by
  unfold qvF
  by_cases e : t = v
  · subst e
    rw [if_neg (by omega), if_pos (by omega), coTo, hb]
    rfl
  · by_cases h2 : t < v
    · rw [if_pos h2, if_pos (by omega)]
    · rw [if_neg h2, if_neg (by omega)]
/-- One more than the greatest of the first k class numbers. -/
def mxF (cs : List Int) : Nat → Int
  | 0 => 0
  | k + 1 => if mxF cs k < nth cs k + 1 then nth cs k + 1 else mxF cs k
theorem mx_ge (cs : List Int) : ∀ k, 0 ≤ mxF cs k ∧ ∀ i, i < k → nth cs i + 1 ≤ mxF cs k
  | 0 => ⟨Int.le_refl _, fun i h => absurd h (by omega)⟩
  | k + 1 => by
    obtain ⟨h0, h1⟩ := mx_ge cs k
    rw [mxF]
    split
    · refine ⟨by omega, fun i hi => ?_⟩
      by_cases e : i = k
      · subst e; exact Int.le_refl _
      · have := h1 i (by omega); omega
    · refine ⟨h0, fun i hi => ?_⟩
      by_cases e : i = k
      · subst e; omega
      · exact h1 i (by omega)
theorem Cq.mx_le (h : Cq cs n m) : ∀ k, k ≤ n → mxF cs k ≤ m
  | 0, _ => by show (0 : Int) ≤ m; omega
  | k + 1, hk => by
    have h1 := h.mx_le k (by omega)
    have h2 := (h.bd k (by omega)).2
    rw [mxF]
    split <;> omega
theorem Cq.mx (h : Cq cs n m) : mxF cs n = m := by
  have h1 := h.mx_le n (Nat.le_refl n)
  obtain ⟨h0, h2⟩ := mx_ge cs n
  by_cases e : m = 0
  · omega
  · obtain ⟨i, h3, h4⟩ := h.all (m - 1) (by omega)
    have := h2 i h3
    omega
end

end Go.Proofs.Ytomldealpmohhaa
