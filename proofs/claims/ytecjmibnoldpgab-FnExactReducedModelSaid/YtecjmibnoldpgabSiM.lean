/- Simulations and bisimulations: what the program keeps of a link, what the model asks of it. Plain mathematics. -/
import Derived.Test.YtecjmibnoldpgabJn14
import Derived.Test.YtecjmibnoldpgabJn04
namespace Go.Proofs.Ytecjmibnoldpgab
open Go.RowKit

/-! What the program keeps. -/
def kvT (ys zs : List Int) (x : Nat) (s : Int) : Nat → Int
  | 0 => s
  | v + 1 => if bitB (nth ys v) x then bits .and .i64 (kvT ys zs x s v) (nth zs v) else kvT ys zs x s v
def knT (xs ps ls : List Int) (x : Nat) (s : Int) : Nat → Int
  | 0 => s
  | j + 1 => if bitB (nth xs x) j then bits .and .i64 (knT xs ps ls x s j) (piTo ps (nth ls j) ps.length) else knT xs ps ls x s j
def simV (xs ys ps zs ls : List Int) (x : Nat) : Int := knT xs ps ls x (kvT ys zs x (nth ls x) ys.length) ls.length
def simL (xs ys ps zs ls : List Int) : List Int := tab ls.length (simV xs ys ps zs ls)

/-! What the model asks. -/
def foB (ls : List Int) (seen others : Int) : Nat → Bool
  | 0 => true
  | j + 1 => foB ls seen others j && !(bitB seen j && (bits .and .i64 (nth ls j) others == 0))
def gdB (ys zs : List Int) (x y : Nat) (g : Bool) : Nat → Bool
  | 0 => g
  | v + 1 => gdB ys zs x y g v && (!bitB (nth ys v) x || bitB (nth zs v) y)
def beB (xs ys ps zs ls : List Int) (x y : Nat) : Bool := gdB ys zs x y (foB ls (nth xs x) (nth ps y) ls.length) ys.length
def mkT (f : Nat → Bool) : Nat → Int
  | 0 => 0
  | y + 1 => if f y then bits .or .i64 (mkT f y) (one y) else mkT f y
def belV (xs ys ps zs ls : List Int) (x : Nat) : Int := mkT (beB xs ys ps zs ls x) ps.length
def insB (us vs : List Int) : Nat → Bool
  | 0 => true
  | k + 1 => insB us vs k && (bits .andNot .i64 (nth us k) (nth vs k) == 0)

/-- Two models and a link between them. -/
structure Lk (xs ys ps zs ls : List Int) : Prop where
  x8 : xs.length ≤ 8
  p8 : ps.length ≤ 8
  xr : Rel xs.length (nth xs)
  pr : Rel ps.length (nth ps)
  yr : ∀ i, InMk xs.length (nth ys i)
  zr : ∀ i, InMk ps.length (nth zs i)
  yz : zs.length = ys.length
  ll : ls.length = xs.length
  lr : ∀ i, InMk ps.length (nth ls i)

theorem mkT_T {f : Nat → Bool} {n : Nat} (hn : n ≤ 30) (k : Nat) (hk : k ≤ n) : InMk n (mkT f k) ∧ ∀ i, T (mkT f k) i = (decide (i < k) && f i) := by
  induction k with
  | zero => exact ⟨InMk.zero n, fun i => by simp [mkT, T_zero]⟩
  | succ k ih =>
    obtain ⟨h1, h2⟩ := ih (by omega)
    have ho := InMk.one hn (show k < n by omega)
    rw [mkT]
    cases hb : f k
    · rw [if_neg (by simp)]
      refine ⟨h1, fun i => ?_⟩
      rw [h2 i]
      by_cases e : i = k
      · subst e; rw [hb]; simp
      · have : decide (i < k + 1) = decide (i < k) := by rw [decide_eq_decide]; omega
        rw [this]
    · rw [if_pos rfl]
      refine ⟨h1.or hn ho, fun i => ?_⟩
      rw [T_or hn h1 ho, h2 i, T_one (by omega)]
      by_cases e : i = k
      · subst e; rw [hb]; simp
      · have : decide (i < k + 1) = decide (i < k) := by rw [decide_eq_decide]; omega
        rw [this]
        simp [show ¬ k = i from fun h => e h.symm]

theorem kvT_T {ys zs : List Int} {n p : Nat} (hn : n ≤ 30) (hp : p ≤ 30) (hy : ∀ i, InMk p (nth ys i)) (hz : ∀ i, InMk n (nth zs i)) (x : Nat) {s : Int} (hs : InMk n s) (k : Nat) :
    InMk n (kvT ys zs x s k) ∧ ∀ i, T (kvT ys zs x s k) i = true ↔ T s i = true ∧ ∀ v, v < k → T (nth ys v) x = true → T (nth zs v) i = true := by
  induction k with
  | zero => exact ⟨hs, fun i => by simp [kvT]⟩
  | succ k ih =>
    obtain ⟨h1, h2⟩ := ih
    rw [kvT, bitB_T ((hy k).bd hp)]
    cases hb : T (nth ys k) x
    · rw [if_neg (by simp)]
      refine ⟨h1, fun i => (h2 i).trans ⟨fun ⟨a, b⟩ => ⟨a, fun v hv ht => ?_⟩, fun ⟨a, b⟩ => ⟨a, fun v hv => b v (by omega)⟩⟩⟩
      rcases Nat.lt_succ_iff_lt_or_eq.1 hv with h | h
      · exact b v h ht
      · subst h; rw [hb] at ht; cases ht
    · rw [if_pos rfl]
      refine ⟨h1.an hn (hz k), fun i => ?_⟩
      rw [T_an hn h1 (hz k), Bool.and_eq_true, h2 i]
      constructor
      · rintro ⟨⟨a, b⟩, c⟩
        refine ⟨a, fun v hv ht => ?_⟩
        rcases Nat.lt_succ_iff_lt_or_eq.1 hv with h | h
        · exact b v h ht
        · subst h; exact c
      · rintro ⟨a, b⟩
        exact ⟨⟨a, fun v hv => b v (by omega)⟩, b k (by omega) hb⟩

theorem knT_T {xs ps ls : List Int} {p : Nat} (hn : ps.length ≤ 30) (hp : p ≤ 30) (x : Nat) (hx : InMk p (nth xs x)) (hr : Rel ps.length (nth ps)) (hl : ∀ i, InMk ps.length (nth ls i)) {s : Int} (hs : InMk ps.length s) (k : Nat) :
    InMk ps.length (knT xs ps ls x s k) ∧ ∀ i, T (knT xs ps ls x s k) i = true ↔ T s i = true ∧ ∀ j, j < k → T (nth xs x) j = true → i < ps.length ∧ ∃ y, T (nth ps i) y = true ∧ T (nth ls j) y = true := by
  induction k with
  | zero => exact ⟨hs, fun i => by simp [knT]⟩
  | succ k ih =>
    obtain ⟨h1, h2⟩ := ih
    obtain ⟨p1, p2⟩ := piTo_T hn hr (hl k) hn ps.length (Nat.le_refl _)
    rw [knT, bitB_T (hx.bd hp)]
    cases hb : T (nth xs x) k
    · rw [if_neg (by simp)]
      refine ⟨h1, fun i => (h2 i).trans ⟨fun ⟨a, b⟩ => ⟨a, fun v hv ht => ?_⟩, fun ⟨a, b⟩ => ⟨a, fun v hv => b v (by omega)⟩⟩⟩
      rcases Nat.lt_succ_iff_lt_or_eq.1 hv with h | h
      · exact b v h ht
      · subst h; rw [hb] at ht; cases ht
    · rw [if_pos rfl]
      refine ⟨h1.an hn p1, fun i => ?_⟩
      rw [T_an hn h1 p1, Bool.and_eq_true, h2 i, p2 i]
      constructor
      · rintro ⟨⟨a, b⟩, c⟩
        refine ⟨a, fun v hv ht => ?_⟩
        rcases Nat.lt_succ_iff_lt_or_eq.1 hv with h | h
        · exact b v h ht
        · subst h; exact c
      · rintro ⟨a, b⟩
        exact ⟨⟨a, fun v hv => b v (by omega)⟩, b k (by omega) hb⟩

theorem foB_T {ls : List Int} {seen others : Int} {p q : Nat} (hq : q ≤ 30) (hp : p ≤ 30) (hl : ∀ i, InMk q (nth ls i)) (ho : InMk q others) (hs : InMk p seen) (k : Nat) :
    foB ls seen others k = true ↔ ∀ j, j < k → T seen j = true → ∃ y, T others y = true ∧ T (nth ls j) y = true := by
  induction k with
  | zero => simp [foB]
  | succ k ih =>
    rw [foB, Bool.and_eq_true, ih, bitB_T (hs.bd hp), Bool.not_eq_true', Bool.and_eq_false_imp]
    have hz := and_zero hq (hl k) ho
    constructor
    · rintro ⟨a, b⟩ j hj ht
      rcases Nat.lt_succ_iff_lt_or_eq.1 hj with h | h
      · exact a j h ht
      · subst h
        refine Classical.byContradiction fun hh => ?_
        have := b ht
        rw [hz.2 (fun i hi => by
          cases hm : T others i
          · rfl
          · exact absurd ⟨i, hm, hi⟩ hh)] at this
        cases this
    · intro h
      refine ⟨fun j hj => h j (by omega), fun ht => ?_⟩
      obtain ⟨y, h1, h2⟩ := h k (by omega) ht
      rw [Bool.eq_false_iff]
      intro hh
      rw [hz.1 hh y h2] at h1
      cases h1

theorem gdB_T {ys zs : List Int} {p q : Nat} (hp : p ≤ 30) (hq : q ≤ 30) (hy : ∀ i, InMk p (nth ys i)) (hz : ∀ i, InMk q (nth zs i)) (x y : Nat) (g : Bool) (k : Nat) :
    gdB ys zs x y g k = true ↔ g = true ∧ ∀ v, v < k → T (nth ys v) x = true → T (nth zs v) y = true := by
  induction k with
  | zero => simp [gdB]
  | succ k ih =>
    rw [gdB, Bool.and_eq_true, ih, bitB_T ((hy k).bd hp), bitB_T ((hz k).bd hq)]
    constructor
    · rintro ⟨⟨a, b⟩, c⟩
      refine ⟨a, fun v hv ht => ?_⟩
      rcases Nat.lt_succ_iff_lt_or_eq.1 hv with h | h
      · exact b v h ht
      · subst h; rw [ht] at c; simpa using c
    · rintro ⟨a, b⟩
      refine ⟨⟨a, fun v hv => b v (by omega)⟩, ?_⟩
      cases ht : T (nth ys k) x
      · rfl
      · rw [b k (by omega) ht]; rfl

theorem insB_iff {us vs : List Int} {n : Nat} (hn : n ≤ 30) (ha : ∀ i, InMk n (nth us i)) (hb : ∀ i, InMk n (nth vs i)) (k : Nat) :
    insB us vs k = true ↔ ∀ i, i < k → ∀ y, T (nth us i) y = true → T (nth vs i) y = true := by
  induction k with
  | zero => simp [insB]
  | succ k ih =>
    rw [insB, Bool.and_eq_true, ih, beq_iff_eq, andNot_zero hn (ha k) (hb k)]
    constructor
    · rintro ⟨a, b⟩ i hi
      rcases Nat.lt_succ_iff_lt_or_eq.1 hi with h | h
      · exact a i h
      · subst h; exact b
    · exact fun h => ⟨fun i hi => h i (by omega), h k (by omega)⟩

theorem tab_in {n q : Nat} {F : Nat → Int} (h : ∀ i, i < n → InMk q (F i)) (i : Nat) : InMk q (nth (tab n F) i) := by
  by_cases hi : i < n
  · rw [tab_nth n F i hi]; exact h i hi
  · rw [nth_high (by rw [tab_len]; omega)]; exact InMk.zero _
theorem nth_ext {xs ys : List Int} (hl : xs.length = ys.length) (h : ∀ i, i < xs.length → nth xs i = nth ys i) : xs = ys := by
  apply List.ext_getElem hl
  intro i h1 h2
  have := h i h1
  unfold nth at this
  rw [List.getD_eq_getElem?_getD, List.getD_eq_getElem?_getD, List.getElem?_eq_getElem h1, List.getElem?_eq_getElem h2] at this
  exact this

section
variable {xs ys ps zs ls : List Int}
theorem Lk.sim (h : Lk xs ys ps zs ls) (x : Nat) : InMk ps.length (simV xs ys ps zs ls x) ∧ ∀ i, T (simV xs ys ps zs ls x) i = true ↔ T (nth ls x) i = true ∧ T (belV xs ys ps zs ls x) i = true := by
  have hp := Nat.le_trans h.p8 (show 8 ≤ 30 by decide)
  have hx := Nat.le_trans h.x8 (show 8 ≤ 30 by decide)
  obtain ⟨a1, a2⟩ := kvT_T hp hx h.yr h.zr x (h.lr x) ys.length
  obtain ⟨b1, b2⟩ := knT_T hp hx x (h.xr x) h.pr h.lr a1 ls.length
  refine ⟨b1, fun i => ?_⟩
  rw [simV, b2 i, a2 i, belV, (mkT_T hp ps.length (Nat.le_refl _)).2 i, Bool.and_eq_true, decide_eq_true_eq, beB, gdB_T hx hp h.yr h.zr, foB_T hp hx h.lr (h.pr i) (h.xr x)]
  constructor
  · rintro ⟨⟨a, b⟩, c⟩
    exact ⟨a, T_lt (h.lr x) a, fun j hj ht => (c j hj ht).2, b⟩
  · rintro ⟨a, b, c, d⟩
    exact ⟨⟨a, d⟩, fun j hj ht => ⟨b, c j hj ht⟩⟩
theorem Lk.bel_in (h : Lk xs ys ps zs ls) (x : Nat) : InMk ps.length (belV xs ys ps zs ls x) := (mkT_T (Nat.le_trans h.p8 (by decide)) ps.length (Nat.le_refl _)).1

/-- The program's test and the model's are one. -/
theorem Lk.test (h : Lk xs ys ps zs ls) : decide (simL xs ys ps zs ls = ls) = insB ls (tab ls.length (belV xs ys ps zs ls)) ls.length := by
  have hp := Nat.le_trans h.p8 (show 8 ≤ 30 by decide)
  rw [Bool.eq_iff_iff, decide_eq_true_eq, insB_iff hp h.lr (tab_in fun i _ => h.bel_in i)]
  constructor
  · intro e i hi y hy
    rw [tab_nth _ _ _ hi]
    have : nth (simL xs ys ps zs ls) i = nth ls i := by rw [e]
    rw [simL, tab_nth _ _ _ hi] at this
    rw [← this] at hy
    exact (((h.sim i).2 y).1 hy).2
  · intro hh
    refine nth_ext (by rw [simL, tab_len]) fun i hi => ?_
    rw [simL, tab_len] at hi
    rw [simL, tab_nth _ _ _ hi]
    refine T_ext (h.sim i).1 (h.lr i) fun y => ?_
    rw [Bool.eq_iff_iff, (h.sim i).2 y]
    refine ⟨fun q => q.1, fun q => ⟨q, ?_⟩⟩
    have := hh i hi y q
    rwa [tab_nth _ _ _ hi] at this
/-- .. and what it keeps is what the model keeps. -/
theorem Lk.kept (h : Lk xs ys ps zs ls) (x : Nat) : simV xs ys ps zs ls x = bits .and .i64 (belV xs ys ps zs ls x) (nth ls x) := by
  have hp := Nat.le_trans h.p8 (show 8 ≤ 30 by decide)
  refine T_ext (h.sim x).1 ((h.bel_in x).an hp (h.lr x)) fun y => ?_
  rw [Bool.eq_iff_iff, (h.sim x).2 y, T_an hp (h.bel_in x) (h.lr x), Bool.and_eq_true, And.comm]
end

end Go.Proofs.Ytecjmibnoldpgab
