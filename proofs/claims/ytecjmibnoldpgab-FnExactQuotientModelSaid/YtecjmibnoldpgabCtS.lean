/- Worlds of two models, and those of their sum, are alike in as many rounds. Plain mathematics. -/
import Derived.Test.YtecjmibnoldpgabCtB
import Derived.Test.YtecjmibnoldpgabJn22
namespace Go.Proofs.Ytecjmibnoldpgab
open Go.RowKit

def shF (n : Nat) (x : Int) : Int := wrap64 (x * 2 ^ (n : Int).toNat)
theorem shF_eq {n p : Nat} (hn : n ≤ 8) (hp : p ≤ 8) {x : Int} (hx : InMk p x) : shF n x = ((x.toNat * 2 ^ n : Nat) : Int) ∧ InMk (n + p) (shF n x) := by
  have h1 := hx.1
  have h2 : x.toNat < 2 ^ p := hx.nat
  have e : x * 2 ^ (n : Int).toNat = ((x.toNat * 2 ^ n : Nat) : Int) := by
    rw [Int.toNat_natCast]
    obtain ⟨a, rfl⟩ := Int.eq_ofNat_of_zero_le h1
    simp
  have hlt : x.toNat * 2 ^ n < 2 ^ (n + p) := by
    rw [Nat.pow_add, Nat.mul_comm (2 ^ n)]
    exact Nat.mul_lt_mul_of_pos_right h2 (Nat.two_pow_pos n)
  have h16 : 2 ^ (n + p) ≤ 2 ^ 16 := Nat.pow_le_pow_right (by decide) (by omega)
  have e2 : shF n x = ((x.toNat * 2 ^ n : Nat) : Int) := by
    unfold shF
    rw [e]
    exact IntWalk.wrap64_in _ (by omega)
  exact ⟨e2, by rw [e2]; exact InMk.of hlt⟩
theorem shF_T {n p : Nat} (hn : n ≤ 8) (hp : p ≤ 8) {x : Int} (hx : InMk p x) (i : Nat) : T (shF n x) i = (decide (n ≤ i) && T x (i - n)) := by
  rw [(shF_eq hn hp hx).1, T, Int.toNat_natCast, T, ← Nat.shiftLeft_eq, Nat.testBit_shiftLeft]
theorem InMk.up {n m : Nat} (h : n ≤ m) {x : Int} (hx : InMk n x) : InMk m x := by
  obtain ⟨a, rfl⟩ := Int.eq_ofNat_of_zero_le hx.1
  exact InMk.of (Nat.lt_of_lt_of_le (by have := hx.nat; simpa using this) (Nat.pow_le_pow_right (by decide) h))

theorem smTo_nth (xs ps : List Int) (n : Int) (k i : Nat) : nth (smTo xs ps n k) i = if i < xs.length then nth xs i else if i < xs.length + k then wrap64 (nth ps (i - xs.length) * 2 ^ n.toNat) else 0 := by
  induction k with
  | zero =>
    by_cases h : i < xs.length
    · rw [if_pos h]; rfl
    · rw [if_neg h, if_neg (by omega)]
      exact nth_high (by show xs.length ≤ i; omega)
  | succ k ih =>
    show nth (smTo xs ps n k ++ [wrap64 (nth ps k * 2 ^ n.toNat)]) i = _
    by_cases h : i < xs.length + k
    · rw [nth_left _ _ _ (by rw [smTo_len]; exact h), ih]
      by_cases h2 : i < xs.length
      · rw [if_pos h2, if_pos h2]
      · rw [if_neg h2, if_neg h2, if_pos h, if_pos (by omega)]
    · by_cases e : i = xs.length + k
      · subst e
        rw [nth_snoc _ _ _ (smTo_len _ _ _ _), if_neg (by omega), if_pos (by omega), show xs.length + k - xs.length = k by omega]
      · rw [nth_high (by simp [smTo_len]; omega), if_neg (by omega), if_neg (by omega)]

section
variable {xs ys ps zs : List Int}
/-- The sum of two models. -/
def sXs (xs ps : List Int) : List Int := smTo xs ps xs.length ps.length
def sYs (xs ys zs : List Int) : List Int := tab ys.length (smF xs.length ys zs)
theorem sXs_len (xs ps : List Int) : (sXs xs ps).length = xs.length + ps.length := smTo_len _ _ _ _
theorem sXs_lo {i : Nat} (h : i < xs.length) : nth (sXs xs ps) i = nth xs i := by rw [sXs, smTo_nth, if_pos h]
theorem sXs_hi {y : Nat} (h : y < ps.length) : nth (sXs xs ps) (xs.length + y) = shF xs.length (nth ps y) := by
  rw [sXs, smTo_nth, if_neg (by omega), if_pos (by omega), show xs.length + y - xs.length = y by omega]; rfl
theorem sYs_nth {v : Nat} (h : v < ys.length) : nth (sYs xs ys zs) v = bits .or .i64 (nth ys v) (shF xs.length (nth zs v)) := by
  rw [sYs, tab_nth _ _ _ h]; rfl

structure Two (xs ys ps zs : List Int) : Prop where
  x8 : xs.length ≤ 8
  p8 : ps.length ≤ 8
  xr : Rel xs.length (nth xs)
  pr : Rel ps.length (nth ps)
  yr : ∀ i, InMk xs.length (nth ys i)
  zr : ∀ i, InMk ps.length (nth zs i)
  y6 : ys.length = 6
  z6 : zs.length = 6
theorem Two.of {n0 n1 : Int} (h0 : isM n0 xs ys = true) (h1 : isM n1 ps zs = true) : Two xs ys ps zs := by
  obtain ⟨e1, e2, e3, e4⟩ := isM_rel h0
  obtain ⟨f1, f2, f3, f4⟩ := isM_rel h1
  obtain ⟨-, -, -, -, y6, -⟩ := isM_ok h0
  obtain ⟨-, -, -, -, z6, -⟩ := isM_ok h1
  exact ⟨e2, f2, e3, f3, e4, f4, y6, z6⟩
theorem Two.sum (h : Two xs ys ps zs) : Sm1 (sXs xs ps) (sYs xs ys zs) := by
  have h1 := h.x8
  have h2 := h.p8
  refine ⟨by rw [sXs_len]; omega, fun i => ?_, fun v => ?_⟩
  · rw [sXs_len]
    by_cases hi : i < xs.length
    · rw [sXs_lo hi]; exact (h.xr i).up (by omega)
    · by_cases hj : i < xs.length + ps.length
      · obtain ⟨y, rfl⟩ := Nat.exists_eq_add_of_le (Nat.le_of_not_lt hi)
        rw [sXs_hi (by omega)]
        exact (shF_eq h1 h2 (h.pr y)).2
      · rw [nth_high (by rw [sXs_len]; omega)]; exact InMk.zero _
  · rw [sXs_len]
    by_cases hv : v < ys.length
    · rw [sYs_nth hv]
      exact ((h.yr v).up (by omega)).or (by omega) (shF_eq h1 h2 (h.zr v)).2
    · rw [nth_high (by rw [sYs, tab_len]; omega)]; exact InMk.zero _
theorem Two.val (h : Two xs ys ps zs) {v : Nat} (hv : v < 6) (i : Nat) : T (nth (sYs xs ys zs) v) i = (T (nth ys v) i || (decide (xs.length ≤ i) && T (nth zs v) (i - xs.length))) := by
  have h1 := h.x8
  have h2 := h.p8
  rw [sYs_nth (by rw [h.y6]; exact hv), T_or (n := xs.length + ps.length) (by omega) ((h.yr v).up (by omega)) (shF_eq h1 h2 (h.zr v)).2, shF_T h1 h2 (h.zr v)]
theorem Two.val_lo (h : Two xs ys ps zs) {v : Nat} (hv : v < 6) {x : Nat} (hx : x < xs.length) : T (nth (sYs xs ys zs) v) x = T (nth ys v) x := by
  rw [h.val hv, decide_eq_false (by omega)]; simp
theorem Two.val_hi (h : Two xs ys ps zs) {v : Nat} (hv : v < 6) (y : Nat) : T (nth (sYs xs ys zs) v) (xs.length + y) = T (nth zs v) y := by
  rw [h.val hv, T_high (h.yr v) (by omega), decide_eq_true (by omega), show xs.length + y - xs.length = y by omega]; simp
/-- Alike in the sum. -/
theorem Two.bb (h : Two xs ys ps zs) (k : Nat) {x y : Nat} (hx : x < xs.length) (hy : y < ps.length) : BB (sXs xs ps) (sYs xs ys zs) (sXs xs ps) (sYs xs ys zs) k x (xs.length + y) ↔ BB xs ys ps zs k x y := by
  have h1 := h.x8
  have h2 := h.p8
  have at_ : ∀ {x y : Nat}, x < xs.length → ((∀ v, v < 6 → T (nth (sYs xs ys zs) v) x = T (nth (sYs xs ys zs) v) (xs.length + y)) ↔ ∀ v, v < 6 → T (nth ys v) x = T (nth zs v) y) := by
    intro x y hx
    constructor
    · intro e v hv
      have := e v hv
      rw [h.val_lo hv hx, h.val_hi hv] at this
      exact this
    · intro e v hv
      rw [h.val_lo hv hx, h.val_hi hv]
      exact e v hv
  induction k generalizing x y with
  | zero => exact at_ hx
  | succ k ih =>
    show (_ ∧ _ ∧ _) ↔ (_ ∧ _ ∧ _)
    rw [at_ hx]
    refine and_congr_right fun _ => and_congr ?_ ?_
    · constructor
      · intro e x' hx'
        obtain ⟨y', h3, h4⟩ := e x' (by rw [sXs_lo hx]; exact hx')
        rw [sXs_hi hy, shF_T h1 h2 (h.pr y), Bool.and_eq_true, decide_eq_true_eq] at h3
        obtain ⟨z, rfl⟩ := Nat.exists_eq_add_of_le h3.1
        rw [show xs.length + z - xs.length = z by omega] at h3
        exact ⟨z, h3.2, (ih (T_lt (h.xr x) hx') (T_lt (h.pr y) h3.2)).1 h4⟩
      · intro e x' hx'
        rw [sXs_lo hx] at hx'
        obtain ⟨y', h3, h4⟩ := e x' hx'
        exact ⟨xs.length + y', by rw [sXs_hi hy, shF_T h1 h2 (h.pr y), Bool.and_eq_true, decide_eq_true_eq, show xs.length + y' - xs.length = y' by omega]; exact ⟨by omega, h3⟩, (ih (T_lt (h.xr x) hx') (T_lt (h.pr y) h3)).2 h4⟩
    · constructor
      · intro e y' hy'
        obtain ⟨x', h3, h4⟩ := e (xs.length + y') (by rw [sXs_hi hy, shF_T h1 h2 (h.pr y), Bool.and_eq_true, decide_eq_true_eq, show xs.length + y' - xs.length = y' by omega]; exact ⟨by omega, hy'⟩)
        rw [sXs_lo hx] at h3
        exact ⟨x', h3, (ih (T_lt (h.xr x) h3) (T_lt (h.pr y) hy')).1 h4⟩
      · intro e y' hy'
        rw [sXs_hi hy, shF_T h1 h2 (h.pr y), Bool.and_eq_true, decide_eq_true_eq] at hy'
        obtain ⟨z, rfl⟩ := Nat.exists_eq_add_of_le hy'.1
        rw [show xs.length + z - xs.length = z by omega] at hy'
        obtain ⟨x', h3, h4⟩ := e z hy'.2
        exact ⟨x', by rw [sXs_lo hx]; exact h3, (ih (T_lt (h.xr x) h3) (T_lt (h.pr y) hy'.2)).2 h4⟩
/-- .. so worlds are in one class of the sum exactly if they are alike. -/
theorem Two.cls (h : Two xs ys ps zs) (k : Nat) {x y : Nat} (hx : x < xs.length) (hy : y < ps.length) : nth (cLs (xs.length + ps.length) (sXs xs ps) (sYs xs ys zs) k) x = nth (cLs (xs.length + ps.length) (sXs xs ps) (sYs xs ys zs) k) (xs.length + y) ↔ BB xs ys ps zs k x y := by
  have e := cLs_iff h.sum k (i := x) (j := xs.length + y) (by rw [sXs_len]; omega) (by rw [sXs_len]; omega)
  rw [sXs_len] at e
  rw [e, h.bb k hx hy]

/-! The model's links. -/
def lkS (xs ys ps zs : List Int) (x : Nat) : Int := mkT (fun y => atB ys zs x y ys.length) ps.length
def lkN (xs ys ps zs : List Int) : Nat → List Int
  | 0 => tab xs.length (lkS xs ys ps zs)
  | k + 1 => tab xs.length (stV xs ys ps zs (lkN xs ys ps zs k))
theorem lkN_len (xs ys ps zs : List Int) (k : Nat) : (lkN xs ys ps zs k).length = xs.length := by cases k <;> exact tab_len _ _
theorem Two.lk (h : Two xs ys ps zs) (k : Nat) : Lk xs ys ps zs (lkN xs ys ps zs k) := by
  have hp := Nat.le_trans h.p8 (show 8 ≤ 30 by decide)
  refine ⟨h.x8, h.p8, h.xr, h.pr, h.yr, h.zr, by rw [h.y6, h.z6], lkN_len _ _ _ _ _, fun i => ?_⟩
  cases k with
  | zero => exact tab_in (fun i _ => (mkT_T hp ps.length (Nat.le_refl _)).1) i
  | succ k => exact tab_in (fun i _ => (mkT_T hp ps.length (Nat.le_refl _)).1) i
theorem Two.lk_T (h : Two xs ys ps zs) (k : Nat) {x : Nat} (hx : x < xs.length) (y : Nat) : T (nth (lkN xs ys ps zs k) x) y = true ↔ y < ps.length ∧ BB xs ys ps zs k x y := by
  have hp := Nat.le_trans h.p8 (show 8 ≤ 30 by decide)
  have hxx := Nat.le_trans h.x8 (show 8 ≤ 30 by decide)
  induction k generalizing x y with
  | zero =>
    rw [lkN, tab_nth _ _ _ hx, lkS, (mkT_T hp ps.length (Nat.le_refl _)).2 y, Bool.and_eq_true, decide_eq_true_eq, atB_T hxx hp h.yr h.zr, h.y6]
    rfl
  | succ k ih =>
    rw [lkN, tab_nth _ _ _ hx, (h.lk k).st_T, lkN_len, h.y6]
    constructor
    · rintro ⟨a, b, c, d⟩
      refine ⟨a, b, fun x' hx' => ?_, fun y' hy' => ?_⟩
      · obtain ⟨z, h3, h4⟩ := c x' (T_lt (h.xr x) hx') hx'
        exact ⟨z, h3, ((ih (T_lt (h.xr x) hx') z).1 h4).2⟩
      · obtain ⟨j, h3, h4, h5⟩ := d y' hy'
        exact ⟨j, h4, ((ih h3 y').1 h5).2⟩
    · rintro ⟨a, b, c, d⟩
      refine ⟨a, b, fun j hj ht => ?_, fun z hz => ?_⟩
      · obtain ⟨z, h3, h4⟩ := c j ht
        exact ⟨z, h3, (ih hj z).2 ⟨T_lt (h.pr y) h3, h4⟩⟩
      · obtain ⟨j, h3, h4⟩ := d z hz
        exact ⟨j, T_lt (h.xr x) h3, h3, (ih (T_lt (h.xr x) h3) z).2 ⟨T_lt (h.pr y) hz, h4⟩⟩
/-- What the program reads off a round is the model's link. -/
def liL (cs : List Int) (a b : Nat) : List Int := tab a (fun x => mkT (fun y => nth cs (a + y) == nth cs x) b)
theorem Two.link (h : Two xs ys ps zs) (k : Nat) : liL (cLs (xs.length + ps.length) (sXs xs ps) (sYs xs ys zs) k) xs.length ps.length = lkN xs ys ps zs k := by
  have hp := Nat.le_trans h.p8 (show 8 ≤ 30 by decide)
  refine nth_ext (by rw [liL, tab_len, lkN_len]) fun x hx => ?_
  rw [liL, tab_len] at hx
  rw [liL, tab_nth _ _ _ hx]
  refine T_ext (mkT_T hp ps.length (Nat.le_refl _)).1 ((h.lk k).lr x) fun y => ?_
  rw [Bool.eq_iff_iff, (mkT_T hp ps.length (Nat.le_refl _)).2 y, Bool.and_eq_true, decide_eq_true_eq, beq_iff_eq, h.lk_T k hx]
  constructor
  · rintro ⟨a, b⟩; exact ⟨a, (h.cls k hx a).1 b.symm⟩
  · rintro ⟨a, b⟩; exact ⟨a, ((h.cls k hx a).2 b).symm⟩
end

/-- The rounds stop early. -/
theorem stop_le {xs ys : List Int} (h : Sm1 xs ys) {K : Nat} (hne : ∀ j, j < K → cLs xs.length xs ys j ≠ cLs xs.length xs ys (j + 1)) : K ≤ xs.length := by
  have : ∀ j, j ≤ K → j ≤ dK xs ys j := by
    intro j
    induction j with
    | zero => exact fun _ => Nat.zero_le _
    | succ j ih =>
      intro hj
      have h1 := ih (by omega)
      have h2 := dK_lt h j (hne j (by omega))
      omega
  have h1 := this K (Nat.le_refl _)
  have h2 := dK_bd xs ys K
  omega

end Go.Proofs.Ytecjmibnoldpgab
