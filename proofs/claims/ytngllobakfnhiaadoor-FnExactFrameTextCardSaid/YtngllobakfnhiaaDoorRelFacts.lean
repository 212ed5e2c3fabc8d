/- The facts that the law FnRelations asks of every relation and mask. Plain mathematics. -/
import Derived.Test.YtngllobakfnhiaaDoorRelMath
namespace Go.Proofs.YtngllobakfnhiaaDoor
open Go.RowKit

theorem mskB_InN {n : Nat} (hn : n ≤ 30) (x : Int) : mskB n x = true ↔ InMk n x := by
  have hp := pow_bd (n : Int) (by omega) (by omega)
  rw [mskB, inB, full_eq _ (by omega) (by omega), Int.toNat_natCast]
  rw [Int.toNat_natCast] at hp
  unfold InMk
  simp
  omega
theorem mksTo_iff {n : Nat} (hn : n ≤ 30) (xs : List Int) (k : Nat) : mksTo n xs k = true ↔ ∀ i, i < k → InMk n (nth xs i) := by
  induction k with
  | zero => simp [mksTo]
  | succ k ih =>
    rw [mksTo, Bool.and_eq_true, ih, mskB_InN hn]
    constructor
    · rintro ⟨h1, h2⟩ i hi
      rcases Nat.lt_succ_iff_lt_or_eq.1 hi with h | h
      · exact h1 i h
      · subst h; exact h2
    · intro h
      exact ⟨fun i hi => h i (by omega), h k (by omega)⟩
theorem nth_high {xs : List Int} {i : Nat} (h : xs.length ≤ i) : nth xs i = 0 := by
  unfold nth
  rw [List.getD_eq_getElem?_getD, List.getElem?_eq_none h]
  rfl
theorem rel_of {xs : List Int} {m : Int} (h : bothI xs xs.length m = 0) : xs.length ≤ 30 ∧ Rel xs.length (nth xs) ∧ InMk xs.length m ∧ chkI xs xs.length = 0 := by
  obtain ⟨h1, h2, h3⟩ := mksTo_small h
  refine ⟨h1, fun i => ?_, (mskB_InN h1 m).1 h3, chkI_ok (by omega) h2⟩
  by_cases hi : i < xs.length
  · exact (mksTo_iff h1 xs xs.length).1 h2 i hi
  · rw [nth_high (by omega)]; exact InMk.zero _
theorem both_of {n : Nat} (hn : n ≤ 30) {ys : List Int} (hl : ys.length = n) (hr : Rel n (nth ys)) {m : Int} (hm : InMk n m) : bothI ys n m = 0 ∧ chkI ys n = 0 := by
  have h1 : mksTo n ys n = true := (mksTo_iff hn ys n).2 fun i _ => hr i
  exact ⟨by rw [bothI_of (by omega) h1 ((mskB_InN hn m).2 hm)]; rfl, chkI_ok (by omega) h1⟩
theorem tab_rel {n : Nat} {F : Nat → Int} (h : ∀ i, i < n → InMk n (F i)) : Rel n (nth (tab n F)) := fun i => by
  by_cases hi : i < n
  · rw [tab_nth n F i hi]; exact h i hi
  · rw [nth_high (by rw [tab_len]; omega)]; exact InMk.zero _
theorem cmp_zero {xs ys : List Int} {n : Nat} (h1 : chkI xs n = 0) (h2 : chkI ys n = 0) : cmpI xs ys n n = 0 := by rw [cmpI_of h1 h2]; simp
theorem nots {n : Nat} (hn : n ≤ 30) {x y : Int} (hx : InMk n x) (hy : InMk n y) (h : ∀ i, T x i = true → T y i = true) : bits .andNot .i64 x y = 0 := by
  have hb := hx.bd hn
  have h1 := subB_andNot x y (by omega)
  rw [(subB_T hb (hy.bd hn)).2 h] at h1
  exact beq_iff_eq.1 h1
theorem T_full {n : Nat} (hn : n ≤ 30) (i : Nat) : T (full n) i = decide (i < n) := by
  rw [full_eq _ (by omega) (by omega), Int.toNat_natCast, T, show ((2 : Int) ^ n - 1) = ((2 ^ n - 1 : Nat) : Int) by have := Nat.two_pow_pos n; rw [Int.natCast_sub (by omega)]; simp, Int.toNat_natCast, Nat.testBit_two_pow_sub_one]
theorem InMk.full {n : Nat} (hn : n ≤ 30) : InMk n (full n) := by
  have hp := pow_bd (n : Int) (by omega) (by omega)
  rw [Int.toNat_natCast] at hp
  rw [full_eq _ (by omega) (by omega), Int.toNat_natCast]
  exact ⟨by omega, by omega⟩

def bsL (xs : List Int) : List Int := tab xs.length (fun t => ivTo xs t xs.length)
def insV (xs : List Int) (m : Int) : Int := boxTo (bsL xs) m xs.length
def csL (xs : List Int) : List Int := tab xs.length (tcTo xs xs.length xs.length)

structure RelFacts (xs : List Int) (m : Int) : Prop where
  small : xs.length ≤ 30
  chk : chkI xs xs.length = 0
  b1 : bothI xs xs.length (imgTo xs m xs.length) = 0
  b2 : bothI (bsL xs) xs.length m = 0
  b3 : bothI xs xs.length (insV xs m) = 0
  b4 : bothI (bsL xs) xs.length (insV xs m) = 0
  c1 : cmpI (csL xs) (csL xs) xs.length xs.length = 0
  c2 : cmpI xs (csL xs) xs.length xs.length = 0
  n1 : bits .andNot .i64 m (boxTo xs (imgTo xs m xs.length) xs.length) = 0
  n2 : bits .andNot .i64 (imgTo (bsL xs) (insV xs m) xs.length) m = 0
  n3 : bits .andNot .i64 (imgTo xs (insV xs m) xs.length) (full xs.length) = 0
  e1 : ∀ i, i < xs.length → nth (csL xs) i = bits .or .i64 (nth xs i) (nth (cpTo xs (csL xs) xs.length) i)
  e2 : ∀ i, i < xs.length → bits .andNot .i64 (nth (cpTo (csL xs) (csL xs) xs.length) i) (nth (csL xs) i) = 0

theorem rel_facts {xs : List Int} {m : Int} (h : bothI xs xs.length m = 0) : RelFacts xs m := by
  obtain ⟨hn, hr, hm, hc⟩ := rel_of h
  obtain ⟨n, hnn⟩ : ∃ n, n = xs.length := ⟨_, rfl⟩
  have hmb := hm.bd hn
  obtain ⟨i1, i2⟩ := imgTo_T hn hr hmb xs.length
  have iv := fun t => ivTo_T hn hr t xs.length (Nat.le_refl _)
  have hbl : (bsL xs).length = xs.length := tab_len _ _
  have hbr : Rel xs.length (nth (bsL xs)) := tab_rel fun i _ => (iv i).1
  have hbT : ∀ i j, T (nth (bsL xs) i) j = true ↔ i < xs.length ∧ j < xs.length ∧ T (nth xs j) i = true := fun i j => by
    by_cases hi : i < xs.length
    · rw [bsL, tab_nth _ _ _ hi, (iv i).2 j]; simp [hi]
    · rw [nth_high (by rw [hbl]; omega), T_zero]; simp [hi]
  obtain ⟨s1, s2⟩ := boxTo_T hn hbr hmb xs.length (Nat.le_refl _)
  have s1' : InMk xs.length (insV xs m) := s1
  have s2' : ∀ i, T (insV xs m) i = true ↔ i < xs.length ∧ ∀ j, T (nth (bsL xs) i) j = true → T m j = true := s2
  obtain ⟨x1, x2⟩ := boxTo_T hn hr (i1.bd hn) xs.length (Nat.le_refl _)
  obtain ⟨g1, g2⟩ := imgTo_T hn hbr (s1'.bd hn) xs.length
  obtain ⟨a1, a2⟩ := imgTo_T hn hr (s1'.bd hn) xs.length
  obtain ⟨t1, t2, t3⟩ := tcTo_T hn hr (fun i hi => nth_high hi) xs.length
  have hcl : (csL xs).length = xs.length := tab_len _ _
  have hcr : Rel xs.length (nth (csL xs)) := tab_rel fun i _ => t1 i
  have hcT : ∀ i j, T (nth (csL xs) i) j = true ↔ P (fun a b => T (nth xs a) b = true) xs.length i j := fun i j => by
    by_cases hi : i < xs.length
    · rw [csL, tab_nth _ _ _ hi]; exact t3 i j
    · rw [nth_high (by rw [hcl]; omega), ← t3 i j, t2 i (by omega)]
  have hin : ∀ i j, T (nth xs i) j = true → j < xs.length := fun i j hj => by
    refine Classical.byContradiction fun hh => ?_
    rw [T_high (hr i) (by omega)] at hj; cases hj
  have hcin : ∀ i j, T (nth (csL xs) i) j = true → j < xs.length := fun i j hj => by
    refine Classical.byContradiction fun hh => ?_
    rw [T_high (hcr i) (by omega)] at hj; cases hj
  have hst : ∀ (ys : List Int), Rel xs.length (nth ys) → ∀ i, i < xs.length → InMk xs.length (nth (cpTo ys (csL xs) xs.length) i) ∧ ∀ j, T (nth (cpTo ys (csL xs) xs.length) i) j = true ↔ ∃ v, v < xs.length ∧ T (nth ys i) v = true ∧ T (nth (csL xs) v) j = true := fun ys hy i hi => by
    rw [cpTo_nth _ _ _ _ hi, hcl]
    exact imgTo_T hn hcr ((hy i).bd hn) xs.length
  obtain ⟨b1, -⟩ := both_of hn rfl hr i1
  obtain ⟨b2, -⟩ := both_of hn hbl hbr hm
  obtain ⟨b3, -⟩ := both_of hn rfl hr s1'
  obtain ⟨b4, -⟩ := both_of hn hbl hbr s1'
  obtain ⟨-, k1⟩ := both_of hn hcl hcr hm
  refine ⟨hn, hc, b1, b2, b3, b4, cmp_zero k1 k1, cmp_zero hc k1, ?_, ?_, ?_, ?_, ?_⟩
  · refine nots hn hm x1 fun i hi => (x2 i).2 ⟨?_, fun j hj => (i2 j).2 ⟨i, ?_, hi, hj⟩⟩
    all_goals
      refine Classical.byContradiction fun hh => ?_
      rw [T_high hm (by omega)] at hi; cases hi
  · refine nots hn g1 hm fun i hi => ?_
    obtain ⟨j, _, h1, h2⟩ := (g2 i).1 hi
    exact ((s2' j).1 h1).2 i h2
  · refine nots hn a1 (InMk.full hn) fun i hi => ?_
    rw [T_full hn, decide_eq_true_eq]
    refine Classical.byContradiction fun hh => ?_
    rw [T_high a1 (by omega)] at hi; cases hi
  · intro i hi
    obtain ⟨q1, q2⟩ := hst xs hr i hi
    refine T_ext (hcr i) ((hr i).or hn q1) fun j => ?_
    rw [T_or hn (hr i) q1, Bool.eq_iff_iff, Bool.or_eq_true, q2 j, hcT i j]
    constructor
    · intro hp
      rcases P_first xs.length (Nat.le_refl _) hp with h1 | ⟨v, h1, h2⟩
      · exact .inl h1
      · exact .inr ⟨v, hin i v h1, h1, (hcT v j).2 h2⟩
    · rintro (h1 | ⟨v, h0, h1, h2⟩)
      · exact P_mono (Nat.zero_le _) h1
      · exact P_trans xs.length h0 (P_mono (Nat.zero_le _) h1) ((hcT v j).1 h2)
  · intro i hi
    obtain ⟨q1, q2⟩ := hst (csL xs) hcr i hi
    refine nots hn q1 (hcr i) fun j hj => ?_
    obtain ⟨v, h0, h1, h2⟩ := (q2 j).1 hj
    exact (hcT i j).2 (P_trans xs.length h0 ((hcT i v).1 h1) ((hcT v j).1 h2))

end Go.Proofs.YtngllobakfnhiaaDoor
