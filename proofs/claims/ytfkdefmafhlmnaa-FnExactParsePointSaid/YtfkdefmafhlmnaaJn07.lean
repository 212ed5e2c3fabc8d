/- 2 texts in one: RelFacts, Rm. -/
import Derived.Test.YtfkdefmafhlmnaaRelMath
/- The facts that the law FnRelations asks of every relation and mask. Plain mathematics. -/
namespace Go.Proofs.Ytfkdefmafhlmnaa
open Go.RowKit

theorem mskB_InN {n : Nat} (hn : n ≤ 30) (x : Int) : mskB n x = true ↔ InMk n x := by
  have hp := pow_bd (n : Int) (by omega) (by omega)
  rw [mskB, inB, full_eq _ (by omega) (by omega), Int.toNat_natCast]
  rw [Int.toNat_natCast] at hp
  unfold InMk
  simp
  omega
theorem mksTo_iff {n : Nat} (hn : n ≤ 30) (xs : List Int) (k : Nat) : mksTo n xs k = true ↔ ∀ i, i < k → InMk n (nth xs i) := by
  induction k with
  | zero => simp [mksTo]
  | succ k ih =>
    rw [mksTo, Bool.and_eq_true, ih, mskB_InN hn]
    constructor
    · rintro ⟨h1, h2⟩ i hi
      rcases Nat.lt_succ_iff_lt_or_eq.1 hi with h | h
      · exact h1 i h
      · subst h; exact h2
    · intro h
      exact ⟨fun i hi => h i (by omega), h k (by omega)⟩
theorem nth_high {xs : List Int} {i : Nat} (h : xs.length ≤ i) : nth xs i = 0 := by
  unfold nth
  rw [List.getD_eq_getElem?_getD, List.getElem?_eq_none h]
  rfl
theorem rel_of {xs : List Int} {m : Int} (h : bothI xs xs.length m = 0) : xs.length ≤ 30 ∧ Rel xs.length (nth xs) ∧ InMk xs.length m ∧ chkI xs xs.length = 0 := by
  obtain ⟨h1, h2, h3⟩ := mksTo_small h
  refine ⟨h1, fun i => ?_, (mskB_InN h1 m).1 h3, chkI_ok (by omega) h2⟩
  by_cases hi : i < xs.length
  · exact (mksTo_iff h1 xs xs.length).1 h2 i hi
  · rw [nth_high (by omega)]; exact InMk.zero _
theorem both_of {n : Nat} (hn : n ≤ 30) {ys : List Int} (hl : ys.length = n) (hr : Rel n (nth ys)) {m : Int} (hm : InMk n m) : bothI ys n m = 0 ∧ chkI ys n = 0 := by
  have h1 : mksTo n ys n = true := (mksTo_iff hn ys n).2 fun i _ => hr i
  exact ⟨by rw [bothI_of (by omega) h1 ((mskB_InN hn m).2 hm)]; rfl, chkI_ok (by omega) h1⟩
theorem tab_rel {n : Nat} {F : Nat → Int} (h : ∀ i, i < n → InMk n (F i)) : Rel n (nth (tab n F)) := fun i => by
  by_cases hi : i < n
  · rw [tab_nth n F i hi]; exact h i hi
  · rw [nth_high (by rw [tab_len]; omega)]; exact InMk.zero _
theorem cmp_zero {xs ys : List Int} {n : Nat} (h1 : chkI xs n = 0) (h2 : chkI ys n = 0) : cmpI xs ys n n = 0 := by rw [cmpI_of h1 h2]; simp
theorem nots {n : Nat} (hn : n ≤ 30) {x y : Int} (hx : InMk n x) (hy : InMk n y) (h : ∀ i, T x i = true → T y i = true) : bits .andNot .i64 x y = 0 := by
  have hb := hx.bd hn
  have h1 := subB_andNot x y (by omega)
  rw [(subB_T hb (hy.bd hn)).2 h] at h1
  exact beq_iff_eq.1 h1
theorem T_full {n : Nat} (hn : n ≤ 30) (i : Nat) : T (full n) i = decide (i < n) := by
  rw [full_eq _ (by omega) (by omega), Int.toNat_natCast, T, show ((2 : Int) ^ n - 1) = ((2 ^ n - 1 : Nat) : Int) by have := Nat.two_pow_pos n; rw [Int.natCast_sub (by omega)]; simp, Int.toNat_natCast, Nat.testBit_two_pow_sub_one]
theorem InMk.full {n : Nat} (hn : n ≤ 30) : InMk n (full n) := by
  have hp := pow_bd (n : Int) (by omega) (by omega)
  rw [Int.toNat_natCast] at hp
  rw [full_eq _ (by omega) (by omega), Int.toNat_natCast]
  exact ⟨by omega, by omega⟩

def bsL (xs : List Int) : List Int := tab xs.length (fun t => ivTo xs t xs.length)
def insV (xs : List Int) (m : Int) : Int := boxTo (bsL xs) m xs.length
def csL (xs : List Int) : List Int := tab xs.length (tcTo xs xs.length xs.length)

structure RelFacts (xs : List Int) (m : Int) : Prop where
  small : xs.length ≤ 30
  chk : chkI xs xs.length = 0
  b1 : bothI xs xs.length (imgTo xs m xs.length) = 0
  b2 : bothI (bsL xs) xs.length m = 0
  b3 : bothI xs xs.length (insV xs m) = 0
  b4 : bothI (bsL xs) xs.length (insV xs m) = 0
  c1 : cmpI (csL xs) (csL xs) xs.length xs.length = 0
  c2 : cmpI xs (csL xs) xs.length xs.length = 0
  n1 : bits .andNot .i64 m (boxTo xs (imgTo xs m xs.length) xs.length) = 0
  n2 : bits .andNot .i64 (imgTo (bsL xs) (insV xs m) xs.length) m = 0
  n3 : bits .andNot .i64 (imgTo xs (insV xs m) xs.length) (full xs.length) = 0
  e1 : ∀ i, i < xs.length → nth (csL xs) i = bits .or .i64 (nth xs i) (nth (cpTo xs (csL xs) xs.length) i)
  e2 : ∀ i, i < xs.length → bits .andNot .i64 (nth (cpTo (csL xs) (csL xs) xs.length) i) (nth (csL xs) i) = 0

theorem rel_facts {xs : List Int} {m : Int} (h : bothI xs xs.length m = 0) : RelFacts xs m := by
  obtain ⟨hn, hr, hm, hc⟩ := rel_of h
  obtain ⟨n, hnn⟩ : ∃ n, n = xs.length := ⟨_, rfl⟩
  have hmb := hm.bd hn
  obtain ⟨i1, i2⟩ := imgTo_T hn hr hmb xs.length
  have iv := fun t => ivTo_T hn hr t xs.length (Nat.le_refl _)
  have hbl : (bsL xs).length = xs.length := tab_len _ _
  have hbr : Rel xs.length (nth (bsL xs)) := tab_rel fun i _ => (iv i).1
  have hbT : ∀ i j, T (nth (bsL xs) i) j = true ↔ i < xs.length ∧ j < xs.length ∧ T (nth xs j) i = true := fun i j => by
    by_cases hi : i < xs.length
    · rw [bsL, tab_nth _ _ _ hi, (iv i).2 j]; simp [hi]
    · rw [nth_high (by rw [hbl]; omega), T_zero]; simp [hi]
  obtain ⟨s1, s2⟩ := boxTo_T hn hbr hmb xs.length (Nat.le_refl _)
  have s1' : InMk xs.length (insV xs m) := s1
  have s2' : ∀ i, T (insV xs m) i = true ↔ i < xs.length ∧ ∀ j, T (nth (bsL xs) i) j = true → T m j = true := s2
  obtain ⟨x1, x2⟩ := boxTo_T hn hr (i1.bd hn) xs.length (Nat.le_refl _)
  obtain ⟨g1, g2⟩ := imgTo_T hn hbr (s1'.bd hn) xs.length
  obtain ⟨a1, a2⟩ := imgTo_T hn hr (s1'.bd hn) xs.length
  obtain ⟨t1, t2, t3⟩ := tcTo_T hn hr (fun i hi => nth_high hi) xs.length
  have hcl : (csL xs).length = xs.length := tab_len _ _
  have hcr : Rel xs.length (nth (csL xs)) := tab_rel fun i _ => t1 i
  have hcT : ∀ i j, T (nth (csL xs) i) j = true ↔ P (fun a b => T (nth xs a) b = true) xs.length i j := fun i j => by
    by_cases hi : i < xs.length
    · rw [csL, tab_nth _ _ _ hi]; exact t3 i j
    · rw [nth_high (by rw [hcl]; omega), ← t3 i j, t2 i (by omega)]
  have hin : ∀ i j, T (nth xs i) j = true → j < xs.length := fun i j hj => by
    refine Classical.byContradiction fun hh => ?_
    rw [T_high (hr i) (by omega)] at hj; cases hj
  have hcin : ∀ i j, T (nth (csL xs) i) j = true → j < xs.length := fun i j hj => by
    refine Classical.byContradiction fun hh => ?_
    rw [T_high (hcr i) (by omega)] at hj; cases hj
  have hst : ∀ (ys : List Int), Rel xs.length (nth ys) → ∀ i, i < xs.length → InMk xs.length (nth (cpTo ys (csL xs) xs.length) i) ∧ ∀ j, T (nth (cpTo ys (csL xs) xs.length) i) j = true ↔ ∃ v, v < xs.length ∧ T (nth ys i) v = true ∧ T (nth (csL xs) v) j = true := fun ys hy i hi => by
    rw [cpTo_nth _ _ _ _ hi, hcl]
    exact imgTo_T hn hcr ((hy i).bd hn) xs.length
  obtain ⟨b1, -⟩ := both_of hn rfl hr i1
  obtain ⟨b2, -⟩ := both_of hn hbl hbr hm
  obtain ⟨b3, -⟩ := both_of hn rfl hr s1'
  obtain ⟨b4, -⟩ := both_of hn hbl hbr s1'
  obtain ⟨-, k1⟩ := both_of hn hcl hcr hm
  refine ⟨hn, hc, b1, b2, b3, b4, cmp_zero k1 k1, cmp_zero hc k1, ?_, ?_, ?_, ?_, ?_⟩
  · refine nots hn hm x1 fun i hi => (x2 i).2 ⟨?_, fun j hj => (i2 j).2 ⟨i, ?_, hi, hj⟩⟩
    all_goals
      refine Classical.byContradiction fun hh => ?_
      rw [T_high hm (by omega)] at hi; cases hi
  · refine nots hn g1 hm fun i hi => ?_
    obtain ⟨j, _, h1, h2⟩ := (g2 i).1 hi
    exact ((s2' j).1 h1).2 i h2
  · refine nots hn a1 (InMk.full hn) fun i hi => ?_
    rw [T_full hn, decide_eq_true_eq]
    refine Classical.byContradiction fun hh => ?_
    rw [T_high a1 (by omega)] at hi; cases hi
  · intro i hi
    obtain ⟨q1, q2⟩ := hst xs hr i hi
    refine T_ext (hcr i) ((hr i).or hn q1) fun j => ?_
    rw [T_or hn (hr i) q1, Bool.eq_iff_iff, Bool.or_eq_true, q2 j, hcT i j]
    constructor
    · intro hp
      rcases P_first xs.length (Nat.le_refl _) hp with h1 | ⟨v, h1, h2⟩
      · exact .inl h1
      · exact .inr ⟨v, hin i v h1, h1, (hcT v j).2 h2⟩
    · rintro (h1 | ⟨v, h0, h1, h2⟩)
      · exact P_mono (Nat.zero_le _) h1
      · exact P_trans xs.length h0 (P_mono (Nat.zero_le _) h1) ((hcT v j).1 h2)
  · intro i hi
    obtain ⟨q1, q2⟩ := hst (csL xs) hcr i hi
    refine nots hn q1 (hcr i) fun j hj => ?_
    obtain ⟨v, h0, h1, h2⟩ := (q2 j).1 hj
    exact (hcT i j).2 (P_trans xs.length h0 ((hcT i v).1 h1) ((hcT v j).1 h2))

end Go.Proofs.Ytfkdefmafhlmnaa

/- What can be reached in some steps, or none: the reflexive and transitive closure, images under it, and the sets that a search grows. Plain mathematics. -/
namespace Go.Proofs.Ytfkdefmafhlmnaa
open Go.RowKit

/-- The list of the reach of each element. -/
def rcL (xs : List Int) : List Int := rfTo (csL xs) xs.length
def Rw (xs : List Int) : Nat → Nat → Prop := fun a b => T (nth xs a) b = true
def Rch (xs : List Int) (i j : Nat) : Prop := i = j ∨ P (Rw xs) xs.length i j

theorem cs_T {xs : List Int} (hn : xs.length ≤ 30) (hr : Rel xs.length (nth xs)) : Rel xs.length (nth (csL xs)) ∧ ∀ i j, T (nth (csL xs) i) j = true ↔ P (Rw xs) xs.length i j := by
  obtain ⟨t1, t2, t3⟩ := tcTo_T hn hr (fun i hi => nth_high hi) xs.length
  have hcl : (csL xs).length = xs.length := tab_len _ _
  refine ⟨tab_rel fun i _ => t1 i, fun i j => ?_⟩
  by_cases hi : i < xs.length
  · rw [csL, tab_nth _ _ _ hi]; exact t3 i j
  · have := t3 i j
    rw [nth_high (by rw [hcl]; omega)]
    rw [t2 i (by omega)] at this
    exact this
theorem rcL_len (xs : List Int) : (rcL xs).length = xs.length := rfTo_len _ _
theorem rc_T {xs : List Int} (hn : xs.length ≤ 30) (hr : Rel xs.length (nth xs)) : Rel xs.length (nth (rcL xs)) ∧ ∀ i j, i < xs.length → (T (nth (rcL xs) i) j = true ↔ Rch xs i j) := by
  obtain ⟨c1, c2⟩ := cs_T hn hr
  refine ⟨fun i => ?_, fun i j hi => ?_⟩
  · by_cases hi : i < xs.length
    · rw [rcL, rfTo_nth _ _ _ hi]; exact (c1 i).or hn (InMk.one hn hi)
    · rw [nth_high (by rw [rcL_len]; omega)]; exact InMk.zero _
  · rw [rcL, rfTo_nth _ _ _ hi, T_or hn (c1 i) (InMk.one hn hi), Bool.or_eq_true, c2 i j, T_one (by omega), decide_eq_true_eq]
    exact Or.comm
theorem T_lt {n : Nat} {x : Int} (h : InMk n x) {i : Nat} (hi : T x i = true) : i < n := by
  refine Classical.byContradiction fun hh => ?_
  rw [T_high h (by omega)] at hi; cases hi
theorem P_lt {xs : List Int} (hr : Rel xs.length (nth xs)) : ∀ (k : Nat) {i j : Nat}, P (Rw xs) k i j → j < xs.length := by
  intro k
  induction k with
  | zero => intro i j h; exact T_lt (hr i) h
  | succ k ih =>
    intro i j h
    rcases h with h | ⟨_, h⟩
    · exact ih h
    · exact ih h
theorem Rch_step {xs : List Int} {i v j : Nat} (hv : v < xs.length) (h1 : Rch xs i v) (h2 : T (nth xs v) j = true) : Rch xs i j := by
  rcases h1 with rfl | h1
  · exact .inr (P_mono (Nat.zero_le _) h2)
  · exact .inr (P_trans _ hv h1 (P_mono (Nat.zero_le _) h2))
theorem Rch_trans {xs : List Int} {i v j : Nat} (hv : v < xs.length) (h1 : Rch xs i v) (h2 : Rch xs v j) : Rch xs i j := by
  rcases h1 with rfl | h1
  · exact h2
  · rcases h2 with rfl | h2
    · exact .inr h1
    · exact .inr (P_trans _ hv h1 h2)

/-- The mask of what is reached from the mask m. -/
def rchV (xs : List Int) (m : Int) : Int := imgTo (rcL xs) m xs.length
theorem rchV_T {xs : List Int} (hn : xs.length ≤ 30) (hr : Rel xs.length (nth xs)) {m : Int} (hm : InMk xs.length m) :
    InMk xs.length (rchV xs m) ∧ ∀ j, T (rchV xs m) j = true ↔ ∃ i, T m i = true ∧ Rch xs i j := by
  obtain ⟨c1, c2⟩ := rc_T hn hr
  obtain ⟨h1, h2⟩ := imgTo_T hn c1 (hm.bd hn) xs.length
  refine ⟨h1, fun j => (h2 j).trans ⟨fun ⟨i, a, b, c⟩ => ⟨i, b, (c2 i j a).1 c⟩, fun ⟨i, b, c⟩ => ⟨i, T_lt hm b, b, (c2 i j (T_lt hm b)).2 c⟩⟩⟩
theorem rchV_one {xs : List Int} (hn : xs.length ≤ 30) (hr : Rel xs.length (nth xs)) {k : Nat} (hk : k < xs.length) : rchV xs (one k) = nth (rcL xs) k := by
  obtain ⟨c1, c2⟩ := rc_T hn hr
  obtain ⟨h1, h2⟩ := rchV_T hn hr (InMk.one hn hk)
  refine T_ext h1 (c1 k) fun j => ?_
  rw [Bool.eq_iff_iff, h2 j, c2 k j hk]
  constructor
  · rintro ⟨i, hi, h⟩
    rw [T_one (by omega), decide_eq_true_eq] at hi
    subst hi; exact h
  · intro h
    exact ⟨k, by rw [T_one (by omega)]; simp, h⟩

/-- What the search for the reach of m keeps. -/
structure Rsr (xs : List Int) (m mk : Int) : Prop where
  small : InMk xs.length mk
  has : ∀ i, T m i = true → T mk i = true
  within : ∀ i, T mk i = true → T (rchV xs m) i = true
theorem Rsr.start {xs : List Int} (hn : xs.length ≤ 30) (hr : Rel xs.length (nth xs)) {m : Int} (hm : InMk xs.length m) : Rsr xs m m :=
  ⟨hm, fun _ h => h, fun i h => ((rchV_T hn hr hm).2 i).2 ⟨i, h, .inl rfl⟩⟩
theorem img_in {xs : List Int} (hn : xs.length ≤ 30) (hr : Rel xs.length (nth xs)) {m : Int} (hm : InMk xs.length m) : InMk xs.length (imgTo xs m xs.length) := (imgTo_T hn hr (hm.bd hn) _).1
theorem Rsr.step {xs : List Int} (hn : xs.length ≤ 30) (hr : Rel xs.length (nth xs)) {m mk : Int} (hm : InMk xs.length m) (h : Rsr xs m mk) : Rsr xs m (bits .or .i64 mk (imgTo xs mk xs.length)) := by
  obtain ⟨i1, i2⟩ := imgTo_T hn hr (h.small.bd hn) xs.length
  have hv := (rchV_T hn hr hm).2
  refine ⟨h.small.or hn i1, fun i hi => by rw [T_or hn h.small i1, h.has i hi]; rfl, fun i hi => ?_⟩
  rw [T_or hn h.small i1, Bool.or_eq_true] at hi
  rcases hi with hi | hi
  · exact h.within i hi
  · obtain ⟨j, hj, a, b⟩ := (i2 i).1 hi
    obtain ⟨s, hs, r⟩ := (hv j).1 (h.within j a)
    exact (hv i).2 ⟨s, hs, Rch_step hj r b⟩
theorem andNot_zero {n : Nat} (hn : n ≤ 30) {x y : Int} (hx : InMk n x) (hy : InMk n y) : bits .andNot .i64 x y = 0 ↔ ∀ i, T x i = true → T y i = true := by
  have hb := hx.bd hn
  have h1 := subB_andNot x y (by omega)
  rw [← subB_T hb (hy.bd hn), ← h1, beq_iff_eq]
theorem Rsr.stop {xs : List Int} (hn : xs.length ≤ 30) (hr : Rel xs.length (nth xs)) {m mk : Int} (hm : InMk xs.length m) (h : Rsr xs m mk) (h0 : bits .andNot .i64 (imgTo xs mk xs.length) mk = 0) : mk = rchV xs m := by
  obtain ⟨i1, i2⟩ := imgTo_T hn hr (h.small.bd hn) xs.length
  obtain ⟨v1, v2⟩ := rchV_T hn hr hm
  have hc := (andNot_zero hn i1 h.small).1 h0
  have hP : ∀ k i j, P (Rw xs) k i j → T mk i = true → T mk j = true := by
    intro k
    induction k with
    | zero => intro i j hp hi; exact hc j ((i2 j).2 ⟨i, T_lt h.small hi, hi, hp⟩)
    | succ k ih =>
      intro i j hp hi
      rcases hp with hp | ⟨p1, p2⟩
      · exact ih i j hp hi
      · exact ih k j p2 (ih i k p1 hi)
  refine T_ext h.small v1 fun j => ?_
  rw [Bool.eq_iff_iff]
  refine ⟨h.within j, fun hj => ?_⟩
  obtain ⟨i, hi, r⟩ := (v2 j).1 hj
  rcases r with rfl | r
  · exact h.has i hi
  · exact hP _ i j r (h.has i hi)
theorem or_ge {n : Nat} (hn : n ≤ 30) {x y : Int} (hx : InMk n x) (hy : InMk n y) : x ≤ bits .or .i64 x y := by
  have h1 := hx.bd hn
  have h2 := hy.bd hn
  obtain ⟨a, rfl⟩ := Int.eq_ofNat_of_zero_le hx.1
  obtain ⟨b, rfl⟩ := Int.eq_ofNat_of_zero_le hy.1
  rw [ior _ _ (by omega) (by omega)]
  have : a ≤ a ||| b := Nat.left_le_or
  omega
theorem or_gt {n : Nat} (hn : n ≤ 30) {x y : Int} (hx : InMk n x) (hy : InMk n y) (h : ¬ bits .andNot .i64 y x = 0) : x < bits .or .i64 x y := by
  have hge := or_ge hn hx hy
  refine Classical.byContradiction fun hh => h ?_
  have e : bits .or .i64 x y = x := by omega
  refine (andNot_zero hn hy hx).2 fun i hi => ?_
  rw [← e, T_or hn hx hy, hi, Bool.or_true]
theorem InMk.lt8 {n : Nat} (hn : n ≤ 8) {x : Int} (h : InMk n x) : 0 ≤ x ∧ x < 256 := by
  have h1 := h.nat
  have h2 : (2 : Nat) ^ n ≤ 2 ^ 8 := Nat.pow_le_pow_right (by decide) hn
  have h3 := h.1
  omega

end Go.Proofs.Ytfkdefmafhlmnaa
