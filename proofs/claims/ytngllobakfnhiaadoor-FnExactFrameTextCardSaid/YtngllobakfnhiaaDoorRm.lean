/- What can be reached in some steps, or none: the reflexive and transitive closure, images under it, and the sets that a search grows. Plain mathematics. -/
import Derived.Test.YtngllobakfnhiaaDoorRelFacts
namespace Go.Proofs.YtngllobakfnhiaaDoor
open Go.RowKit

/-- The list of the reach of each element. -/
def rcL (xs : List Int) : List Int := rfTo (csL xs) xs.length
def Rw (xs : List Int) : Nat → Nat → Prop := fun a b => T (nth xs a) b = true
def Rch (xs : List Int) (i j : Nat) : Prop := i = j ∨ P (Rw xs) xs.length i j

theorem cs_T {xs : List Int} (hn : xs.length ≤ 30) (hr : Rel xs.length (nth xs)) : Rel xs.length (nth (csL xs)) ∧ ∀ i j, T (nth (csL xs) i) j = true ↔ P (Rw xs) xs.length i j := by
  obtain ⟨t1, t2, t3⟩ := tcTo_T hn hr (fun i hi => nth_high hi) xs.length
  have hcl : (csL xs).length = xs.length := tab_len _ _
  refine ⟨tab_rel fun i _ => t1 i, fun i j => ?_⟩
  by_cases hi : i < xs.length
  · rw [csL, tab_nth _ _ _ hi]; exact t3 i j
  · have := t3 i j
    rw [nth_high (by rw [hcl]; omega)]
    rw [t2 i (by omega)] at this
    exact this
theorem rcL_len (xs : List Int) : (rcL xs).length = xs.length := rfTo_len _ _
theorem rc_T {xs : List Int} (hn : xs.length ≤ 30) (hr : Rel xs.length (nth xs)) : Rel xs.length (nth (rcL xs)) ∧ ∀ i j, i < xs.length → (T (nth (rcL xs) i) j = true ↔ Rch xs i j) := by
  obtain ⟨c1, c2⟩ := cs_T hn hr
  refine ⟨fun i => ?_, fun i j hi => ?_⟩
  · by_cases hi : i < xs.length
    · rw [rcL, rfTo_nth _ _ _ hi]; exact (c1 i).or hn (InMk.one hn hi)
    · rw [nth_high (by rw [rcL_len]; omega)]; exact InMk.zero _
  · rw [rcL, rfTo_nth _ _ _ hi, T_or hn (c1 i) (InMk.one hn hi), Bool.or_eq_true, c2 i j, T_one (by omega), decide_eq_true_eq]
    exact Or.comm
theorem T_lt {n : Nat} {x : Int} (h : InMk n x) {i : Nat} (hi : T x i = true) : i < n := by
  refine Classical.byContradiction fun hh => ?_
  rw [T_high h (by omega)] at hi; cases hi
theorem P_lt {xs : List Int} (hr : Rel xs.length (nth xs)) : ∀ (k : Nat) {i j : Nat}, P (Rw xs) k i j → j < xs.length := by
  intro k
  induction k with
  | zero => intro i j h; exact T_lt (hr i) h
  | succ k ih =>
    intro i j h
    rcases h with h | ⟨_, h⟩
    · exact ih h
    · exact ih h
theorem Rch_step {xs : List Int} {i v j : Nat} (hv : v < xs.length) (h1 : Rch xs i v) (h2 : T (nth xs v) j = true) : Rch xs i j := by
  rcases h1 with rfl | h1
  · exact .inr (P_mono (Nat.zero_le _) h2)
  · exact .inr (P_trans _ hv h1 (P_mono (Nat.zero_le _) h2))
theorem Rch_trans {xs : List Int} {i v j : Nat} (hv : v < xs.length) (h1 : Rch xs i v) (h2 : Rch xs v j) : Rch xs i j := by
  rcases h1 with rfl | h1
  · exact h2
  · rcases h2 with rfl | h2
    · exact .inr h1
    · exact .inr (P_trans _ hv h1 h2)

/-- The mask of what is reached from the mask m. -/
def rchV (xs : List Int) (m : Int) : Int := imgTo (rcL xs) m xs.length
theorem rchV_T {xs : List Int} (hn : xs.length ≤ 30) (hr : Rel xs.length (nth xs)) {m : Int} (hm : InMk xs.length m) :
    InMk xs.length (rchV xs m) ∧ ∀ j, T (rchV xs m) j = true ↔ ∃ i, T m i = true ∧ Rch xs i j := by
  obtain ⟨c1, c2⟩ := rc_T hn hr
  obtain ⟨h1, h2⟩ := imgTo_T hn c1 (hm.bd hn) xs.length
  refine ⟨h1, fun j => (h2 j).trans ⟨fun ⟨i, a, b, c⟩ => ⟨i, b, (c2 i j a).1 c⟩, fun ⟨i, b, c⟩ => ⟨i, T_lt hm b, b, (c2 i j (T_lt hm b)).2 c⟩⟩⟩
theorem rchV_one {xs : List Int} (hn : xs.length ≤ 30) (hr : Rel xs.length (nth xs)) {k : Nat} (hk : k < xs.length) : rchV xs (one k) = nth (rcL xs) k := by
  obtain ⟨c1, c2⟩ := rc_T hn hr
  obtain ⟨h1, h2⟩ := rchV_T hn hr (InMk.one hn hk)
  refine T_ext h1 (c1 k) fun j => ?_
  rw [Bool.eq_iff_iff, h2 j, c2 k j hk]
  constructor
  · rintro ⟨i, hi, h⟩
    rw [T_one (by omega), decide_eq_true_eq] at hi
    subst hi; exact h
  · intro h
    exact ⟨k, by rw [T_one (by omega)]; simp, h⟩

/-- What the search for the reach of m keeps. -/
structure Rsr (xs : List Int) (m mk : Int) : Prop where
  small : InMk xs.length mk
  has : ∀ i, T m i = true → T mk i = true
  within : ∀ i, T mk i = true → T (rchV xs m) i = true
theorem Rsr.start {xs : List Int} (hn : xs.length ≤ 30) (hr : Rel xs.length (nth xs)) {m : Int} (hm : InMk xs.length m) : Rsr xs m m :=
  ⟨hm, fun _ h => h, fun i h => ((rchV_T hn hr hm).2 i).2 ⟨i, h, .inl rfl⟩⟩
theorem img_in {xs : List Int} (hn : xs.length ≤ 30) (hr : Rel xs.length (nth xs)) {m : Int} (hm : InMk xs.length m) : InMk xs.length (imgTo xs m xs.length) := (imgTo_T hn hr (hm.bd hn) _).1
theorem Rsr.step {xs : List Int} (hn : xs.length ≤ 30) (hr : Rel xs.length (nth xs)) {m mk : Int} (hm : InMk xs.length m) (h : Rsr xs m mk) : Rsr xs m (bits .or .i64 mk (imgTo xs mk xs.length)) := by
  obtain ⟨i1, i2⟩ := imgTo_T hn hr (h.small.bd hn) xs.length
  have hv := (rchV_T hn hr hm).2
  refine ⟨h.small.or hn i1, fun i hi => by rw [T_or hn h.small i1, h.has i hi]; rfl, fun i hi => ?_⟩
  rw [T_or hn h.small i1, Bool.or_eq_true] at hi
  rcases hi with hi | hi
  · exact h.within i hi
  · obtain ⟨j, hj, a, b⟩ := (i2 i).1 hi
    obtain ⟨s, hs, r⟩ := (hv j).1 (h.within j a)
    exact (hv i).2 ⟨s, hs, Rch_step hj r b⟩
theorem andNot_zero {n : Nat} (hn : n ≤ 30) {x y : Int} (hx : InMk n x) (hy : InMk n y) : bits .andNot .i64 x y = 0 ↔ ∀ i, T x i = true → T y i = true := by
  have hb := hx.bd hn
  have h1 := subB_andNot x y (by omega)
  rw [← subB_T hb (hy.bd hn), ← h1, beq_iff_eq]
theorem Rsr.stop {xs : List Int} (hn : xs.length ≤ 30) (hr : Rel xs.length (nth xs)) {m mk : Int} (hm : InMk xs.length m) (h : Rsr xs m mk) (h0 : bits .andNot .i64 (imgTo xs mk xs.length) mk = 0) : mk = rchV xs m := by
  obtain ⟨i1, i2⟩ := imgTo_T hn hr (h.small.bd hn) xs.length
  obtain ⟨v1, v2⟩ := rchV_T hn hr hm
  have hc := (andNot_zero hn i1 h.small).1 h0
  have hP : ∀ k i j, P (Rw xs) k i j → T mk i = true → T mk j = true := by
    intro k
    induction k with
    | zero => intro i j hp hi; exact hc j ((i2 j).2 ⟨i, T_lt h.small hi, hi, hp⟩)
    | succ k ih =>
      intro i j hp hi
      rcases hp with hp | ⟨p1, p2⟩
      · exact ih i j hp hi
      · exact ih k j p2 (ih i k p1 hi)
  refine T_ext h.small v1 fun j => ?_
  rw [Bool.eq_iff_iff]
  refine ⟨h.within j, fun hj => ?_⟩
  obtain ⟨i, hi, r⟩ := (v2 j).1 hj
  rcases r with rfl | r
  · exact h.has i hi
  · exact hP _ i j r (h.has i hi)
theorem or_ge {n : Nat} (hn : n ≤ 30) {x y : Int} (hx : InMk n x) (hy : InMk n y) : x ≤ bits .or .i64 x y := by
  have h1 := hx.bd hn
  have h2 := hy.bd hn
  obtain ⟨a, rfl⟩ := Int.eq_ofNat_of_zero_le hx.1
  obtain ⟨b, rfl⟩ := Int.eq_ofNat_of_zero_le hy.1
  rw [ior _ _ (by omega) (by omega)]
  have : a ≤ a ||| b := Nat.left_le_or
  omega
theorem or_gt {n : Nat} (hn : n ≤ 30) {x y : Int} (hx : InMk n x) (hy : InMk n y) (h : ¬ bits .andNot .i64 y x = 0) : x < bits .or .i64 x y := by
  have hge := or_ge hn hx hy
  refine Classical.byContradiction fun hh => h ?_
  have e : bits .or .i64 x y = x := by omega
  refine (andNot_zero hn hy hx).2 fun i hi => ?_
  rw [← e, T_or hn hx hy, hi, Bool.or_true]
theorem InMk.lt8 {n : Nat} (hn : n ≤ 8) {x : Int} (h : InMk n x) : 0 ≤ x ∧ x < 256 := by
  have h1 := h.nat
  have h2 : (2 : Nat) ^ n ≤ 2 ^ 8 := Nat.pow_le_pow_right (by decide) hn
  have h3 := h.1
  omega

end Go.Proofs.YtngllobakfnhiaaDoor
