/- What the masks of relations mean, element by element: images, boxes, inverses, composites and the transitive closure. Plain mathematics. -/
import Derived.Test.YtngllobakfnhiaaDoorMem
import Derived.Test.YtngllobakfnhiaaDoorTrans
import Derived.Test.YtngllobakfnhiaaDoorComp
namespace Go.Proofs.YtngllobakfnhiaaDoor
open Go.RowKit

/-- Element i belongs to the mask x. -/
def T (x : Int) (i : Nat) : Bool := x.toNat.testBit i
/-- x is a mask of n elements. -/
def InMk (n : Nat) (x : Int) : Prop := 0 ≤ x ∧ x < 2 ^ n

theorem InMk.bd {n : Nat} {x : Int} (hn : n ≤ 30) (h : InMk n x) : 0 ≤ x ∧ x < 1073741824 := by
  have h2 := pow_bd (n : Int) (by omega) (by omega)
  rw [Int.toNat_natCast] at h2
  exact ⟨h.1, by have := h.2; omega⟩
theorem InMk.nat {n : Nat} {x : Int} (h : InMk n x) : x.toNat < 2 ^ n := by
  obtain ⟨k, rfl⟩ := Int.eq_ofNat_of_zero_le h.1
  have := h.2
  rw [Int.toNat_natCast]
  exact_mod_cast this
theorem InMk.of {n k : Nat} (h : k < 2 ^ n) : InMk n (k : Int) := ⟨by omega, by exact_mod_cast h⟩
theorem InMk.zero (n : Nat) : InMk n 0 := ⟨by decide, by have : (0 : Int) < 2 ^ n := Int.pow_pos (by decide); exact this⟩
theorem T_high {n : Nat} {x : Int} (h : InMk n x) {i : Nat} (hi : n ≤ i) : T x i = false :=
  Nat.testBit_lt_two_pow (Nat.lt_of_lt_of_le h.nat (Nat.pow_le_pow_right (by decide) hi))
theorem T_zero (i : Nat) : T 0 i = false := by simp [T]
theorem T_ext {n : Nat} {x y : Int} (hx : InMk n x) (hy : InMk n y) (h : ∀ i, T x i = T y i) : x = y := by
  obtain ⟨a, rfl⟩ := Int.eq_ofNat_of_zero_le hx.1
  obtain ⟨b, rfl⟩ := Int.eq_ofNat_of_zero_le hy.1
  have : a = b := Nat.eq_of_testBit_eq fun i => by simpa [T] using h i
  rw [this]
theorem T_or {n : Nat} (hn : n ≤ 30) {x y : Int} (hx : InMk n x) (hy : InMk n y) (i : Nat) : T (bits .or .i64 x y) i = (T x i || T y i) := by
  have h1 := hx.bd hn
  have h2 := hy.bd hn
  obtain ⟨a, rfl⟩ := Int.eq_ofNat_of_zero_le hx.1
  obtain ⟨b, rfl⟩ := Int.eq_ofNat_of_zero_le hy.1
  rw [ior _ _ (by omega) (by omega)]
  simp [T]
theorem InMk.or {n : Nat} (hn : n ≤ 30) {x y : Int} (hx : InMk n x) (hy : InMk n y) : InMk n (bits .or .i64 x y) := by
  have h1 := hx.bd hn
  have h2 := hy.bd hn
  have a1 := hx.nat
  have a2 := hy.nat
  obtain ⟨a, rfl⟩ := Int.eq_ofNat_of_zero_le hx.1
  obtain ⟨b, rfl⟩ := Int.eq_ofNat_of_zero_le hy.1
  rw [ior _ _ (by omega) (by omega)]
  exact InMk.of (Nat.or_lt_two_pow a1 a2)
theorem T_one {k : Nat} (hk : k ≤ 30) (i : Nat) : T (one k) i = decide (k = i) := by
  rw [one_eq _ (by omega) (by omega), Int.toNat_natCast, T, show ((2 : Int) ^ k) = ((2 ^ k : Nat) : Int) by simp, Int.toNat_natCast, Nat.testBit_two_pow]
theorem InMk.one {n k : Nat} (hn : n ≤ 30) (hk : k < n) : InMk n (one k) := by
  rw [one_eq _ (by omega) (by omega), Int.toNat_natCast, show ((2 : Int) ^ k) = ((2 ^ k : Nat) : Int) by simp]
  exact InMk.of (Nat.pow_lt_pow_right (by decide) hk)
theorem bitB_T {x : Int} (h : 0 ≤ x ∧ x < 1073741824) (i : Nat) : bitB x i = T x i := by
  obtain ⟨a, rfl⟩ := Int.eq_ofNat_of_zero_le h.1
  rw [bitB_nat a i (by omega), bitN, T, Int.toNat_natCast, Nat.testBit_eq_decide_div_mod_eq]
theorem subB_T {x m : Int} (hx : 0 ≤ x ∧ x < 1073741824) (hm : 0 ≤ m ∧ m < 1073741824) : subB x m = true ↔ ∀ i, T x i = true → T m i = true := by
  obtain ⟨a, rfl⟩ := Int.eq_ofNat_of_zero_le hx.1
  obtain ⟨b, rfl⟩ := Int.eq_ofNat_of_zero_le hm.1
  unfold subB
  rw [iand _ _ (by omega) (by omega), beq_iff_eq]
  constructor
  · intro h i hi
    have e : a &&& b = a := by omega
    rw [T, Int.toNat_natCast] at hi ⊢
    rw [← e, Nat.testBit_and, Bool.and_eq_true] at hi
    exact hi.2
  · intro h
    have e : a &&& b = a := Nat.eq_of_testBit_eq fun i => by
      rw [Nat.testBit_and]
      have := h i
      simp only [T, Int.toNat_natCast] at this
      cases ha : a.testBit i
      · simp
      · simp [this ha]
    rw [e]

/-- All of the first n lists' numbers are masks of n elements. -/
def Rel (n : Nat) (F : Nat → Int) : Prop := ∀ i, InMk n (F i)

theorem imgTo_T {n : Nat} (hn : n ≤ 30) {xs : List Int} (hr : Rel n (nth xs)) {m : Int} (hm : 0 ≤ m ∧ m < 1073741824) (k : Nat) :
    InMk n (imgTo xs m k) ∧ ∀ i, T (imgTo xs m k) i = true ↔ ∃ j, j < k ∧ T m j = true ∧ T (nth xs j) i = true := by
  induction k with
  | zero => exact ⟨InMk.zero n, fun i => by simp [imgTo, T_zero]⟩
  | succ k ih =>
    obtain ⟨h1, h2⟩ := ih
    rw [imgTo, bitB_T hm]
    cases hb : T m k
    · rw [if_neg (by simp)]
      refine ⟨h1, fun i => (h2 i).trans ⟨fun ⟨j, a, b⟩ => ⟨j, by omega, b⟩, fun ⟨j, a, b⟩ => ⟨j, ?_, b⟩⟩⟩
      rcases Nat.lt_succ_iff_lt_or_eq.1 a with h | h
      · exact h
      · subst h; rw [hb] at b; cases b.1
    · rw [if_pos rfl]
      refine ⟨h1.or hn (hr k), fun i => ?_⟩
      rw [T_or hn h1 (hr k), Bool.or_eq_true, h2 i]
      constructor
      · rintro (⟨j, a, b⟩ | h)
        · exact ⟨j, by omega, b⟩
        · exact ⟨k, by omega, hb, h⟩
      · rintro ⟨j, a, b⟩
        rcases Nat.lt_succ_iff_lt_or_eq.1 a with h | h
        · exact .inl ⟨j, h, b⟩
        · subst h; exact .inr b.2
theorem boxTo_T {n : Nat} (hn : n ≤ 30) {xs : List Int} (hr : Rel n (nth xs)) {m : Int} (hm : 0 ≤ m ∧ m < 1073741824) (k : Nat) (hk : k ≤ n) :
    InMk n (boxTo xs m k) ∧ ∀ i, T (boxTo xs m k) i = true ↔ i < k ∧ ∀ j, T (nth xs i) j = true → T m j = true := by
  induction k with
  | zero => exact ⟨InMk.zero n, fun i => by simp [boxTo, T_zero]⟩
  | succ k ih =>
    obtain ⟨h1, h2⟩ := ih (by omega)
    have hsub := subB_T ((hr k).bd hn) hm
    rw [boxTo]
    cases hb : subB (nth xs k) m
    · rw [if_neg (by simp)]
      refine ⟨h1, fun i => (h2 i).trans ⟨fun ⟨a, b⟩ => ⟨by omega, b⟩, fun ⟨a, b⟩ => ⟨?_, b⟩⟩⟩
      rcases Nat.lt_succ_iff_lt_or_eq.1 a with h | h
      · exact h
      · subst h; rw [hsub.2 b] at hb; cases hb
    · rw [if_pos rfl]
      have ho := InMk.one hn (show k < n by omega)
      refine ⟨h1.or hn ho, fun i => ?_⟩
      rw [T_or hn h1 ho, Bool.or_eq_true, h2 i, T_one (by omega), decide_eq_true_eq]
      constructor
      · rintro (⟨a, b⟩ | h)
        · exact ⟨by omega, b⟩
        · subst h; exact ⟨by omega, hsub.1 hb⟩
      · rintro ⟨a, b⟩
        rcases Nat.lt_succ_iff_lt_or_eq.1 a with h | h
        · exact .inl ⟨h, b⟩
        · exact .inr h.symm
theorem ivTo_T {n : Nat} (hn : n ≤ 30) {xs : List Int} (hr : Rel n (nth xs)) (t k : Nat) (hk : k ≤ n) :
    InMk n (ivTo xs t k) ∧ ∀ i, T (ivTo xs t k) i = true ↔ i < k ∧ T (nth xs i) t = true := by
  induction k with
  | zero => exact ⟨InMk.zero n, fun i => by simp [ivTo, T_zero]⟩
  | succ k ih =>
    obtain ⟨h1, h2⟩ := ih (by omega)
    rw [ivTo, bitB_T ((hr k).bd hn)]
    cases hb : T (nth xs k) t
    · rw [if_neg (by simp)]
      refine ⟨h1, fun i => (h2 i).trans ⟨fun ⟨a, b⟩ => ⟨by omega, b⟩, fun ⟨a, b⟩ => ⟨?_, b⟩⟩⟩
      rcases Nat.lt_succ_iff_lt_or_eq.1 a with h | h
      · exact h
      · subst h; rw [hb] at b; cases b
    · rw [if_pos rfl]
      have ho := InMk.one hn (show k < n by omega)
      refine ⟨h1.or hn ho, fun i => ?_⟩
      rw [T_or hn h1 ho, Bool.or_eq_true, h2 i, T_one (by omega), decide_eq_true_eq]
      constructor
      · rintro (⟨a, b⟩ | h)
        · exact ⟨by omega, b⟩
        · subst h; exact ⟨by omega, hb⟩
      · rintro ⟨a, b⟩
        rcases Nat.lt_succ_iff_lt_or_eq.1 a with h | h
        · exact .inl ⟨h, b⟩
        · exact .inr h.symm

/-- Warshall's relation: i leads to j with inner elements below k. -/
def P (R : Nat → Nat → Prop) : Nat → Nat → Nat → Prop
  | 0, i, j => R i j
  | k + 1, i, j => P R k i j ∨ (P R k i k ∧ P R k k j)
theorem P_mono {R : Nat → Nat → Prop} {k n : Nat} (h : k ≤ n) {i j : Nat} (hp : P R k i j) : P R n i j := by
  induction n with
  | zero => have : k = 0 := by omega
            subst this; exact hp
  | succ n ih =>
    by_cases e : k = n + 1
    · subst e; exact hp
    · exact .inl (ih (by omega))
theorem P_trans {R : Nat → Nat → Prop} (k : Nat) : ∀ {i v j : Nat}, v < k → P R k i v → P R k v j → P R k i j := by
  induction k with
  | zero => intro i v j h; omega
  | succ k ih =>
    intro i v j hv h1 h2
    by_cases e : v = k
    · subst e
      have a : P R v i v := by rcases h1 with h | h <;> first | exact h | exact h.1
      have b : P R v v j := by rcases h2 with h | h <;> first | exact h | exact h.2
      exact .inr ⟨a, b⟩
    · have hvk : v < k := by omega
      rcases h1 with a | ⟨a1, a2⟩ <;> rcases h2 with b | ⟨b1, b2⟩
      · exact .inl (ih hvk a b)
      · exact .inr ⟨ih hvk a b1, b2⟩
      · exact .inr ⟨a1, ih hvk a2 b⟩
      · exact .inr ⟨a1, b2⟩
theorem P_first {R : Nat → Nat → Prop} {n : Nat} (k : Nat) (hk : k ≤ n) : ∀ {i j : Nat}, P R k i j → R i j ∨ ∃ v, R i v ∧ P R n v j := by
  induction k with
  | zero => intro i j h; exact .inl h
  | succ k ih =>
    intro i j h
    rcases h with h | ⟨h1, h2⟩
    · exact ih (by omega) h
    · have h2n : P R n k j := P_mono (by omega) h2
      rcases ih (by omega) h1 with h3 | ⟨v, h3, h4⟩
      · exact .inr ⟨k, h3, h2n⟩
      · exact .inr ⟨v, h3, P_trans n (by omega) h4 h2n⟩

theorem tcIn_eq {n : Nat} (hn : n ≤ 30) {F : Nat → Int} (hF : Rel n F) (k i : Nat) : ∀ t, tcIn F k i t = if t < i ∧ T (F t) k = true then bits .or .i64 (F t) (F k) else F t := by
  induction i with
  | zero => intro t; rw [if_neg (by omega)]; rfl
  | succ i ih =>
    intro t
    have hk : tcIn F k i k = F k := by
      rw [ih k]
      split
      · exact T_ext ((hF k).or hn (hF k)) (hF k) fun j => by rw [T_or hn (hF k) (hF k), Bool.or_self]
      · rfl
    have hi : tcIn F k i i = F i := by rw [ih i, if_neg (by omega)]
    show tcStep (tcIn F k i) k i t = _
    unfold tcStep
    rw [hi, hk]
    by_cases e : t = i
    · subst e
      rw [if_pos rfl, bitB_T ((hF t).bd hn)]
      by_cases h : T (F t) k = true
      · rw [if_pos h, if_pos ⟨by omega, h⟩]
      · rw [if_neg h, if_neg (fun hh => h hh.2)]
    · rw [if_neg e, ih t]
      by_cases h : t < i ∧ T (F t) k = true
      · rw [if_pos h, if_pos ⟨by omega, h.2⟩]
      · rw [if_neg h, if_neg (fun hh => h ⟨by omega, hh.2⟩)]
theorem tcTo_T {n : Nat} (hn : n ≤ 30) {xs : List Int} (hr : Rel n (nth xs)) (hz : ∀ i, n ≤ i → nth xs i = 0) (k : Nat) :
    Rel n (tcTo xs n k) ∧ (∀ i, n ≤ i → tcTo xs n k i = 0) ∧ ∀ i j, T (tcTo xs n k i) j = true ↔ P (fun a b => T (nth xs a) b = true) k i j := by
  induction k with
  | zero => exact ⟨hr, hz, fun i j => Iff.rfl⟩
  | succ k ih =>
    obtain ⟨h1, h2, h3⟩ := ih
    have e : ∀ t, tcTo xs n (k + 1) t = if t < n ∧ T (tcTo xs n k t) k = true then bits .or .i64 (tcTo xs n k t) (tcTo xs n k k) else tcTo xs n k t := tcIn_eq hn h1 k n
    refine ⟨fun i => ?_, fun i hi => ?_, fun i j => ?_⟩
    · rw [e]; split
      · exact (h1 i).or hn (h1 k)
      · exact h1 i
    · rw [e, if_neg (by omega), h2 i hi]
    · rw [e]
      have p0 := h3 i j
      have p1 := h3 i k
      have p2 := h3 k j
      show _ ↔ P _ k i j ∨ (P _ k i k ∧ P _ k k j)
      rw [← p0, ← p1, ← p2]
      by_cases hi : i < n
      · by_cases h : T (tcTo xs n k i) k = true
        · rw [if_pos ⟨hi, h⟩, T_or hn (h1 i) (h1 k), Bool.or_eq_true]
          simp [h]
        · rw [if_neg (fun hh => h hh.2)]
          simp [h]
      · rw [if_neg (fun hh => hi hh.1), h2 i (by omega), T_zero, T_zero]
        simp

end Go.Proofs.YtngllobakfnhiaaDoor
