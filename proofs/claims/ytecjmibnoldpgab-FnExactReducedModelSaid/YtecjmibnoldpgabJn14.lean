/- 3 texts in one: Tr, TrM, PreM. -/
import Derived.Test.YtecjmibnoldpgabIsMo
import Derived.Test.YtecjmibnoldpgabJn02
import Derived.Test.YtecjmibnoldpgabJn12
import Derived.Test.YtecjmibnoldpgabJn06
/- The truth set of a formula in a model, and what the model answers for it. Conditions: those in the theorems. -/
namespace Go.Proofs.Ytecjmibnoldpgab
open Go.RowKit

def Fm.tr (xs ys : List Int) : Fm → Int
  | .va s => nth ys s.toNat
  | .fa => 0
  | .un k a => if k = 5 then boxTo xs (a.tr xs ys) xs.length else bits .andNot .i64 (full xs.length) (boxTo xs (bits .andNot .i64 (full xs.length) (a.tr xs ys)) xs.length)
  | .bi k a b => if k = 2 then bits .and .i64 (a.tr xs ys) (b.tr xs ys) else if k = 3 then bits .or .i64 (a.tr xs ys) (b.tr xs ys) else bits .or .i64 (bits .andNot .i64 (full xs.length) (a.tr xs ys)) (b.tr xs ys)

/-- A model's parts at their places. -/
def Mo (w : World) (n : Int) (a : Option Addr) (a' : Option Addr) (xs ys : List Int) : Prop := n = xs.length ∧ xs.length ≤ 8 ∧ (mksTo xs.length xs xs.length = true ∧ mksTo xs.length ys ys.length = true) ∧ ys.length = 6 ∧ At w a xs.length xs ∧ At w a' ys.length ys
theorem Mo.keep {w w' : World} {n : Int} {a a' : Option Addr} {xs ys : List Int} (h : Mo w n a a' xs ys) (hb : Below w.heap.size w w') : Mo w' n a a' xs ys := ⟨h.1, h.2.1, h.2.2.1, h.2.2.2.1, h.2.2.2.2.1.keep hb (Nat.le_refl _), h.2.2.2.2.2.keep hb (Nat.le_refl _)⟩
theorem Mo.drw {w : World} {n : Int} {a a' : Option Addr} {xs ys : List Int} (h : Mo w n a a' xs ys) : Mo w.drew n a a' xs ys := h
theorem AtF.drw {w : World} {b off len cap : Nat} {f : Fm} (h : AtF w b off len cap f) : AtF w.drew b off len cap f := h

def trB (n k : Int) (x y : Int) : Int := if k = 2 then bits .and .i64 x y else if k = 3 then bits .or .i64 x y else bits .or .i64 (bits .andNot .i64 (full n) x) y

end Go.Proofs.Ytecjmibnoldpgab

/- Facts of masks: and, and not; the truth set of a formula in a model is a set of its worlds. Conditions: those in the theorems. -/
namespace Go.Proofs.Ytecjmibnoldpgab
open Go.RowKit

theorem inot (a b : Nat) (ha : a < 1073741824) : bits .andNot .i64 (a : Int) (b : Int) = (((BitVec.ofNat 64 a &&& ~~~ BitVec.ofNat 64 b).toNat : Nat) : Int) := by
  have e1 : bits .andNot .i64 (a : Int) (b : Int) = (BitVec.ofInt 64 (a : Int) &&& ~~~ (BitVec.ofInt 64 (b : Int))).toInt := wrap_toInt _
  rw [e1, BitVec.ofInt_natCast, BitVec.ofInt_natCast, BitVec.toInt_eq_toNat_of_lt]
  rw [BitVec.toNat_and]
  have h1 := Nat.and_le_left (n := (BitVec.ofNat 64 a).toNat) (m := (~~~ BitVec.ofNat 64 b).toNat)
  have h2 : (BitVec.ofNat 64 a).toNat ≤ a := by rw [BitVec.toNat_ofNat]; exact Nat.mod_le _ _
  omega
theorem inot_le (a b : Nat) : (BitVec.ofNat 64 a &&& ~~~ BitVec.ofNat 64 b).toNat ≤ a := by
  rw [BitVec.toNat_and]
  have h1 := Nat.and_le_left (n := (BitVec.ofNat 64 a).toNat) (m := (~~~ BitVec.ofNat 64 b).toNat)
  have h2 : (BitVec.ofNat 64 a).toNat ≤ a := by rw [BitVec.toNat_ofNat]; exact Nat.mod_le _ _
  omega
theorem inot_bit (a b : Nat) (ha : a < 1073741824) (i : Nat) : (BitVec.ofNat 64 a &&& ~~~ BitVec.ofNat 64 b).toNat.testBit i = (a.testBit i && !b.testBit i) := by
  rw [show (BitVec.ofNat 64 a &&& ~~~ BitVec.ofNat 64 b).toNat.testBit i = (BitVec.ofNat 64 a &&& ~~~ BitVec.ofNat 64 b).getLsbD i from rfl, BitVec.getLsbD_and, BitVec.getLsbD_not, BitVec.getLsbD_ofNat, BitVec.getLsbD_ofNat]
  by_cases h : i < 64
  · simp [h]
  · have : a.testBit i = false := Nat.testBit_lt_two_pow (Nat.lt_of_lt_of_le ha (Nat.le_trans (show 1073741824 ≤ 2 ^ 64 by decide) (Nat.pow_le_pow_right (by decide) (by omega))))
    simp [h, this]
theorem T_not {n : Nat} (hn : n ≤ 30) {x y : Int} (hx : InMk n x) (hy : InMk n y) (i : Nat) : T (bits .andNot .i64 x y) i = (T x i && !T y i) := by
  have h1 := hx.bd hn
  obtain ⟨a, rfl⟩ := Int.eq_ofNat_of_zero_le hx.1
  obtain ⟨b, rfl⟩ := Int.eq_ofNat_of_zero_le hy.1
  rw [inot a b (by omega), T, Int.toNat_natCast, inot_bit a b (by omega)]
  rfl
theorem InMk.not {n : Nat} (hn : n ≤ 30) {x y : Int} (hx : InMk n x) (hy : InMk n y) : InMk n (bits .andNot .i64 x y) := by
  have h1 := hx.bd hn
  have a1 := hx.nat
  obtain ⟨a, rfl⟩ := Int.eq_ofNat_of_zero_le hx.1
  obtain ⟨b, rfl⟩ := Int.eq_ofNat_of_zero_le hy.1
  rw [inot a b (by omega)]
  rw [Int.toNat_natCast] at a1
  exact InMk.of (Nat.lt_of_le_of_lt (inot_le a b) a1)
theorem T_an {n : Nat} (hn : n ≤ 30) {x y : Int} (hx : InMk n x) (hy : InMk n y) (i : Nat) : T (bits .and .i64 x y) i = (T x i && T y i) := by
  have h1 := hx.bd hn
  have h2 := hy.bd hn
  obtain ⟨a, rfl⟩ := Int.eq_ofNat_of_zero_le hx.1
  obtain ⟨b, rfl⟩ := Int.eq_ofNat_of_zero_le hy.1
  rw [iand _ _ (by omega) (by omega)]
  simp [T]
theorem InMk.an {n : Nat} (hn : n ≤ 30) {x y : Int} (hx : InMk n x) (hy : InMk n y) : InMk n (bits .and .i64 x y) := by
  have h1 := hx.bd hn
  have h2 := hy.bd hn
  have a2 := hy.nat
  obtain ⟨a, rfl⟩ := Int.eq_ofNat_of_zero_le hx.1
  obtain ⟨b, rfl⟩ := Int.eq_ofNat_of_zero_le hy.1
  rw [iand _ _ (by omega) (by omega)]
  exact InMk.of (Nat.lt_of_le_of_lt Nat.and_le_right (by simpa using a2))

/-- The truth set is a set of worlds. -/
theorem tr_in {xs ys : List Int} (hn : xs.length ≤ 30) (hr : Rel xs.length (nth xs)) (hy : ∀ i, InMk xs.length (nth ys i)) (f : Fm) : InMk xs.length (f.tr xs ys) := by
  have hF := InMk.full hn
  induction f with
  | va s => exact hy _
  | fa => exact InMk.zero _
  | un k a ih =>
    rw [Fm.tr]
    split
    · exact (boxTo_T hn hr (ih.bd hn) _ (Nat.le_refl _)).1
    · exact hF.not hn (boxTo_T hn hr ((hF.not hn ih).bd hn) _ (Nat.le_refl _)).1
  | bi k a b iha ihb =>
    rw [Fm.tr]
    split
    · exact iha.an hn ihb
    · split
      · exact iha.or hn ihb
      · exact (hF.not hn iha).or hn ihb
theorem isM_rel {n : Int} {xs ys : List Int} (h : isM n xs ys = true) : n = xs.length ∧ xs.length ≤ 8 ∧ Rel xs.length (nth xs) ∧ ∀ i, InMk xs.length (nth ys i) := by
  obtain ⟨h1, h2, h3, h4, h5, h6⟩ := isM_ok h
  refine ⟨h2, h3, (frB_ok h1).2.2.2, fun i => ?_⟩
  by_cases hi : i < ys.length
  · exact (mksTo_iff (by omega) ys ys.length).1 h6 i hi
  · rw [nth_high (by omega)]; exact InMk.zero _
theorem full_iff {n : Nat} (hn : n ≤ 30) {x : Int} (hx : InMk n x) : (x == full n) = (bits .andNot .i64 (full n) x == 0) := by
  rw [Bool.eq_iff_iff, beq_iff_eq, beq_iff_eq, andNot_zero hn (InMk.full hn) hx]
  constructor
  · rintro rfl i h; exact h
  · intro h
    refine T_ext hx (InMk.full hn) fun i => ?_
    cases hi : T (full n) i
    · rw [T_full hn] at hi
      exact T_high hx (by simpa using hi)
    · exact h i hi

end Go.Proofs.Ytecjmibnoldpgab

/- Facts of the preimage: its members; a box of what is not, not. Plain mathematics. -/
namespace Go.Proofs.Ytecjmibnoldpgab
open Go.RowKit

theorem and_zero {n : Nat} (hn : n ≤ 30) {x y : Int} (hx : InMk n x) (hy : InMk n y) : (bits .and .i64 x y == 0) = true ↔ ∀ i, T x i = true → T y i = false := by
  rw [beq_iff_eq]
  constructor
  · intro h i hi
    have := T_an hn hx hy i
    rw [h, T_zero, hi, Bool.true_and] at this
    exact this.symm
  · intro h
    refine T_ext (hx.an hn hy) (InMk.zero n) fun i => ?_
    rw [T_an hn hx hy, T_zero]
    cases hi : T x i
    · rfl
    · rw [h i hi]; rfl

theorem piTo_T {n : Nat} (hn : n ≤ 30) {xs : List Int} (hr : Rel n (nth xs)) {m : Int} (hm : InMk n m) {p : Nat} (hp : p ≤ 30) (k : Nat) (hk : k ≤ p) :
    InMk p (piTo xs m k) ∧ ∀ i, T (piTo xs m k) i = true ↔ i < k ∧ ∃ j, T (nth xs i) j = true ∧ T m j = true := by
  induction k with
  | zero => exact ⟨InMk.zero p, fun i => by simp [piTo, T_zero]⟩
  | succ k ih =>
    obtain ⟨h1, h2⟩ := ih (by omega)
    have hz := and_zero hn (hr k) hm
    rw [piTo]
    cases hb : (bits .and .i64 (nth xs k) m == 0)
    · rw [if_neg (by simp)]
      have hex : ∃ j, T (nth xs k) j = true ∧ T m j = true := by
        refine Classical.byContradiction fun hh => ?_
        rw [hz.2 (fun i hi => by
          cases hmi : T m i
          · rfl
          · exact absurd ⟨i, hi, hmi⟩ hh)] at hb
        cases hb
      have ho := InMk.one hp (show k < p by omega)
      refine ⟨h1.or hp ho, fun i => ?_⟩
      rw [T_or hp h1 ho, Bool.or_eq_true, h2 i, T_one (by omega), decide_eq_true_eq]
      constructor
      · rintro (⟨a, b⟩ | h)
        · exact ⟨by omega, b⟩
        · subst h; exact ⟨by omega, hex⟩
      · rintro ⟨a, b⟩
        rcases Nat.lt_succ_iff_lt_or_eq.1 a with h | h
        · exact .inl ⟨h, b⟩
        · exact .inr h.symm
    · rw [if_pos rfl]
      refine ⟨h1, fun i => (h2 i).trans ⟨fun ⟨a, b⟩ => ⟨by omega, b⟩, fun ⟨a, b⟩ => ⟨?_, b⟩⟩⟩
      rcases Nat.lt_succ_iff_lt_or_eq.1 a with h | h
      · exact h
      · subst h
        obtain ⟨j, h3, h4⟩ := b
        rw [hz.1 hb j h3] at h4
        cases h4

/-- The diamond by the box. -/
theorem pi_box {xs : List Int} (hn : xs.length ≤ 30) (hr : Rel xs.length (nth xs)) {m : Int} (hm : InMk xs.length m) : piTo xs m xs.length = bits .andNot .i64 (full xs.length) (boxTo xs (bits .andNot .i64 (full xs.length) m) xs.length) := by
  have hF := InMk.full hn
  have hN := hF.not hn hm
  obtain ⟨p1, p2⟩ := piTo_T hn hr hm hn xs.length (Nat.le_refl _)
  obtain ⟨b1, b2⟩ := boxTo_T hn hr (hN.bd hn) xs.length (Nat.le_refl _)
  refine T_ext p1 (hF.not hn b1) fun i => ?_
  rw [T_not hn hF b1, T_full hn, Bool.eq_iff_iff, p2 i, Bool.and_eq_true, decide_eq_true_eq, Bool.not_eq_true', Bool.eq_false_iff, ne_eq, b2 i]
  constructor
  · rintro ⟨h, j, h1, h2⟩
    refine ⟨h, fun hh => ?_⟩
    have := hh.2 j h1
    rw [T_not hn hF hm, h2] at this
    simp at this
  · rintro ⟨h, hh⟩
    refine ⟨h, Classical.byContradiction fun hx => hh ⟨h, fun j hj => ?_⟩⟩
    rw [T_not hn hF hm, T_full hn]
    have : T m j = false := by
      cases hmj : T m j
      · rfl
      · exact absurd ⟨j, hj, hmj⟩ hx
    rw [this]
    simp
    exact T_lt (hr i) hj

end Go.Proofs.Ytecjmibnoldpgab
