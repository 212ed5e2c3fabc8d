/- Clauses as lists of literals and as masks (mathematics). No conditions but those in the theorems. -/
import Derived.Test.YtfpnmeacnhcakaaBox
import Derived.Test.YtfpnmeacnhcakaaMem
namespace Go.Proofs.Ytfpnmeacnhcakaa
open Go.RowKit

/-- The first k literals are as in a clause, as the model tells it. -/
def clTo (xs : List Int) : Nat → Bool
  | 0 => true
  | k + 1 => clTo xs k && (inB (nth xs k) 0 11 && (decide (k = 0) || decide (nth xs (k - 1) / 2 < nth xs k / 2)))
def clB (xs : List Int) : Bool := clTo xs xs.length
/-- The literal ahead of the k-th one. -/
def prv (xs : List Int) : Nat → Int
  | 0 => -1
  | k + 1 => nth xs k
/-- The first k literals ascend and exist. -/
def asTo (xs : List Int) : Nat → Bool
  | 0 => true
  | k + 1 => asTo xs k && (decide (prv xs k < nth xs k) && decide (nth xs k < 12))
theorem clTo_false {xs : List Int} {k l : Nat} (hk : k ≤ l) (h : clTo xs k = false) : clTo xs l = false := by
  induction l with
  | zero => simp at hk; subst hk; exact h
  | succ l ih =>
    by_cases e : k = l + 1
    · subst e; exact h
    · rw [clTo, ih (by omega)]; rfl
theorem asTo_false {xs : List Int} {k l : Nat} (hk : k ≤ l) (h : asTo xs k = false) : asTo xs l = false := by
  induction l with
  | zero => simp at hk; subst hk; exact h
  | succ l ih =>
    by_cases e : k = l + 1
    · subst e; exact h
    · rw [asTo, ih (by omega)]; rfl
theorem prv_ge {xs : List Int} {k : Nat} (h : asTo xs k = true) : -1 ≤ prv xs k ∧ prv xs k < 12 := by
  induction k with
  | zero => exact ⟨by simp [prv], by simp [prv]⟩
  | succ k ih =>
    simp only [asTo, Bool.and_eq_true, decide_eq_true_eq] at h
    have := ih h.1
    exact ⟨by show -1 ≤ nth xs k; omega, h.2.2⟩
theorem asTo_in {xs : List Int} {n : Nat} (h : asTo xs n = true) : ∀ k, k < n → 0 ≤ nth xs k ∧ nth xs k < 12 := by
  induction n with
  | zero => intro k hk; omega
  | succ n ih =>
    simp only [asTo, Bool.and_eq_true, decide_eq_true_eq] at h
    intro k hk
    by_cases e : k = n
    · subst e; have := prv_ge h.1; exact ⟨by omega, h.2.2⟩
    · exact ih h.1 k (by omega)
theorem asTo_cl {xs : List Int} {n : Nat} (h : clTo xs n = true) : asTo xs n = true := by
  induction n with
  | zero => rfl
  | succ n ih =>
    simp only [clTo, Bool.and_eq_true, inB, decide_eq_true_eq, Bool.or_eq_true] at h
    have ih := ih h.1
    simp only [asTo, ih, Bool.and_eq_true, decide_eq_true_eq, true_and]
    refine ⟨?_, by omega⟩
    rcases h.2.2 with e | e
    · subst e; show (-1 : Int) < _; omega
    · cases n with
      | zero => show (-1 : Int) < _; omega
      | succ n => show nth xs n < _; simp only [Nat.add_sub_cancel] at e; omega
/-- In a clause the variables ascend. -/
theorem clTo_lt {xs : List Int} {n : Nat} (h : clTo xs n = true) : ∀ j, j < n → ∀ i, i < j → nth xs i / 2 < nth xs j / 2 := by
  induction n with
  | zero => intro j hj; omega
  | succ n ih =>
    simp only [clTo, Bool.and_eq_true, inB, decide_eq_true_eq, Bool.or_eq_true] at h
    intro j hj i hi
    by_cases e : j = n
    · subst e
      have h1 : nth xs (j - 1) / 2 < nth xs j / 2 := by
        rcases h.2.2 with e | e
        · omega
        · exact e
      by_cases e2 : i = j - 1
      · rw [e2]; exact h1
      · have := ih h.1 (j - 1) (by omega) i (by omega)
        omega
    · exact ih h.1 j (by omega) i hi

/-- The mask of the first k literals. -/
def mk (xs : List Int) : Nat → Nat
  | 0 => 0
  | k + 1 => mk xs k ||| 2 ^ (nth xs k).toNat
theorem mk_lt {xs : List Int} {n : Nat} (h : ∀ k, k < n → 0 ≤ nth xs k ∧ nth xs k < 12) : mk xs n < 4096 := by
  induction n with
  | zero => simp [mk]
  | succ n ih =>
    have h1 := ih (fun k hk => h k (by omega))
    have h2 := h n (by omega)
    have h3 : (2 : Nat) ^ (nth xs n).toNat < 2 ^ 12 := Nat.pow_lt_pow_right (by decide) (by omega)
    exact Nat.or_lt_two_pow (n := 12) h1 h3
theorem mk_bit {xs : List Int} {n : Nat} (h : ∀ k, k < n → 0 ≤ nth xs k ∧ nth xs k < 12) (l : Nat) : (mk xs n).testBit l = true ↔ ∃ k, k < n ∧ nth xs k = l := by
  induction n with
  | zero => simp [mk]
  | succ n ih =>
    have h2 := h n (by omega)
    rw [mk, Nat.testBit_or, Bool.or_eq_true, ih (fun k hk => h k (by omega)), Nat.testBit_two_pow, decide_eq_true_eq]
    constructor
    · rintro (⟨k, hk, e⟩ | e)
      · exact ⟨k, by omega, e⟩
      · exact ⟨n, by omega, by omega⟩
    · rintro ⟨k, hk, e⟩
      by_cases e2 : k = n
      · subst e2; right; omega
      · left; exact ⟨k, by omega, e⟩
theorem moB_in {xs : List Int} {n : Nat} (h : ∀ k, k < n → 0 ≤ nth xs k ∧ nth xs k < 12) : moB 12 xs n = true ∧ mo 12 xs n = (mk xs n : Nat) := by
  induction n with
  | zero => exact ⟨rfl, rfl⟩
  | succ n ih =>
    have h1 := ih (fun k hk => h k (by omega))
    have h2 := h n (by omega)
    have h4 := mk_lt (fun k (hk : k < n) => h k (by omega))
    have h3 : (2 : Nat) ^ (nth xs n).toNat < 2 ^ 12 := Nat.pow_lt_pow_right (by decide) (by omega)
    refine ⟨by rw [moB, h1.1, inB]; simp; omega, ?_⟩
    rw [mo, h1.2, one_eq _ h2.1 (by omega), show ((2 : Int) ^ (nth xs n).toNat) = ((2 ^ (nth xs n).toNat : Nat) : Int) by simp, ior _ _ (by omega) (by omega)]
    rfl
theorem moV_in {xs : List Int} {n : Nat} (h : ∀ k, k < n → 0 ≤ nth xs k ∧ nth xs k < 12) : moR 12 xs n = .tuple #[.int .i64 ((mk xs n : Nat) : Int), .int .i64 0] := by
  obtain ⟨h1, h2⟩ := moB_in h
  have h3 : inB (12 : Int) 0 30 = true := by decide
  simp [moR, moV, moC, h1, h2, h3]

/-- The mask of the negations of the literals of a mask. -/
def ngM (m : Nat) : Nat := ((m &&& 1365) <<< 1) ||| ((m >>> 1) &&& 1365)
theorem b1365 (l : Nat) : Nat.testBit 1365 l = decide (l < 12 ∧ l % 2 = 0) := by
  by_cases h : l < 12
  · have : ∀ l, l < 12 → Nat.testBit 1365 l = decide (l < 12 ∧ l % 2 = 0) := by decide
    exact this l h
  · have h2 : (2 : Nat) ^ 12 ≤ 2 ^ l := Nat.pow_le_pow_right (by decide) (by omega)
    rw [Nat.testBit_lt_two_pow (by omega)]
    simp [h]
theorem ngM_even (m v : Nat) (hv : v < 6) : (ngM m).testBit (2 * v) = m.testBit (2 * v + 1) := by
  rw [ngM, Nat.testBit_or, Nat.testBit_shiftLeft, Nat.testBit_and, Nat.testBit_and, Nat.testBit_shiftRight, b1365, b1365, Nat.add_comm 1]
  have e1 : decide (2 * v < 12 ∧ 2 * v % 2 = 0) = true := decide_eq_true (by omega)
  have e2 : (decide (2 * v ≥ 1) && (m.testBit (2 * v - 1) && decide (2 * v - 1 < 12 ∧ (2 * v - 1) % 2 = 0))) = false := by
    by_cases h : v = 0
    · subst h; rfl
    · have : decide (2 * v - 1 < 12 ∧ (2 * v - 1) % 2 = 0) = false := decide_eq_false (by omega)
      rw [this]; simp
  rw [e1, e2]; simp
theorem ngM_odd (m v : Nat) (hv : v < 6) : (ngM m).testBit (2 * v + 1) = m.testBit (2 * v) := by
  rw [ngM, Nat.testBit_or, Nat.testBit_shiftLeft, Nat.testBit_and, Nat.testBit_and, Nat.testBit_shiftRight, b1365, b1365]
  have e1 : decide (2 * v + 1 - 1 < 12 ∧ (2 * v + 1 - 1) % 2 = 0) = true := decide_eq_true (by omega)
  have e2 : decide (2 * v + 1 < 12 ∧ (2 * v + 1) % 2 = 0) = false := decide_eq_false (by omega)
  rw [e1, e2]; simp
theorem ngM_high (m l : Nat) (hl : 12 ≤ l) : (ngM m).testBit l = false := by
  rw [ngM, Nat.testBit_or, Nat.testBit_shiftLeft, Nat.testBit_and, Nat.testBit_and, Nat.testBit_shiftRight, b1365, b1365]
  have e1 : decide (l - 1 < 12 ∧ (l - 1) % 2 = 0) = false := decide_eq_false (by omega)
  have e2 : decide (l < 12 ∧ l % 2 = 0) = false := decide_eq_false (by omega)
  rw [e1, e2]; simp
theorem ngM_lt (m : Nat) : ngM m < 4096 := by
  apply Nat.lt_of_not_le
  intro h
  obtain ⟨l, hl, hb⟩ := Nat.exists_ge_and_testBit_of_ge_two_pow (n := 12) h
  rw [ngM_high m l hl] at hb; cases hb
def cmB (m : Nat) : Bool := m &&& ngM m == 0
theorem cmB_iff (m : Nat) : cmB m = true ↔ ∀ v, v < 6 → ¬ (m.testBit (2 * v) = true ∧ m.testBit (2 * v + 1) = true) := by
  rw [cmB, beq_iff_eq]
  constructor
  · rintro h v hv ⟨h1, h2⟩
    have h3 : (m &&& ngM m).testBit (2 * v) = true := by rw [Nat.testBit_and, ngM_even m v hv, h1, h2]; rfl
    rw [h] at h3; simp at h3
  · intro h
    refine Nat.eq_of_testBit_eq (fun l => ?_)
    rw [Nat.zero_testBit, Nat.testBit_and]
    by_cases hl : 12 ≤ l
    · rw [ngM_high m l hl]; simp
    · rcases Nat.mod_two_eq_zero_or_one l with e | e
      · obtain ⟨v, rfl⟩ : ∃ v, l = 2 * v := ⟨l / 2, by omega⟩
        rw [ngM_even m v (by omega)]
        have := h v (by omega)
        cases e1 : m.testBit (2 * v) <;> cases e2 : m.testBit (2 * v + 1) <;> simp_all
      · obtain ⟨v, rfl⟩ : ∃ v, l = 2 * v + 1 := ⟨l / 2, by omega⟩
        rw [ngM_odd m v (by omega)]
        have := h v (by omega)
        cases e1 : m.testBit (2 * v) <;> cases e2 : m.testBit (2 * v + 1) <;> simp_all
theorem cmB_cl {xs : List Int} {n : Nat} (h : asTo xs n = true) : cmB (mk xs n) = clTo xs n := by
  have hin := asTo_in h
  rw [Bool.eq_iff_iff, cmB_iff]
  constructor
  · intro hv
    have : ∀ k, k ≤ n → clTo xs k = true := by
      intro k
      induction k with
      | zero => intro _; rfl
      | succ k ih =>
        intro hk
        have ih := ih (by omega)
        have h2 := hin k (by omega)
        simp only [clTo, ih, Bool.and_eq_true, inB, decide_eq_true_eq, Bool.or_eq_true, true_and]
        refine ⟨by omega, ?_⟩
        by_cases e : k = 0
        · exact .inl e
        · right
          have h3 := hin (k - 1) (by omega)
          have h4 : asTo xs (k + 1) = true := by
            cases e : asTo xs (k + 1)
            · rw [asTo_false hk e] at h; cases h
            · rfl
          obtain ⟨j, rfl⟩ : ∃ j, k = j + 1 := ⟨k - 1, by omega⟩
          rw [asTo, Bool.and_eq_true, Bool.and_eq_true, decide_eq_true_eq] at h4
          have h5 : nth xs j < nth xs (j + 1) := h4.2.1
          simp only [Nat.add_sub_cancel] at h3 ⊢
          apply Int.lt_of_not_ge
          intro hge
          have := hv (nth xs j / 2).toNat (by omega)
          exact this ⟨(mk_bit hin _).2 ⟨j, by omega, by omega⟩, (mk_bit hin _).2 ⟨j + 1, by omega, by omega⟩⟩
    exact this n (Nat.le_refl _)
  · rintro hc v hv ⟨h1, h2⟩
    obtain ⟨i, hi, e1⟩ := (mk_bit hin _).1 h1
    obtain ⟨j, hj, e2⟩ := (mk_bit hin _).1 h2
    rcases Nat.lt_trichotomy i j with e | e | e
    · have := clTo_lt hc j hj i e; omega
    · subst e; omega
    · have := clTo_lt hc i hi j e; omega
theorem cl_eq (xs : List Int) (n : Nat) : clTo xs n = (asTo xs n && cmB (mk xs n)) := by
  cases h : asTo xs n
  · cases h2 : clTo xs n
    · rfl
    · rw [asTo_cl h2] at h; cases h
  · rw [cmB_cl h]; rfl

/-- The program's words for the same. -/
def ngI (m : Int) : Int := bits .or .i64 (wrap64 (bits .and .i64 m 1365 * 2)) (bits .and .i64 (m / 2) 1365)
theorem ngI_eq (m : Nat) (hm : m < 4096) : ngI m = (ngM m : Nat) := by
  have h1 : bits .and .i64 (m : Int) 1365 = ((m &&& 1365 : Nat) : Int) := iand m 1365 (by omega) (by decide)
  have e2 : (m : Int) / 2 = ((m >>> 1 : Nat) : Int) := by rw [Nat.shiftRight_eq_div_pow]; omega
  have hs : m >>> 1 < 4096 := by rw [Nat.shiftRight_eq_div_pow]; omega
  have h2 : bits .and .i64 ((m : Int) / 2) 1365 = ((m >>> 1 &&& 1365 : Nat) : Int) := (congrArg (fun z => bits .and .i64 z 1365) e2).trans (iand _ 1365 (by omega) (by decide))
  have h3 : m &&& 1365 ≤ 1365 := Nat.and_le_right
  have h5 : m >>> 1 &&& 1365 ≤ 1365 := Nat.and_le_right
  have h4 : wrap64 (((m &&& 1365 : Nat) : Int) * 2) = (((m &&& 1365) <<< 1 : Nat) : Int) := by
    rw [Nat.shiftLeft_eq]
    exact (IntWalk.wrap64_in _ (by omega)).trans (by omega)
  have h6 : (m &&& 1365) <<< 1 < 4096 := by rw [Nat.shiftLeft_eq]; omega
  rw [ngI, h1, h2, h4]
  exact ior _ _ (by omega) (by omega)
theorem cmI_eq (m : Nat) (hm : m < 4096) : (bits .and .i64 (m : Int) (ngM m : Nat) == 0) = cmB m := by
  have h := ngM_lt m
  rw [iand _ _ (by omega) (by omega), cmB, Bool.eq_iff_iff, beq_iff_eq, beq_iff_eq]
  omega

end Go.Proofs.Ytfpnmeacnhcakaa
