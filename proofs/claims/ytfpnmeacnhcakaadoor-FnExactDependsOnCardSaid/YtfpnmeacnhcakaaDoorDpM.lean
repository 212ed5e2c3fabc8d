/- Rows that differ in one variable: as words and as values (mathematics). No conditions but those in the theorems. -/
import Derived.Test.YtfpnmeacnhcakaaDoorBw
import Derived.Test.YtfpnmeacnhcakaaDoorTv
namespace Go.Proofs.YtfpnmeacnhcakaaDoor
open Go.RowKit

theorem U_shr (b : BitVec 64) (n : Nat) : U b / 2 ^ n = U (b >>> n) := by
  unfold U
  rw [BitVec.toNat_ushiftRight, Nat.shiftRight_eq_div_pow]
  simp
theorem U_shl (b : BitVec 64) (n : Nat) : IntKind.u64.wrap (U b * 2 ^ n) = U (b <<< n) := by
  have h : IntKind.u64.wrap (U b * 2 ^ n) = (U b * 2 ^ n) % 18446744073709551616 := by simp [IntKind.wrap, IntKind.signed, IntKind.bits]
  rw [h]
  unfold U
  rw [BitVec.toNat_shiftLeft, Nat.shiftLeft_eq]
  simp
/-- The word whose rows have the neighbours' digits. -/
def flB (b : BitVec 64) (v : Nat) : BitVec 64 := ((b &&& vr v) >>> (2 ^ v)) ||| ((b &&& ~~~(vr v)) <<< (2 ^ v))
set_option maxRecDepth 8000 in
theorem fl_no : ∀ v, v < 6 → ∀ r, r < 64 → r.testBit v = false → r + 2 ^ v < 64 ∧ (r + 2 ^ v).testBit v = true ∧ (2 ^ v ≤ r → (r - 2 ^ v).testBit v = true) := by decide
set_option maxRecDepth 8000 in
theorem fl_yes : ∀ v, v < 6 → ∀ r, r < 64 → r.testBit v = true → 2 ^ v ≤ r ∧ (r - 2 ^ v).testBit v = false ∧ (r + 2 ^ v < 64 → (r + 2 ^ v).testBit v = false) := by decide
theorem fl_row (b : BitVec 64) {v r : Nat} (hv : v < 6) (hr : r < 64) : (flB b v).getLsbD r = if r.testBit v then b.getLsbD (r - 2 ^ v) else b.getLsbD (r + 2 ^ v) := by
  have e : (flB b v).getLsbD r = ((b.getLsbD (2 ^ v + r) && (vr v).getLsbD (2 ^ v + r)) || (decide (r < 64) && !decide (r < 2 ^ v) && (b.getLsbD (r - 2 ^ v) && (decide (r - 2 ^ v < 64) && !(vr v).getLsbD (r - 2 ^ v))))) := by
    simp [flB]
  rw [e, Nat.add_comm (2 ^ v) r]
  cases h : r.testBit v
  · obtain ⟨h1, h2, h3⟩ := fl_no v hv r hr h
    rw [vr_row v hv _ h1, h2]
    by_cases h4 : 2 ^ v ≤ r
    · rw [vr_row v hv _ (Nat.lt_of_le_of_lt (Nat.sub_le r (2 ^ v)) hr), h3 h4]; simp
    · have : r < 2 ^ v := by omega
      simp [this]
  · obtain ⟨h1, h2, h3⟩ := fl_yes v hv r hr h
    rw [vr_row v hv _ (Nat.lt_of_le_of_lt (Nat.sub_le r (2 ^ v)) hr), h2]
    have h6 : decide (r < 2 ^ v) = false := decide_eq_false (Nat.not_lt.2 h1)
    have h7 : decide (r - 2 ^ v < 64) = true := decide_eq_true (Nat.lt_of_le_of_lt (Nat.sub_le r (2 ^ v)) hr)
    rw [h6, h7]
    by_cases h4 : r + 2 ^ v < 64
    · rw [vr_row v hv _ h4, h3 h4]; simp [hr]
    · have h5 : b.getLsbD (r + 2 ^ v) = false := BitVec.getLsbD_of_ge b _ (Nat.not_lt.1 h4)
      rw [h5]; simp [hr]
/-- The formula depends on the variable v in the first n rows. -/
def dpR (f : Fm) (v : Nat) : Nat → Bool
  | 0 => false
  | r + 1 => dpR f v r || (!r.testBit v && (f.ev r != f.ev (r + 2 ^ v)))
theorem dpR_iff (f : Fm) (v n : Nat) : dpR f v n = true ↔ ∃ r, r < n ∧ r.testBit v = false ∧ f.ev r ≠ f.ev (r + 2 ^ v) := by
  induction n with
  | zero => simp [dpR]
  | succ n ih =>
    rw [dpR, Bool.or_eq_true, ih]
    constructor
    · rintro (⟨r, h1, h2⟩ | h)
      · exact ⟨r, by omega, h2⟩
      · simp only [Bool.and_eq_true, Bool.not_eq_true', bne_iff_ne] at h
        exact ⟨n, by omega, h⟩
    · rintro ⟨r, h1, h2, h3⟩
      by_cases e : r = n
      · subst e; right; simp [h2, h3]
      · left; exact ⟨r, by omega, h2, h3⟩
theorem dp_word (f : Fm) (hf : f.ok) {v : Nat} (hv : v < 6) : (U (flB f.mw v) == U f.mw) = !dpR f v 64 := by
  rw [U_beq]
  have key : flB f.mw v = f.mw ↔ ¬ dpR f v 64 = true := by
    rw [dpR_iff]
    constructor
    · rintro h ⟨r, h1, h2, h3⟩
      obtain ⟨h4, h5, -⟩ := fl_no v hv r h1 h2
      have := fl_row f.mw hv h1
      rw [h, h2, Fm.mw_row f hf r h1] at this
      simp only [Bool.false_eq_true, if_false] at this
      rw [Fm.mw_row f hf _ h4] at this
      exact h3 this
    · intro h
      refine word_ext fun r hr => ?_
      rw [fl_row f.mw hv hr, Fm.mw_row f hf r hr]
      cases e : r.testBit v
      · obtain ⟨h4, h5, -⟩ := fl_no v hv r hr e
        simp only [Bool.false_eq_true, if_false]
        rw [Fm.mw_row f hf _ h4]
        cases Decidable.em (f.ev r = f.ev (r + 2 ^ v)) with
        | inl h' => exact h'.symm
        | inr h' => exact (h ⟨r, hr, e, h'⟩).elim
      · obtain ⟨h4, h5, -⟩ := fl_yes v hv r hr e
        simp only [if_true]
        rw [Fm.mw_row f hf _ (Nat.lt_of_le_of_lt (Nat.sub_le r (2 ^ v)) hr)]
        cases Decidable.em (f.ev (r - 2 ^ v) = f.ev r) with
        | inl h' => exact h'
        | inr h' => exact (h ⟨r - 2 ^ v, Nat.lt_of_le_of_lt (Nat.sub_le r (2 ^ v)) hr, h5, by rw [Nat.sub_add_cancel h4]; exact h'⟩).elim
  cases e : dpR f v 64
  · rw [e] at key; rw [key.2 (by simp)]; simp
  · rw [e] at key
    have : ¬ flB f.mw v = f.mw := fun h => (key.1 h) rfl
    simpa using this
/-- The first n variables on which the formula depends. -/
def dpL (f : Fm) : Nat → List Int
  | 0 => []
  | n + 1 => if dpR f n 64 then dpL f n ++ [((n : Nat) : Int)] else dpL f n
theorem dpL_len (f : Fm) (n : Nat) : (dpL f n).length ≤ n := by
  induction n with
  | zero => simp [dpL]
  | succ n ih =>
    rw [dpL]
    split
    · simp; omega
    · omega

end Go.Proofs.YtfpnmeacnhcakaaDoor
