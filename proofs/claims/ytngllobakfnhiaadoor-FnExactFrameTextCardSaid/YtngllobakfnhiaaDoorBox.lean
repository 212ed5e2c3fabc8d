/- Contracts of the functions of chapter 1 behind BoxMask and MaskOf, and the walks of their laws. Conditions: those in the theorems. -/
import Derived.Test.YtngllobakfnhiaaDoorMore
namespace Go.Proofs.YtngllobakfnhiaaDoor
open Go.RowKit

theorem wrap_toInt (u : BitVec 64) : IntKind.i64.wrap (u.toNat : Int) = u.toInt := by
  rw [IntKind.wrap_i64, BitVec.toInt]
  have h := u.isLt
  split <;> omega
theorem ofInt_toInt (x : Int) (h : -9223372036854775808 ≤ x ∧ x ≤ 9223372036854775807) : (BitVec.ofInt 64 x).toInt = x := by
  rw [BitVec.toInt_ofInt]
  exact Int.bmod_eq_of_le (by omega) (by omega)

def subB (x m : Int) : Bool := bits .and .i64 x m == x
theorem subB_andNot (x m : Int) (h : -9223372036854775808 ≤ x ∧ x ≤ 9223372036854775807) : (bits .andNot .i64 x m == 0) = subB x m := by
  have e1 : bits .andNot .i64 x m = (BitVec.ofInt 64 x &&& ~~~ (BitVec.ofInt 64 m)).toInt := wrap_toInt _
  have e2 : bits .and .i64 x m = (BitVec.ofInt 64 x &&& BitVec.ofInt 64 m).toInt := wrap_toInt _
  have e3 : (bits .and .i64 x m == x) = (bits .and .i64 x m == (BitVec.ofInt 64 x).toInt) := by rw [ofInt_toInt x h]
  have e4 : (0 : Int) = (0#64).toInt := by decide
  unfold subB
  rw [e3, e1, e2, Bool.eq_iff_iff]
  simp only [beq_iff_eq]
  rw [e4, BitVec.toInt_inj, BitVec.toInt_inj]
  generalize BitVec.ofInt 64 x = a
  generalize BitVec.ofInt 64 m = b
  constructor
  · intro h
    refine BitVec.eq_of_getLsbD_eq fun i hi => ?_
    have := congrArg (fun v : BitVec 64 => v.getLsbD i) h
    simp only [BitVec.getLsbD_and, BitVec.getLsbD_not, hi, decide_true, Bool.true_and, BitVec.getLsbD_zero] at this ⊢
    revert this
    cases a.getLsbD i <;> cases b.getLsbD i <;> simp
  · intro h
    refine BitVec.eq_of_getLsbD_eq fun i hi => ?_
    have := congrArg (fun v : BitVec 64 => v.getLsbD i) h
    simp only [BitVec.getLsbD_and, BitVec.getLsbD_not, hi, decide_true, Bool.true_and, BitVec.getLsbD_zero] at this ⊢
    revert this
    cases a.getLsbD i <;> cases b.getLsbD i <;> simp

def boxTo (xs : List Int) (m : Int) : Nat → Int
  | 0 => 0
  | k + 1 => if subB (nth xs k) m then bits .or .i64 (boxTo xs m k) (one k) else boxTo xs m k

theorem nth_bd {xs : List Int} {n : Int} {len k : Nat} (hn : 0 ≤ n) (hn2 : n ≤ 30) (h : mksTo n xs len = true) (hk : k < len) : 0 ≤ nth xs k ∧ nth xs k ≤ 1073741823 := by
  induction len with
  | zero => omega
  | succ l ih =>
    rw [mksTo, Bool.and_eq_true] at h
    by_cases e : k = l
    · subst e
      have h2 := h.2
      rw [mskB, inB, full_eq n hn hn2] at h2
      have := pow_bd n hn hn2
      simp at h2
      omega
    · exact ih h.1 (by omega)

def boxV (xs : List Int) (len : Nat) (m : Int) : Int := if bothI xs len m = 0 then boxTo xs m len else 0
theorem BoxOut_ok {xs : List Int} {len : Nat} {m : Int} (h : bothI xs len m = 0) : Ending.returned (.tuple #[.int .i64 (boxTo xs m len), .int .i64 0]) = .returned (.tuple #[.int .i64 (boxV xs len m), .int .i64 (bothI xs len m)]) := by rw [boxV, if_pos h, h]
theorem BoxOut_bad {xs : List Int} {len : Nat} {m c : Int} (h : ¬ bothI xs len m = 0) (hc : c = bothI xs len m) : Ending.returned (.tuple #[.int .i64 0, .int .i64 c]) = .returned (.tuple #[.int .i64 (boxV xs len m), .int .i64 (bothI xs len m)]) := by rw [boxV, if_neg h, hc]

def mo (n : Int) (xs : List Int) : Nat → Int
  | 0 => 0
  | k + 1 => bits .or .i64 (mo n xs k) (one (nth xs k))
def moB (n : Int) (xs : List Int) : Nat → Bool
  | 0 => true
  | k + 1 => moB n xs k && inB (nth xs k) 0 (n - 1)
theorem moB_false {n : Int} {xs : List Int} {k l : Nat} (hk : k ≤ l) (h : moB n xs k = false) : moB n xs l = false := by
  induction l with
  | zero => simp at hk; subst hk; exact h
  | succ l ih =>
    by_cases e : k = l + 1
    · subst e; exact h
    · rw [moB, ih (by omega)]; rfl
def moV (n : Int) (xs : List Int) (len : Nat) : Int := if inB n 0 30 && moB n xs len then mo n xs len else 0
def moC (n : Int) (xs : List Int) (len : Nat) : Int := if inB n 0 30 then (if moB n xs len then 0 else 1) else 2
def moR (n : Int) (xs : List Int) (len : Nat) : Value := .tuple #[.int .i64 (moV n xs len), .int .i64 (moC n xs len)]
theorem mo_range {n : Int} {xs : List Int} {len : Nat} (h : inB n 0 30 = false) : Ending.returned (.tuple #[.int .i64 0, .int .i64 2]) = .returned (moR n xs len) := by simp [moR, moV, moC, h]
theorem mo_bad {n : Int} {xs : List Int} {len : Nat} (h : inB n 0 30 = true) (h2 : moB n xs len = false) : Ending.returned (.tuple #[.int .i64 0, .int .i64 1]) = .returned (moR n xs len) := by simp [moR, moV, moC, h, h2]
theorem mo_ok {n : Int} {xs : List Int} {len : Nat} (h : inB n 0 30 = true) (h2 : moB n xs len = true) : Ending.returned (.tuple #[.int .i64 (mo n xs len), .int .i64 0]) = .returned (moR n xs len) := by simp [moR, moV, moC, h, h2]

end Go.Proofs.YtngllobakfnhiaaDoor
