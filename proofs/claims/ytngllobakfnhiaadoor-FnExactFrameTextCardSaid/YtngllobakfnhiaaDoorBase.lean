/- Contracts of the small functions of chapter 1 that only compute: what each returns, for every argument that is named. Conditions: none but those in the theorems. -/
import Derived.Test.YtngllobakfnhiaaDoorRows
import Derived.WalkKit
import Derived.WalkSpells
import Derived.WalkLawsBesides
import Derived.Deep.QuietTactic
import Derived.BigQuiet
import Derived.Lib.Hide
import Derived.ProofKit
import Derived.OpenShut
namespace Go.Proofs.YtngllobakfnhiaaDoor
open Go.RowKit

theorem ret_int {k : IntKind} {a b : Int} (h : a = b) : Ending.returned (.int k a) = .returned (.int k b) := by rw [h]
theorem ret_bool {a b : Bool} (h : a = b) : Ending.returned (.bool a) = .returned (.bool b) := by rw [h]
/-- A callee that leaves the world alone, or only draws, met inside a quiet region. -/
theorem q_same {P : Program} {F : FuncId} {args : Array Value} {W : World} {v : Value} {f : Nat → World} (h : Calls P F args W fun e w' => e = .returned v ∧ W = w') {m : Nat} (hW : W = f m) :
    Calls P F args W fun e w'' => e = .returned v ∧ ∃ m, w'' = f m := h.mono fun _ _ hh => ⟨hh.1, m, hh.2 ▸ hW⟩
theorem q_drew {P : Program} {F : FuncId} {args : Array Value} {W : World} {v : Value} {f : Nat → World} (h : Calls P F args W fun e w' => e = .returned v ∧ ∃ q, w' = W.drewN q) (hW : ∀ q, ∃ m, W.drewN q = f m) :
    Calls P F args W fun e w'' => e = .returned v ∧ ∃ m, w'' = f m := h.mono fun _ _ hh => ⟨hh.1, by obtain ⟨q, rfl⟩ := hh.2; exact hW q⟩
theorem own : ownKnob Tryd.prog.godebug = none := by kernel_rfl
theorem laidOut : laidOutB Tryd.prog = true := by kernel_rfl
/-- A slice of integers that came in: nil; or a row of 'cap' cells, the numbers 'zs', of which the first 'len' are its elements. -/
def IsRow (k : IntKind) (w : World) (a : Option Addr) (len cap : Nat) (zs : List Int) : Prop :=
  (a = none ∧ len = 0 ∧ cap = 0 ∧ zs = []) ∨
  ∃ x, a = some x ∧ len ≤ cap ∧ cap ≤ maxLen ∧ zs.length = cap ∧ (∀ i, i < zs.length → w.cell? (x.add i) = some (.int k (zs.getD i 0))) ∧ ∀ n ∈ zs, (Lit.int k n).wf = true
def inB (n lo hi : Int) : Bool := decide (lo ≤ n) && decide (n ≤ hi)
def one (n : Int) : Int := wrap64 (2 ^ n.toNat)
def full (n : Int) : Int := wrap64 (one n - 1)
def mskB (n m : Int) : Bool := inB m 0 (full n)
def cod (n m : Int) : Int := if inB n 0 30 then (if mskB n m then 0 else 1) else 2
def bitB (m i : Int) : Bool := bits .and .i64 (m / 2 ^ i.toNat) 1 == 1

theorem pow_bd (n : Int) (h0 : 0 ≤ n) (h1 : n ≤ 30) : 1 ≤ (2 : Int) ^ n.toNat ∧ (2 : Int) ^ n.toNat ≤ 1073741824 := by
  have h : n.toNat ≤ 30 := by omega
  have h2 : (2 : Nat) ^ n.toNat ≤ 2 ^ 30 := Nat.pow_le_pow_right (by decide) h
  have h3 : ((2 : Int) ^ n.toNat) = ((2 ^ n.toNat : Nat) : Int) := by simp
  have h4 : 0 < (2 : Nat) ^ n.toNat := Nat.two_pow_pos _
  rw [h3]; omega
theorem one_eq (n : Int) (h0 : 0 ≤ n) (h1 : n ≤ 30) : one n = 2 ^ n.toNat := by
  have := pow_bd n h0 h1
  unfold one
  exact IntWalk.wrap64_in _ (by omega)
theorem full_eq (n : Int) (h0 : 0 ≤ n) (h1 : n ≤ 30) : full n = 2 ^ n.toNat - 1 := by
  unfold full
  rw [one_eq n h0 h1]
  have := pow_bd n h0 h1
  exact IntWalk.wrap64_in _ (by omega)

theorem l01In_any (n lo hi : Int) (w : World) :
    Calls Tryd.prog 16 #[.int .i64 n, .int .i64 lo, .int .i64 hi] w fun e w' => e = .returned (.bool (inB n lo hi)) ∧ w = w' := by
  by_cases h : lo ≤ n
  all_goals
    go_enter Tryd.func16, Tryd.ntmps16
    go_wp2
    go_ret
    exact ⟨by simp [inB] <;> omega, rfl⟩

theorem isMaskWithin_any (n m : Int) (w : World) (hn : 0 ≤ n) (hn2 : n ≤ 30) :
    Calls Tryd.prog 25 #[.int .i64 n, .int .i64 m] w fun e w' => e = .returned (.bool (mskB n m)) ∧ w = w' := by
  have h1 := one_eq n hn hn2
  have h2 := full_eq n hn hn2
  have H1 := Lib.hid h1; clear h1
  have H2 := Lib.hid h2; clear h2
  by_cases h : 0 ≤ m
  all_goals
    go_enter Tryd.func25, Tryd.ntmps25
    go_wp2
    go_ret
    have h1 := H1.out
    have h2 := H2.out
    unfold one at h1
    refine ⟨ret_bool ?_, rfl⟩
    rw [mskB, inB, h2, Bool.eq_iff_iff]
    try rw [h1]
    generalize (2 : Int) ^ n.toNat = q
    simp
    omega

theorem l01One_any (n : Int) (w : World) (hn : 0 ≤ n) (hn2 : n ≤ 30) :
    Calls Tryd.prog 27 #[.int .i64 n] w fun e w' => e = .returned (.int .i64 (one n)) ∧ w = w' := by
  go_enter Tryd.func27, Tryd.ntmps27
  go_wp2
  go_ret
  exact ⟨rfl, rfl⟩

theorem l01Full_any (n : Int) (w : World) (hn : 0 ≤ n) (hn2 : n ≤ 30) :
    Calls Tryd.prog 24 #[.int .i64 n] w fun e w' => e = .returned (.int .i64 (full n)) ∧ w = w' := by
  go_enter Tryd.func24, Tryd.ntmps24
  go_wp2_with (go_at_call 27; refine (l01One_any _ _ (by omega) (by omega)).mono ?_; rintro e w' ⟨rfl, rfl⟩)
  go_ret
  exact ⟨rfl, rfl⟩

theorem hasMember_any (m i : Int) (w : World) (hn2 : 0 ≤ i) (hi : i ≤ 30) :
    Calls Tryd.prog 23 #[.int .i64 m, .int .i64 i] w fun e w' => e = .returned (.bool (bitB m i)) ∧ w = w' := by
  go_enter Tryd.func23, Tryd.ntmps23
  go_wp2
  go_ret
  exact ⟨rfl, rfl⟩

end Go.Proofs.YtngllobakfnhiaaDoor
