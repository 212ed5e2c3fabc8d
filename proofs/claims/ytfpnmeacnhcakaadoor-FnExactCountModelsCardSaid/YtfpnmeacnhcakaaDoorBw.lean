/- Sets of rows as words of 64 digits: what the operations on words do to them, and the models of a plain formula as such a word. No conditions but those in the theorems. -/
import Derived.Test.YtfpnmeacnhcakaaDoorDeep
import Derived.Test.YtfpnmeacnhcakaaDoorPlain
namespace Go.Proofs.YtfpnmeacnhcakaaDoor
open Go.RowKit

/-- A word as a number. -/
def U (b : BitVec 64) : Int := (b.toNat : Int)
theorem ofInt_U (b : BitVec 64) : BitVec.ofInt 64 (U b) = b := by
  unfold U
  rw [BitVec.ofInt_natCast, BitVec.ofNat_toNat, BitVec.setWidth_eq]
theorem wrap_U (b : BitVec 64) : IntKind.u64.wrap (U b) = U b := IntWalk.u64_in _ ⟨by unfold U; omega, by have := b.isLt; unfold U; omega⟩
theorem U_and (a b : BitVec 64) : bits .and .u64 (U a) (U b) = U (a &&& b) := by
  show IntKind.u64.wrap (((BitVec.ofInt 64 (U a) &&& BitVec.ofInt 64 (U b)).toNat : Nat) : Int) = _
  rw [ofInt_U, ofInt_U]; exact wrap_U _
theorem U_or (a b : BitVec 64) : bits .or .u64 (U a) (U b) = U (a ||| b) := by
  show IntKind.u64.wrap (((BitVec.ofInt 64 (U a) ||| BitVec.ofInt 64 (U b)).toNat : Nat) : Int) = _
  rw [ofInt_U, ofInt_U]; exact wrap_U _
theorem U_xor (a b : BitVec 64) : bits .xor .u64 (U a) (U b) = U (a ^^^ b) := by
  show IntKind.u64.wrap (((BitVec.ofInt 64 (U a) ^^^ BitVec.ofInt 64 (U b)).toNat : Nat) : Int) = _
  rw [ofInt_U, ofInt_U]; exact wrap_U _
theorem U_andNot (a b : BitVec 64) : bits .andNot .u64 (U a) (U b) = U (a &&& ~~~b) := by
  show IntKind.u64.wrap (((BitVec.ofInt 64 (U a) &&& ~~~BitVec.ofInt 64 (U b)).toNat : Nat) : Int) = _
  rw [ofInt_U, ofInt_U]; exact wrap_U _
theorem U_all : (18446744073709551615 : Int) = U (BitVec.allOnes 64) := by decide
theorem U_zero : (0 : Int) = U 0#64 := rfl
theorem U_not (b : BitVec 64) : bits .xor .u64 18446744073709551615 (U b) = U (~~~b) := by
  rw [U_all, U_xor, BitVec.allOnes_xor]
theorem U_inj {a b : BitVec 64} (h : U a = U b) : a = b := BitVec.eq_of_toNat_eq (by unfold U at h; omega)
theorem U_beq (a b : BitVec 64) : (U a == U b) = (a == b) := by
  rw [Bool.eq_iff_iff, beq_iff_eq, beq_iff_eq]
  exact ⟨U_inj, fun h => by rw [h]⟩
/-- The digit of a word at a row, as the program tells it. -/
theorem U_row (b : BitVec 64) (r : Nat) : bits .and .u64 (U b / 2 ^ r) 1 = if b.getLsbD r then 1 else 0 := by
  have e1 : U b / 2 ^ r = U (b >>> r) := by
    unfold U
    rw [BitVec.toNat_ushiftRight, Nat.shiftRight_eq_div_pow]
    simp
  rw [e1, show (1 : Int) = U 1#64 from rfl, U_and]
  unfold U
  rw [BitVec.toNat_and, BitVec.toNat_ushiftRight]
  show ((b.toNat >>> r &&& 1 : Nat) : Int) = _
  rw [Nat.and_one_is_mod, Nat.shiftRight_eq_div_pow]
  show _ = if b.toNat.testBit r then (1 : Int) else 0
  rw [Nat.testBit_eq_decide_div_mod_eq]
  generalize b.toNat / 2 ^ r = y
  rcases Nat.mod_two_eq_zero_or_one y with h | h <;> simp [h]

namespace Fm
/-- The value of a plain formula in a row. -/
def ev : Fm → Nat → Bool
  | va s, r => r.testBit s.toNat
  | fa, _ => false
  | bi k a b, r => if k = 2 then a.ev r && b.ev r else if k = 3 then a.ev r || b.ev r else !a.ev r || b.ev r
  | un _ _, _ => false
def pl : Fm → Prop
  | va _ => True
  | fa => True
  | bi _ a b => a.pl ∧ b.pl
  | un _ _ => False
end Fm
/-- The rows in which the variable s is true. -/
def vr (s : Nat) : BitVec 64 := match s with
  | 0 => 0xaaaaaaaaaaaaaaaa#64
  | 1 => 0xcccccccccccccccc#64
  | 2 => 0xf0f0f0f0f0f0f0f0#64
  | 3 => 0xff00ff00ff00ff00#64
  | 4 => 0xffff0000ffff0000#64
  | _ => 0xffffffff00000000#64
set_option maxRecDepth 4000 in
theorem vr_row : ∀ s, s < 6 → ∀ r, r < 64 → (vr s).getLsbD r = r.testBit s := by decide
namespace Fm
/-- The models of a plain formula. -/
def mw : Fm → BitVec 64
  | va s => vr s.toNat
  | fa => 0#64
  | bi k a b => if k = 2 then a.mw &&& b.mw else if k = 3 then a.mw ||| b.mw else ~~~a.mw ||| b.mw
  | un _ _ => 0#64
theorem mw_row (f : Fm) (hf : f.ok) (r : Nat) (hr : r < 64) : f.mw.getLsbD r = f.ev r := by
  induction f with
  | va s =>
    have := hf.1; have := hf.2
    exact vr_row _ (by omega) r hr
  | fa => simp [mw, ev]
  | bi k a b iha ihb =>
    have e1 := iha hf.2.1
    have e2 := ihb hf.2.2
    simp only [mw, ev]
    split
    · rw [BitVec.getLsbD_and, e1, e2]
    · split
      · rw [BitVec.getLsbD_or, e1, e2]
      · rw [BitVec.getLsbD_or, BitVec.getLsbD_not, e1, e2]; simp [hr]
  | un k a ih => simp [mw, ev]
end Fm
theorem word_ext {a b : BitVec 64} (h : ∀ r, r < 64 → a.getLsbD r = b.getLsbD r) : a = b := BitVec.eq_of_getLsbD_eq (fun i hi => h i hi)

theorem plTo_at {xs : List Nd} {n : Nat} (h : plTo xs n = true) : ∀ k, k < n → mdB (kd xs k) = false := by
  induction n with
  | zero => intro k hk; omega
  | succ n ih =>
    rw [plTo, Bool.and_eq_true] at h
    intro k hk
    by_cases e : k = n
    · subst e; simpa using h.2
    · exact ih h.1 k (by omega)
theorem Fm.pl_of (f : Fm) (hf : f.ok) : ∀ (xs : List Nd) (i : Nat) (r : List Nd), xs.drop i = f.enc ++ r → (∀ k, i ≤ k → k < i + f.sz → mdB (kd xs k) = false) → f.pl := by
  induction f with
  | va s => intros; trivial
  | fa => intros; trivial
  | un k a ih =>
    intro xs i r h hk
    have h1 := hk i (Nat.le_refl _) (by simp only [Fm.sz]; omega)
    rw [kd_at (x := (k, 0)) (r := a.enc ++ r) (by rw [h]; simp [Fm.enc])] at h1
    rcases hf.1 with e | e <;> (subst e; cases h1)
  | bi k a b iha ihb =>
    intro xs i r h hk
    have h1 : xs.drop (i + 1) = a.enc ++ (b.enc ++ r) := drop_next (x := (k, 0)) (by rw [h]; simp [Fm.enc])
    have h2 := drop_add h1
    rw [Fm.enc_len] at h2
    simp only [Fm.sz] at hk
    exact ⟨iha hf.2.1 xs _ _ h1 (fun k' h3 h4 => hk k' (by omega) (by omega)), ihb hf.2.2 xs _ _ h2 (fun k' h3 h4 => hk k' (by omega) (by omega))⟩
theorem toFm_pl {xs : List Nd} (hb : isB xs xs.length = true) (hp : plTo xs xs.length = true) : (toFm xs).pl := by
  obtain ⟨h1, h2, h3⟩ := toFm_of hb
  refine Fm.pl_of _ h1 xs 0 [] (by rw [List.drop_zero, List.append_nil]; exact h2) (fun k _ hk => plTo_at hp k ?_)
  have := Fm.enc_len (toFm xs)
  rw [← h2] at this
  omega

end Go.Proofs.YtfpnmeacnhcakaaDoor
