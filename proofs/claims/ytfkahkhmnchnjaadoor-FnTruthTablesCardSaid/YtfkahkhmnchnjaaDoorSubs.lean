/- Contracts of SubMasks. Conditions: those in the theorems. -/
import Derived.Test.YtfkahkhmnchnjaaDoorSubsMath
import Derived.Test.YtfkahkhmnchnjaaDoorTrans
namespace Go.Proofs.YtfkahkhmnchnjaaDoor
open Go.RowKit

/-- What the program reckons of a submask s of m to come to the next one. -/
def nxE (s m : Int) : Int := bits .and .i64 (wrap64 (bits .or .i64 s (bits .xor .i64 (if IntKind.i64.signed = true then -1 else 9223372036854775807) m) + 1)) m

theorem wrap64_toInt (x : BitVec 64) : wrap64 (x.toInt + 1) = (x + 1#64).toInt := by
  have h := x.isLt
  rw [BitVec.toInt_add]
  unfold wrap64
  have e : (1#64).toInt = 1 := by decide
  rw [e, Int.bmod_def]
  simp only [Nat.reducePow]
  split <;> omega
theorem nxE_nat (s m : Nat) (hm : m < 1073741824) (hsm : s < m) (hs : s &&& m = s) : nxE s m = (((2 ^ 64 - (m - s)) &&& m : Nat) : Int) := by
  have e1 : bits .xor .i64 (if IntKind.i64.signed = true then -1 else 9223372036854775807) m = (~~~ (BitVec.ofNat 64 m)).toInt := by
    have : bits .xor .i64 (-1) m = (BitVec.ofInt 64 (-1) ^^^ BitVec.ofInt 64 m).toInt := wrap_toInt _
    rw [show (if IntKind.i64.signed = true then (-1 : Int) else 9223372036854775807) = -1 from rfl, this]
    rw [BitVec.ofInt_natCast, show BitVec.ofInt 64 (-1) = BitVec.allOnes 64 by decide, BitVec.allOnes_xor]
  have e2 : ∀ x : BitVec 64, bits .or .i64 s x.toInt = (BitVec.ofNat 64 s ||| x).toInt := fun x => by
    have : bits .or .i64 s x.toInt = (BitVec.ofInt 64 s ||| BitVec.ofInt 64 x.toInt).toInt := wrap_toInt _
    rw [this, BitVec.ofInt_natCast, BitVec.ofInt_toInt]
  have e3 : ∀ x : BitVec 64, bits .and .i64 x.toInt m = (x &&& BitVec.ofNat 64 m).toInt := fun x => by
    have : bits .and .i64 x.toInt m = (BitVec.ofInt 64 x.toInt &&& BitVec.ofInt 64 m).toInt := wrap_toInt _
    rw [this, BitVec.ofInt_natCast, BitVec.ofInt_toInt]
  unfold nxE
  rw [e1, e2, wrap64_toInt, e3]
  have hd : BitVec.ofNat 64 s &&& ~~~ BitVec.ofNat 64 m = 0#64 := by
    refine BitVec.eq_of_getLsbD_eq fun i hi => ?_
    have hb := congrArg (fun v : Nat => v.testBit i) hs
    simp only [Nat.testBit_and] at hb
    simp only [BitVec.getLsbD_and, BitVec.getLsbD_not, hi, decide_true, Bool.true_and, BitVec.getLsbD_ofNat]
    revert hb
    cases s.testBit i <;> cases m.testBit i <;> simp
  have e4 : (BitVec.ofNat 64 s ||| ~~~ BitVec.ofNat 64 m) + 1#64 = BitVec.ofNat 64 s - BitVec.ofNat 64 m := by
    rw [← BitVec.add_eq_or_of_and_eq_zero _ _ hd, BitVec.add_assoc, ← BitVec.neg_eq_not_add, BitVec.sub_eq_add_neg]
  rw [e4]
  have e5 : (BitVec.ofNat 64 s - BitVec.ofNat 64 m &&& BitVec.ofNat 64 m).toNat = (2 ^ 64 - (m - s)) &&& m := by
    rw [BitVec.toNat_and, BitVec.toNat_sub, BitVec.toNat_ofNat, BitVec.toNat_ofNat, Nat.mod_eq_of_lt (a := s) (by omega), Nat.mod_eq_of_lt (a := m) (by omega), Nat.mod_eq_of_lt (by omega)]
    congr 1
    omega
  have hle : (2 ^ 64 - (m - s)) &&& m ≤ m := Nat.and_le_right
  rw [BitVec.toInt_eq_toNat_of_lt (by rw [e5]; omega), e5]

def pdF (m i : Nat) : Int := ((pd 64 i m : Nat) : Int)
theorem nxE_pd (m i : Nat) (hm : m < 1073741824) (hne : pd 64 i m ≠ m) : nxE (pd 64 i m : Nat) m = ((pd 64 (i + 1) m : Nat) : Int) := by
  have hle := pd_le 64 i m
  rw [nxE_nat _ _ hm (by omega) (pd_and 64 i m), pd_next 64 i m (by omega)]

def lenOf : Value → Nat
  | .slice _ n _ => n
  | _ => 0
theorem own_lenOf {w : World} {B : Nat} {v : Value} {n : Nat} {zs : List Value} (h : w.ownsRow B 2 1 v n zs) : lenOf v = n := by
  rcases h.2 with ⟨h1, h2⟩ | ⟨g, cap, cur, h1, _⟩
  · rw [h1, h2]; rfl
  · rw [h1]; rfl
theorem tab_succ (n : Nat) (F : Nat → Int) : tab (n + 1) F = tab n F ++ [F n] := by simp [tab, List.range_succ]

def smC (n m : Int) : Int := if cod n m = 0 then (if 8 < pop m.toNat then 3 else 0) else cod n m
def smL (m : Int) : List Int := tab (2 ^ pop m.toNat) (pdF m.toNat)
theorem smC_ok {n : Int} {k : Nat} (h : cod n k = 0) (hp : pop k ≤ 8) : smC n k = 0 := by
  rw [smC, if_pos h, if_neg]; simpa using hp
theorem smC_big {n : Int} {k : Nat} (h : cod n k = 0) (hp : 8 < pop k) : smC n k = 3 := by
  rw [smC, if_pos h, if_pos]; simpa using hp
theorem smC_bad {n m : Int} (h : ¬ cod n m = 0) : smC n m = cod n m := by rw [smC, if_neg h]
theorem smC_ne {n m : Int} (h : ¬ cod n m = 0) : ¬ smC n m = 0 := by rw [smC_bad h]; exact h

end Go.Proofs.YtfkahkhmnchnjaaDoor
