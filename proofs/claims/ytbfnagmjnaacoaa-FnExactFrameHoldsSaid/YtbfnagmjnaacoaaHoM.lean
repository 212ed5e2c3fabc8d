/- The value of a point formula in a model, and how deep its quantifiers are nested. No conditions but those in the theorems. -/
import Derived.Test.YtbfnagmjnaacoaaPtA
import Derived.Test.YtbfnagmjnaacoaaMo
namespace Go.Proofs.Ytbfnagmjnaacoaa
open Go.RowKit

/-- Whether something holds of all numbers below a number. -/
def alT (p : Nat → Bool) : Nat → Bool
  | 0 => true
  | k + 1 => alT p k && p k
theorem alT_no {p : Nat → Bool} {k n : Nat} (hk : k < n) (h : p k = false) : alT p n = false := by
  induction n with
  | zero => omega
  | succ n ih =>
    rw [alT]
    by_cases e : k = n
    · subst e; rw [h, Bool.and_false]
    · rw [ih (by omega), Bool.false_and]
theorem alT_next {p : Nat → Bool} {k : Nat} (h : alT p k = true) (h2 : p k = true) : alT p (k + 1) = true := by rw [alT, h, h2]; rfl
/-- The value of a point formula for a list of worlds. -/
def hol (xs ys : List Int) (N : Nat) : Pt → List Int → Bool
  | .le k f s, zs => if k = 0 then bitB (nth xs (nth zs f.toNat).toNat) (nth zs s.toNat) else if k = 1 then nth zs f.toNat == nth zs s.toNat else if k = 2 then bitB (nth ys f.toNat) (nth zs s.toNat) else false
  | .bi k a b, zs => if k = 4 then hol xs ys N a zs && hol xs ys N b zs else if k = 5 then hol xs ys N a zs || hol xs ys N b zs else !(hol xs ys N a zs) || hol xs ys N b zs
  | .un k x a, zs => alT (fun w => hol xs ys N a (zs.set x.toNat w) == (k == 7)) N == (k == 7)
/-- All values of a point formula are there, and where there is no world, no point is looked at. -/
def vok (N m : Nat) : Pt → Prop
  | .le k f _ => (k = 2 → f.toNat < m) ∧ (N = 0 → k = 3)
  | .bi _ a b => vok N m a ∧ vok N m b
  | .un _ _ a => N ≠ 0 → vok N m a
theorem vok_six {N m : Nat} (hN : N ≠ 0) (hm : 6 ≤ m) (f : Pt) (hf : f.ok) : vok N m f := by
  induction f with
  | le k x y =>
    refine ⟨fun hk => ?_, fun h => absurd h hN⟩
    rcases hf with ⟨h, -⟩ | ⟨h, h1, h2, -⟩ | ⟨h, -⟩ <;> omega
  | bi k a b iha ihb => exact ⟨iha hf.2.1, ihb hf.2.2⟩
  | un k x a ih => exact fun _ => ih hf.2.2
/-- No value occurs. -/
def nov : Pt → Prop
  | .le k _ _ => k ≠ 2
  | .bi _ a b => nov a ∧ nov b
  | .un _ _ a => nov a
theorem vok_nov {N m : Nat} (hN : N ≠ 0) (f : Pt) (hf : nov f) : vok N m f := by
  induction f with
  | le k x y => exact ⟨fun hk => absurd hk hf, fun h => absurd h hN⟩
  | bi k a b iha ihb => exact ⟨iha hf.1, ihb hf.2⟩
  | un k x a ih => exact fun _ => ih hf
theorem hol_nov (xs ys ys' : List Int) (N : Nat) (f : Pt) (hf : nov f) (zs : List Int) : hol xs ys N f zs = hol xs ys' N f zs := by
  induction f generalizing zs with
  | le k x y => simp only [hol, if_neg (show ¬ k = 2 from hf)]
  | bi k a b iha ihb => simp only [hol, iha hf.1, ihb hf.2]
  | un k x a ih => simp only [hol, ih hf]
/-- A list of ten worlds. -/
def Wz (N : Nat) (zs : List Int) : Prop := zs.length = 10 ∧ (N ≠ 0 → ∀ i, i < 10 → ∃ q : Nat, q < N ∧ nth zs i = q)
theorem nth_set (zs : List Int) (i j : Nat) (w : Int) (h : i < zs.length) : nth (zs.set i w) j = if j = i then w else nth zs j := by
  unfold nth
  simp only [List.getD_eq_getElem?_getD, List.getElem?_set]
  by_cases e : j = i
  · subst e; rw [if_pos rfl, if_pos rfl, if_pos h]; rfl
  · rw [if_neg (fun h => e h.symm), if_neg e]
theorem Wz.set {N : Nat} {zs : List Int} (h : Wz N zs) {i w : Nat} (hi : i < 10) (hw : w < N) : Wz N (zs.set i w) := by
  refine ⟨by rw [List.length_set]; exact h.1, fun h0 j hj => ?_⟩
  rw [nth_set _ _ _ _ (by rw [h.1]; exact hi)]
  split
  · exact ⟨w, hw, rfl⟩
  · exact h.2 h0 j hj

/-- How many quantifiers are nested. -/
def nst : Pt → Nat
  | .le _ _ _ => 0
  | .bi _ a b => max (nst a) (nst b)
  | .un _ _ a => nst a + 1
theorem nst_le (f : Pt) : nst f < f.sz := by
  induction f with
  | le k x y => simp [nst, Pt.sz]
  | bi k a b iha ihb => simp only [nst, Pt.sz]; omega
  | un k x a ih => simp only [nst, Pt.sz]; omega
/-- Whether a point formula has values on frames with so many worlds. -/
def fitP (N k : Nat) : Bool := decide (k ≤ 6) && decide (N ^ k ≤ 32768)
theorem pow_grow {N j k : Nat} (hjk : j ≤ k) (h : 32768 < N ^ j) : 32768 < N ^ k := by
  have hN : 0 < N := by
    rcases Nat.eq_zero_or_pos N with h0 | h0
    · subst h0
      cases j with
      | zero => simp at h
      | succ j => simp [Nat.pow_succ] at h
    · exact h0
  exact Nat.lt_of_lt_of_le h (Nat.pow_le_pow_right hN hjk)

end Go.Proofs.Ytbfnagmjnaacoaa
