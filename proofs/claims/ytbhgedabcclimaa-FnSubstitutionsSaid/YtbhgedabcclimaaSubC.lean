/- Substitution: the image under one that has been composed is the image of the image. Conditions: those in the theorems. -/
import Derived.Test.YtbhgedabcclimaaThen
namespace Go.Proofs.Ytbhgedabcclimaa
open Go.RowKit

theorem kd_app1 {ys zs : List Nd} {j : Nat} (h : j < ys.length) : kd (ys ++ zs) j = kd ys j ∧ sy (ys ++ zs) j = sy ys j := by
  simp [kd, sy, List.getD_eq_getElem?_getD, List.getElem?_append_left h]
theorem kd_app2 {ys zs : List Nd} {j : Nat} : kd (ys ++ zs) (ys.length + j) = kd zs j ∧ sy (ys ++ zs) (ys.length + j) = sy zs j := by
  simp [kd, sy, List.getD_eq_getElem?_getD, List.getElem?_append_right]
theorem subTo_pre {s : Int → List Nd} {ys zs : List Nd} : ∀ k, k ≤ ys.length → subTo s (ys ++ zs) k = subTo s ys k := by
  intro k
  induction k with
  | zero => intro _; rfl
  | succ k ih =>
    intro hk
    obtain ⟨e1, e2⟩ := kd_app1 (ys := ys) (zs := zs) (j := k) (by omega)
    rw [subTo, subTo, ih (by omega), e1, e2]
theorem subTo_app {s : Int → List Nd} {ys zs : List Nd} : ∀ k, subTo s (ys ++ zs) (ys.length + k) = subTo s ys ys.length ++ subTo s zs k := by
  intro k
  induction k with
  | zero => rw [Nat.add_zero, subTo_pre _ (Nat.le_refl _)]; simp [subTo]
  | succ k ih =>
    obtain ⟨e1, e2⟩ := kd_app2 (ys := ys) (zs := zs) (j := k)
    rw [← Nat.add_assoc, subTo, subTo, ih, e1, e2]
    split <;> simp
theorem subTo_all {s : Int → List Nd} {ys zs : List Nd} : subTo s (ys ++ zs) (ys ++ zs).length = subTo s ys ys.length ++ subTo s zs zs.length := by
  rw [List.length_append, subTo_app]
theorem subTo_one {s : Int → List Nd} {k v : Int} (h : ¬ k = 0) : subTo s [(k, v)] 1 = [(k, v)] := by
  rw [subTo, if_neg (by simpa [kd] using h)]
  simp [subTo, kd, sy]
/-- The image under the composition is the image of the image. -/
theorem subTo_sub {s : Int → List Nd} {im : List (List Nd)} {xs : List Nd} {len : Nat} (ht : treeTo xs len = true) : ∀ k, k ≤ len → subTo (sgI (thTo s im 6)) xs k = subTo s (subTo (sgI im) xs k) (subTo (sgI im) xs k).length := by
  intro k
  induction k with
  | zero => intro _; rfl
  | succ k ih =>
    intro hk
    by_cases h : kd xs k = 0
    · obtain ⟨q, hq, hq5⟩ := sy_six ht (show k < len by omega)
      rw [sub_var h, sub_var h, ih (by omega), subTo_all, hq]
      congr 1
      rw [sgI, Int.toNat_natCast, thTo_at (by omega), sgI, Int.toNat_natCast]
    · rw [sub_else h, sub_else h, ih (by omega), subTo_all]
      congr 1
      exact (subTo_one h).symm

end Go.Proofs.Ytbhgedabcclimaa
