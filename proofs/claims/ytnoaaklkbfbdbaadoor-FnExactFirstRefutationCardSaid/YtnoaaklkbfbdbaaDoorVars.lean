/- Contracts of VariablesOf of the model and of the program, at every list of nodes. Conditions: those in the theorems. -/
import Derived.Shelf.SortM.Plain
import Derived.Shelf.SortM.SortNone
import Derived.Shelf.SlicesE.Compact
import Derived.Test.YtnoaaklkbfbdbaaDoorVarS
import Derived.Test.YtnoaaklkbfbdbaaDoorKinds
import Derived.Test.YtnoaaklkbfbdbaaDoorJn09
import Derived.Test.YtnoaaklkbfbdbaaDoorJn15
import Derived.Test.YtnoaaklkbfbdbaaDoorJn04
import Derived.Test.YtnoaaklkbfbdbaaDoorLay
namespace Go.Proofs.YtnoaaklkbfbdbaaDoor
open Go.RowKit Go.Sort Go.Lib

theorem mem_up (m : Nat) : ∀ k, (memTo m k).Pairwise (· < ·) := by
  intro k
  induction k with
  | zero => simp [memTo]
  | succ k ih =>
    rw [memTo]
    split
    · refine up_snoc _ ih fun y hy => ?_
      obtain ⟨i, h1, -, rfl⟩ := (mem_bit m y k).1 hy
      omega
    · exact ih
theorem sort_up (zs : List Int) : ∀ i, i + 1 < zs.length → ¬ ((zs.mergeSort fun x y => decide (x ≤ y)).toArray[i + 1]! < (zs.mergeSort fun x y => decide (x ≤ y)).toArray[i]!) := by
  intro i hi
  have hp := List.pairwise_mergeSort (le := fun x y : Int => decide (x ≤ y)) (fun a b c h1 h2 => by simp at h1 h2 ⊢; omega) (fun a b => by simp; omega) zs
  have hl : (zs.mergeSort fun x y => decide (x ≤ y)).length = zs.length := List.length_mergeSort zs
  rw [List.pairwise_iff_getElem] at hp
  have := hp i (i + 1) (by omega) (by omega) (by omega)
  simp at this
  rw [getElem!_pos _ _ (by simp; omega), getElem!_pos _ _ (by simp; omega)]
  simp
  exact this
/-- The variables, sorted and each once, are the members of the mask. -/
theorem vars_compact {xs : List Nd} {len : Nat} (h : treeTo xs len = true) :
    compactUpTo ((vrTo xs len).mergeSort fun x y => decide (x ≤ y)).toArray (vrTo xs len).length = memTo (mkTo xs len) 30 := by
  obtain ⟨s, hs⟩ : ∃ s, s = (vrTo xs len).mergeSort fun x y => decide (x ≤ y) := ⟨_, rfl⟩
  have hl : s.length = (vrTo xs len).length := by rw [hs]; exact List.length_mergeSort _
  have hsort := sort_up (vrTo xs len)
  rw [← hs] at hsort ⊢
  obtain ⟨h1, h2, -⟩ := compact_up (· < ·) (fun x y z (a : x < y) (b : y < z) => by omega) (fun x y (a : ¬ y < x) (b : x ≠ y) => by show x < y; omega) s.toArray (vrTo xs len).length hsort (vrTo xs len).length (Nat.le_refl _)
  refine up_uniq (· < ·) (fun x y z (a : x < y) (b : y < z) => by show x < z; omega) (fun x (a : x < x) => by omega) _ _ h1 (mem_up _ _) fun x => ?_
  rw [h2 x, mem_bit]
  have hm : x ∈ s ↔ x ∈ vrTo xs len := by rw [hs]; exact List.mem_mergeSort
  have hmem : (∃ j, j < (vrTo xs len).length ∧ s.toArray[j]! = x) ↔ x ∈ s := by
    constructor
    · rintro ⟨j, hj, e⟩
      rw [getElem!_pos _ _ (by simp; omega)] at e
      rw [← e]
      simp
    · intro hx
      obtain ⟨j, hj, e⟩ := List.getElem_of_mem hx
      exact ⟨j, by omega, by rw [getElem!_pos _ _ (by simpa using hj)]; simpa using e⟩
  rw [hmem, hm]
  constructor
  · intro hx
    have hq : ∃ q : Nat, x = q ∧ q ≤ 5 := by
      have : ∀ k, k ≤ len → x ∈ vrTo xs k → ∃ q : Nat, x = q ∧ q ≤ 5 := by
        intro k
        induction k with
        | zero => intro _ hx; simp [vrTo] at hx
        | succ k ih =>
          intro hk hx
          rw [vrTo] at hx
          split at hx
          · rcases List.mem_append.1 hx with h3 | h3
            · exact ih (by omega) h3
            · obtain ⟨q, hq, hq5⟩ := sy_bd h (show k < len by omega)
              simp at h3
              exact ⟨q, by rw [h3, hq], hq5⟩
          · exact ih (by omega) hx
      exact this len (Nat.le_refl _) hx
    obtain ⟨q, rfl, hq⟩ := hq
    exact ⟨q, by omega, (mkTo_bit h q len (Nat.le_refl _)).2 hx, rfl⟩
  · rintro ⟨i, h3, h4, rfl⟩
    exact (mkTo_bit h i len (Nat.le_refl _)).1 h4

def vaR (xs : List Nd) : List Int := if isB xs xs.length then memTo (mkTo xs xs.length) 30 else []
def vaC (xs : List Nd) : Int := if isB xs xs.length then 0 else 1
theorem VariablesOf_len (xs : List Nd) : (vaR xs).length ≤ 1048576 := by
  unfold vaR
  split
  · have := memTo_len (mkTo xs xs.length) 30; omega
  · exact Nat.zero_le _
theorem va_bad {xs : List Nd} (h : isB xs xs.length = false) : vaR xs = [] ∧ vaC xs = 1 := by unfold vaR vaC; rw [h]; exact ⟨rfl, rfl⟩
theorem va_good {xs : List Nd} (h : isB xs xs.length = true) : vaR xs = memTo (mkTo xs xs.length) 30 ∧ vaC xs = 0 := by unfold vaR vaC; rw [h]; exact ⟨rfl, rfl⟩

end Go.Proofs.YtnoaaklkbfbdbaaDoor
