/- Contracts of PartOfModel of the model and of the program, at every argument. Conditions: those in the theorems. -/
import Derived.Test.YthopleeehbkjaaaJn12
import Derived.Test.YthopleeehbkjaaaTrV
import Derived.Test.YthopleeehbkjaaaJn10
namespace Go.Proofs.Ythopleeehbkjaaa
open Go.RowKit

def RM (w : World) (B : Nat) (n c : Int) (xs ys : List Int) (e : Ending) : Prop := ∃ v, e = .returned (.tuple #[v, .int .i64 c]) ∧ OwnM w B v n xs ys
theorem ownM_nil (w : World) (B : Nat) : OwnM w B (.agg #[.int .i64 0, .slice none 0 0, .slice none 0 0]) 0 [] [] := ⟨rfl, World.ownsRow_nil _ _ _ _, World.ownsRow_nil _ _ _ _, fun k h => by cases h⟩
theorem RM.bad {w : World} {B : Nat} {c c' n : Int} {xs ys : List Int} (h : c = c') (hn : n = 0) (hx : xs = []) (hy : ys = []) : RM w B n c' xs ys (.returned (.tuple #[.agg #[.int .i64 0, .slice none 0 0, .slice none 0 0], .int .i64 c])) := by
  subst h hn hx hy
  exact ⟨_, rfl, ownM_nil _ _⟩
theorem RM.good {w : World} {B B' : Nat} {c n n' : Int} {v : Value} {xs xs' ys ys' : List Int} (h : c = 0) (hn : n = n') (hx : xs = xs') (hy : ys = ys') (ho : OwnM w B' v n' xs' ys') (hB : B ≤ B') : RM w B n c xs ys (.returned (.tuple #[v, .int .i64 0])) := by
  subst h hn hx hy
  exact ⟨_, rfl, ho.mono hB⟩

def pmC (n : Int) (xs ys : List Int) (m : Int) : Int := if isM n xs ys then (if mskB n m then 0 else 2) else 1
def pmL (n : Int) (xs ys : List Int) (m : Int) : List Int := if pmC n xs ys m = 0 then arV xs (memTo m.toNat xs.length) else []
def pmV (n : Int) (xs ys : List Int) (m : Int) : List Int := if pmC n xs ys m = 0 then mvV ys (memTo m.toNat xs.length) else []
theorem pmC_1 {n m : Int} {xs ys : List Int} (h : isM n xs ys = false) : pmC n xs ys m = 1 := by rw [pmC, h]; rfl
theorem pmC_2 {n m : Int} {xs ys : List Int} (h : isM n xs ys = true) (h2 : mskB n m = false) : pmC n xs ys m = 2 := by rw [pmC, h, h2]; rfl
theorem pmC_0 {n m : Int} {xs ys : List Int} (h : isM n xs ys = true) (h2 : mskB n m = true) : pmC n xs ys m = 0 := by rw [pmC, h, h2]; rfl
theorem pm_bad {n m : Int} {xs ys : List Int} {c : Int} (h : pmC n xs ys m = c) (hc : ¬ c = 0) : pmL n xs ys m = [] ∧ pmV n xs ys m = [] := by
  rw [pmL, pmV, h, if_neg hc, if_neg hc]; exact ⟨rfl, rfl⟩
theorem pm_ok {n m : Int} {xs ys : List Int} (h : pmC n xs ys m = 0) : pmL n xs ys m = arV xs (memTo m.toNat xs.length) ∧ pmV n xs ys m = mvV ys (memTo m.toNat xs.length) := ⟨if_pos h, if_pos h⟩
theorem PartOfModel_len (n : Int) (xs ys : List Int) (m : Int) : (pmL n xs ys m).length ≤ 1048576 ∧ (pmV n xs ys m).length ≤ 1048576 := by
  by_cases h : pmC n xs ys m = 0
  · obtain ⟨e1, e2⟩ := pm_ok h
    rw [e1, e2]
    cases h1 : isM n xs ys
    · rw [pmC_1 h1] at h; cases h
    · obtain ⟨-, -, h8, -, h6, -⟩ := isM_ok h1
      have := memTo_len m.toNat xs.length
      rw [arV, tab_len, mvV_len]
      omega
  · obtain ⟨e1, e2⟩ := pm_bad rfl h
    rw [e1, e2]
    simp

end Go.Proofs.Ythopleeehbkjaaa
