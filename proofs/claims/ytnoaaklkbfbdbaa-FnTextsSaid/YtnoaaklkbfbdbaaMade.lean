/- Contracts of the functions of the model and of the program that make a formula of others, at every list of nodes, errors and limits among them. Conditions: those in the theorems. -/
import Derived.Test.YtnoaaklkbfbdbaaJn14
namespace Go.Proofs.Ytnoaaklkbfbdbaa
open Go.RowKit

def lim (zs : List Nd) : List Nd := if 40 < zs.length then [] else zs
def limC (zs : List Nd) : Int := if 40 < zs.length then 3 else 0
theorem lim_len (zs : List Nd) : (lim zs).length ≤ 40 := by
  unfold lim
  split
  · exact Nat.zero_le _
  · omega
theorem ownN_nil (w : World) (B : Nat) : OwnN w B (.slice none 0 0) [] := World.ownsRow_nil w B 69 2

theorem withinLimit_any (zs : List Nd) (v : Value) (B : Nat) (w : World) (hl : zs.length ≤ 8388608) (h : OwnN w B v zs) :
    Calls Try.prog 62 #[v] w fun e w' => ∃ v', e = .returned (.tuple #[v', .int .i64 (limC zs)]) ∧ OwnN w' B v' (lim zs) ∧ w = w' := by
  obtain ⟨a, cap, rfl, -, -, -, -⟩ := h.at
  have H := Lib.hid h
  clear h
  by_cases hb : 40 < zs.length
  · have e1 : lim zs = [] := if_pos hb
    have e2 : limC zs = 3 := if_pos hb
    rw [e1, e2]
    have hb' : (40 : Int) < (zs.length : Int) := by omega
    clear e1 e2
    go_enter Try.func62, Try.ntmps62
    go_wp2
    go_ret2
    exact ⟨_, rfl, ownN_nil _ _, rfl⟩
  · have e1 : lim zs = zs := if_neg hb
    have e2 : limC zs = 0 := if_neg hb
    rw [e1, e2]
    have hb' : ¬ (40 : Int) < (zs.length : Int) := by omega
    clear e1 e2
    go_enter Try.func62, Try.ntmps62
    go_wp2
    go_ret2
    exact ⟨_, rfl, H.out, rfl⟩

theorem is_pos {xs : List Nd} (h : isB xs xs.length = true) : 0 < xs.length ∧ xs.length ≤ 40 := by
  simp only [isB, treeB, Bool.and_eq_true, decide_eq_true_eq] at h
  exact ⟨h.2.1.2, h.1⟩

/-! NotFormula -/
def notL (xs : List Nd) : List Nd := (4, 0) :: (xs ++ [(1, 0)])
def notR (xs : List Nd) : List Nd := if isB xs xs.length then lim (notL xs) else []
def notC (xs : List Nd) : Int := if isB xs xs.length then limC (notL xs) else 1
theorem NotFormula_len (xs : List Nd) : (notR xs).length ≤ 1048576 := by unfold notR; split <;> (try have := lim_len (notL xs)) <;> simp <;> omega
theorem not_bad {xs : List Nd} (h : isB xs xs.length = false) : notR xs = [] ∧ notC xs = 1 := by simp [notR, notC, h]
theorem not_good {xs : List Nd} (h : isB xs xs.length = true) : notR xs = lim (notL xs) ∧ notC xs = limC (notL xs) := by simp [notR, notC, h]

/-! PrefixFormula -/
def preR (k : Int) (xs : List Nd) : List Nd := if isB xs xs.length then (if k == 5 || k == 6 then lim ((k, 0) :: xs) else []) else []
def preC (k : Int) (xs : List Nd) : Int := if isB xs xs.length then (if k == 5 || k == 6 then limC ((k, 0) :: xs) else 2) else 1
theorem PrefixFormula_len (k : Int) (xs : List Nd) : (preR k xs).length ≤ 1048576 := by unfold preR; split <;> (try split) <;> (try have := lim_len ((k, 0) :: xs)) <;> simp <;> omega
theorem pre_bad {k : Int} {xs : List Nd} (h : isB xs xs.length = false) : preR k xs = [] ∧ preC k xs = 1 := by simp [preR, preC, h]
theorem pre_out {k : Int} {xs : List Nd} (h : isB xs xs.length = true) (h2 : (k == 5 || k == 6) = false) : preR k xs = [] ∧ preC k xs = 2 := by simp only [preR, preC, h, h2]; exact ⟨rfl, rfl⟩
theorem pre_good {k : Int} {xs : List Nd} (h : isB xs xs.length = true) (h2 : (k == 5 || k == 6) = true) : preR k xs = lim ((k, 0) :: xs) ∧ preC k xs = limC ((k, 0) :: xs) := by simp only [preR, preC, h, h2]; exact ⟨rfl, rfl⟩

end Go.Proofs.Ytnoaaklkbfbdbaa
