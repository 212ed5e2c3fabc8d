/- 2 texts in one: NPol, Occ. -/
import Derived.Test.YtfkahkhmnchnjaaDoorJn11
import Derived.Test.YtfkahkhmnchnjaaDoorJn06
import Derived.Test.YtfkahkhmnchnjaaDoorWrite
import Derived.Laws.StructEq
/- Contracts of NodePolarity, VariablePolarity and IsGuarded of the model and of the program, at every argument. Conditions: those in the theorems. -/
namespace Go.Proofs.YtfkahkhmnchnjaaDoor
open Go.RowKit

theorem imp_at {xs : List Nd} (hb : isB xs xs.length = true) {k : Nat} (hk : k < xs.length) (h4 : kd xs k = 4) : ∃ e : Nat, pe xs (xs.length - (k + 1)) 1 (k + 1) = e ∧ k + 1 ≤ e ∧ e ≤ xs.length := by
  obtain ⟨f, r, hf, he⟩ := sub_at hb hk
  cases f with
  | va s => rw [kd_at (x := (0, s)) (r := r) he] at h4; exact absurd h4 (show (0 : Int) ≠ 4 by decide)
  | fa => rw [kd_at (x := (1, 0)) (r := r) he] at h4; exact absurd h4 (show (1 : Int) ≠ 4 by decide)
  | un m a =>
    rw [kd_at (x := (m, 0)) (r := a.enc ++ r) (by rw [he]; simp [Fm.enc])] at h4
    have := hf.1
    have : m = 4 := h4
    omega
  | bi m a b =>
    have h1 : xs.drop (k + 1) = a.enc ++ (b.enc ++ r) := drop_next (x := (m, 0)) (by rw [he]; simp [Fm.enc])
    have h2 := pe_end a hf.2.1 h1
    have h3 := congrArg List.length h1
    simp only [List.length_drop, List.length_append, Fm.enc_len] at h3
    have hp := a.sz_pos
    exact ⟨_, h2, by omega, by omega⟩
theorem part_at {xs : List Nd} (hb : isB xs xs.length = true) {k : Nat} (hk : k < xs.length) : ∃ e : Nat, pe xs (xs.length - k) 1 k = e ∧ k + 1 ≤ e ∧ e ≤ xs.length := by
  obtain ⟨f, r, hf, he⟩ := sub_at hb hk
  have h2 := pe_end f hf he
  have h3 := congrArg List.length he
  simp only [List.length_drop, List.length_append, Fm.enc_len] at h3
  have hp := f.sz_pos
  exact ⟨_, h2, by omega, by omega⟩
theorem pol_fm {xs : List Nd} (hb : isB xs xs.length = true) {i : Nat} (hi : i < xs.length) : pol xs i i = nth ((toFm xs).pls 1) i := by
  obtain ⟨h1, h2, h3⟩ := toFm_of hb
  refine pol_all h1 h2 ?_
  rw [← Fm.enc_len, ← h2]; exact hi

def npR (xs : List Nd) (i : Int) : Int := if isB xs xs.length && (decide (0 ≤ i) && decide (i < xs.length)) then pol xs i.toNat i.toNat else 0
def npC (xs : List Nd) (i : Int) : Int := cvI (isB xs xs.length) xs.length i
theorem np_bad {xs : List Nd} {i : Int} (h : isB xs xs.length = false) : npR xs i = 0 ∧ npC xs i = 1 := by simp [npR, npC, cvI, h]
theorem np_out {xs : List Nd} {i : Int} (h : isB xs xs.length = true) (h2 : (decide (0 ≤ i) && decide (i < xs.length)) = false) : npR xs i = 0 ∧ npC xs i = 2 := by simp only [npR, npC, cvI, h, h2]; exact ⟨rfl, rfl⟩
theorem np_good {xs : List Nd} {i : Int} (h : isB xs xs.length = true) (h2 : (decide (0 ≤ i) && decide (i < xs.length)) = true) : ∃ k : Nat, i = k ∧ k < xs.length ∧ npR xs i = pol xs k k ∧ npC xs i = 0 := by
  have h3 : 0 ≤ i ∧ i < xs.length := by simpa using h2
  obtain ⟨k, rfl⟩ := Int.eq_ofNat_of_zero_le h3.1
  refine ⟨k, rfl, by omega, ?_, ?_⟩
  · rw [npR, h, h2]; rfl
  · rw [npC, cvI, h, h2]; rfl

end Go.Proofs.YtfkahkhmnchnjaaDoor

/- Contracts of slices.Equal at nodes, and of OccurrencesOf of the model and of the program, at every argument. Conditions: those in the theorems. -/
namespace Go.Proofs.YtfkahkhmnchnjaaDoor
open Go.RowKit

theorem Own.snoc {w : World} {B : Nat} {v : Value} {xs : List Int} {z : Int} (h : w.ownsRow B 2 1 v (xs.length + 1) (xs.map (Value.int .i64) ++ [.int .i64 z])) : Own w B v (xs ++ [z]) := by
  unfold Own
  rw [List.length_append, List.map_append]
  exact h
def ocB (xs ys : List Nd) (k : Nat) : Bool := decide ((xs.drop k).take ((pe xs (xs.length - k) 1 k).toNat - k) = ys)
def ocTo (xs ys : List Nd) : Nat → List Int
  | 0 => []
  | k + 1 => if ocB xs ys k then ocTo xs ys k ++ [(k : Int)] else ocTo xs ys k
theorem ocTo_len (xs ys : List Nd) (k : Nat) : (ocTo xs ys k).length ≤ k := by
  induction k with
  | zero => exact Nat.le_refl _
  | succ k ih =>
    rw [ocTo]
    split
    · simp; omega
    · omega
def ocR (xs ys : List Nd) : List Int := if isB xs xs.length && isB ys ys.length then ocTo xs ys xs.length else []
def ocC (xs ys : List Nd) : Int := if isB xs xs.length && isB ys ys.length then 0 else 1
theorem OccurrencesOf_len (xs ys : List Nd) : (ocR xs ys).length ≤ 1048576 := by
  rw [ocR]
  split
  · rename_i h
    have h1 : isB xs xs.length = true := by simp at h; exact h.1
    have := is_pos' h1
    have := ocTo_len xs ys xs.length
    omega
  · simp
theorem oc_bad {xs ys : List Nd} (h : (isB xs xs.length && isB ys ys.length) = false) : ocR xs ys = [] ∧ ocC xs ys = 1 := by simp only [ocR, ocC, h]; exact ⟨rfl, rfl⟩
theorem oc_good {xs ys : List Nd} (h : (isB xs xs.length && isB ys ys.length) = true) : ocR xs ys = ocTo xs ys xs.length ∧ ocC xs ys = 0 := by simp only [ocR, ocC, h]; exact ⟨rfl, rfl⟩
theorem ownI_none (w : World) (B : Nat) : Own w B (.slice none 0 0) [] := World.ownsRow_nil w B 2 1

end Go.Proofs.YtfkahkhmnchnjaaDoor
