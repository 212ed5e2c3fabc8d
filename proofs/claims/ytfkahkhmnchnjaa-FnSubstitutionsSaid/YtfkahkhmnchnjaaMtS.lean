/- Contracts of the model's l03Match and MatchFormula, at every argument. Conditions: those in the theorems. -/
import Derived.Test.YtfkahkhmnchnjaaMt
import Derived.Test.YtfkahkhmnchnjaaInL
import Derived.Deep.RegionWith
import Derived.BigRegion
namespace Go.Proofs.Ytfkahkhmnchnjaa
open Go.RowKit

def kn (ps : List (List Nd)) (j : Nat) : Bool := !(nthL ps j).isEmpty
theorem kn_no {ps : List (List Nd)} {j : Nat} (h : kn ps j = false) : nthL ps j = [] := by simpa [kn] using h
theorem kn_yes {ps : List (List Nd)} {j : Nat} (h : kn ps j = true) : nthL ps j ≠ [] := by simpa [kn] using h
/-- The block KB tells which variables have occurred. -/
def KnB (w : World) (B KB : Nat) (ps : List (List Nd)) : Prop := w.ownsRow B 4 1 (.slice (some ⟨KB, 0, none⟩) 6 6) 6 ((List.range 6).map fun j => Value.bool (kn ps j))
theorem KnB.get {w : World} {B KB : Nat} {ps : List (List Nd)} (h : KnB w B KB ps) {q : Nat} (hq : q < 6) : w.cell? ⟨KB, q, none⟩ = some (.bool (kn ps q)) ∧ w.frozen? ⟨KB, q, none⟩ = false := by
  refine ⟨(World.ownsRow.cellAt h q (by omega)).trans (by simp [hq]), World.ownsRow.frozenAt h q⟩
theorem KnB.lo {w : World} {B KB : Nat} {ps : List (List Nd)} (h : KnB w B KB ps) : B ≤ KB ∧ ∃ cs f, w.heap[KB]? = some (.cells cs 4 f) := row_type h KB rfl
theorem KnB.put {w : World} {B KB q : Nat} {ps : List (List Nd)} {part : List Nd} (h : KnB w B KB ps) (h6 : ps.length = 6) (hq : q ≤ 5) (hp : part ≠ []) : KnB (w.setCell ⟨KB, q, none⟩ (.bool true)) B KB (ps.set q part) := by
  have h1 := (World.ownsRow.stored h q (.bool true)).1
  unfold KnB
  have e : ((List.range 6).map fun j => Value.bool (kn ps j)).set q (.bool true) = (List.range 6).map fun j => Value.bool (kn (ps.set q part) j) := by
    apply List.ext_getElem (by simp)
    intro j hj1 hj2
    have hj : j < 6 := by simpa using hj2
    rw [List.getElem_set]
    simp only [List.getElem_map, List.getElem_range]
    unfold kn
    rw [nthL_set (by rw [h6]; omega)]
    by_cases e : q = j
    · rw [if_pos e, if_pos e.symm]
      have : part.isEmpty = false := by simpa using hp
      rw [this]; rfl
    · rw [if_neg e, if_neg (fun h => e h.symm)]
  rw [← e]
  exact h1
theorem KnB.keep {w w' : World} {B C KB : Nat} {ps : List (List Nd)} (h : KnB w B KB ps) (hb : Below C w w') (hC : w.heap.size ≤ C) : KnB w' B KB ps := ownsRow_below h (fun k hk => Nat.lt_of_lt_of_le (row_lt h k hk) hC) hb
theorem cut_pos {ys : List Nd} {i e : Nat} (hl : (cut ys i).length = e - i) (h : i < e) : cut ys i ≠ [] := by
  intro h2
  rw [h2] at hl
  simp at hl
  omega

def mtB (xs ys : List Nd) : Bool := (mtTo xs ys xs.length).isSome
def mtL (xs ys : List Nd) : List (List Nd) := match mtTo xs ys xs.length with | none => [] | some (_, ps) => fill ps
theorem mtL_false {xs ys : List Nd} (h : mtB xs ys = false) : mtL xs ys = [] := by
  rw [mtB] at h
  rw [mtL]
  cases e : mtTo xs ys xs.length with
  | none => rfl
  | some p => rw [e] at h; cases h
theorem szTo_le' {xss : List (List Nd)} {n m : Nat} (h : ∀ j, j < n → (nthL xss j).length ≤ m) : ∀ k, k ≤ n → szTo xss k ≤ k * m := by
  intro k
  induction k with
  | zero => intro _; simp [szTo]
  | succ k ih =>
    intro hk
    have := ih (by omega)
    have := h k (by omega)
    rw [szTo, Nat.succ_mul]
    omega
theorem mtL_no {xs ys : List Nd} (h : mtTo xs ys xs.length = none) : mtL xs ys = [] ∧ mtB xs ys = false := by rw [mtL, mtB, h]; exact ⟨rfl, rfl⟩
theorem mtL_yes {xs ys : List Nd} {i : Nat} {ps : List (List Nd)} (h : mtTo xs ys xs.length = some (i, ps)) : mtL xs ys = fill ps ∧ mtB xs ys = true := by rw [mtL, mtB, h]; exact ⟨rfl, rfl⟩

theorem fill_bound {ps : List (List Nd)} (h : ∀ j, j < 6 → nthL ps j = [] ∨ isB (nthL ps j) (nthL ps j).length = true) : ∀ j, j < (fill ps).length → (nthL (fill ps) j).length ≤ 40 := by
  intro j hj
  rw [fill_len] at hj
  rw [fill_at hj]
  split
  · simp
  · rename_i hn
    rcases h j hj with h1 | h1
    · exact absurd h1 hn
    · exact (is_pos' h1).2
theorem mt_inv {xs ys : List Nd} (hx : isB xs xs.length = true) (hy : isB ys ys.length = true) : ∀ k, k ≤ xs.length → mtTo xs ys k = none ∨ ∃ i ps o, MtI xs ys k i ps o := by
  intro k
  induction k with
  | zero => intro _; exact .inr ⟨_, _, _, mt_start hx hy⟩
  | succ k ih =>
    intro hk
    rcases ih (by omega) with h | ⟨i, ps, o, h⟩
    · exact .inl (mt_none (by omega) h)
    · by_cases h0 : kd xs k = 0
      · obtain ⟨q, hq, hq5⟩ := sy_six (is_treeTo' hx) (show k < xs.length by omega)
        obtain ⟨t, ht, ht1, ht2, hcut, hcl, hcis, hno, hyes⟩ := h.part (by omega) (is_pos' hy).2 h0 hq hq5
        by_cases e1 : nthL ps q = []
        · exact .inr ⟨_, _, _, hyes (.inl e1)⟩
        · by_cases e2 : nthL ps q = cut ys i
          · exact .inr ⟨_, _, _, hyes (.inr e2)⟩
          · exact .inl (hno ⟨e1, e2⟩)
      · obtain ⟨hno, hyes⟩ := h.node (by omega) h0
        by_cases e : kd xs k = kd ys i ∧ sy xs k = sy ys i
        · exact .inr ⟨_, _, _, hyes e⟩
        · exact .inl (hno e)
theorem MatchFormula_len (xs ys : List Nd) : (mtR xs ys).length ≤ 1048576 ∧ szTo (mtR xs ys) (mtR xs ys).length ≤ 1048576 := by
  cases h : (isB xs xs.length && isB ys ys.length)
  · rw [(mtR_bad h).1]; simp [szTo]
  · have hh : isB xs xs.length = true ∧ isB ys ys.length = true := by simpa using h
    rcases mt_inv hh.1 hh.2 xs.length (Nat.le_refl _) with h2 | ⟨i, ps, o, h2⟩
    · rw [(mtR_no h h2).1]; simp [szTo]
    · rw [(mtR_yes h h2.to).1, fill_len]
      have := szTo_le' (fun j hj => fill_bound h2.ok j (by rw [fill_len]; exact hj)) 6 (Nat.le_refl _)
      omega
theorem mtR_of {xs ys : List Nd} (h : (isB xs xs.length && isB ys ys.length) = true) : mtR xs ys = mtL xs ys ∧ mtC xs ys = (if mtB xs ys then 0 else 4) := by
  rw [mtR, mtC, h, mtL, mtB]
  cases mtTo xs ys xs.length with
  | none => exact ⟨rfl, rfl⟩
  | some p => exact ⟨rfl, rfl⟩

end Go.Proofs.Ytfkahkhmnchnjaa
