/- 2 texts in one: Sort, Uniq. -/
import Derived.WalkKit
import Derived.Below
import Derived.Sort.Row
import Derived.Sort.Grow
import Derived.Lib.SlicesCompact
import Derived.Test.YtnoaaklkbfbdbaaDoorRows
/- A bridge from rows that a call owns to the words of the library's contracts of sorting and compacting, and back. No conditions but those in the theorems. -/
namespace Go.Proofs.YtnoaaklkbfbdbaaDoor
open Go.RowKit Go.Sort

theorem holds_of_own {α : Type} [Inhabited α] (enc : α → Value) {w : World} {B g n cap : Nat} {T : TypeId} {zs : List α} (hn : zs.length = n) (h : w.ownsRow B T 1 (.slice (some ⟨g, 0, none⟩) n cap) n (zs.map enc)) : Holds enc w g 0 zs.toArray := by
  intro j hj
  have hj' : j < zs.length := by simpa using hj
  refine ⟨?_, by rw [Nat.zero_add]; exact h.frozenAt j⟩
  rw [Nat.zero_add, h.cellAt j (by omega)]
  simp [hj']
theorem own_put {α : Type} [Inhabited α] (enc : α → Value) {w : World} {B g n cap : Nat} {T : TypeId} {zs : List Value} (h : w.ownsRow B T 1 (.slice (some ⟨g, 0, none⟩) n cap) n zs) (ys : List α) (hy : ys.length = n) (q : Nat) (os : Array Obj) :
    (grow (putRow enc (Sort.ahead w q) g 0 ys.toArray) os).ownsRow B T 1 (.slice (some ⟨g, 0, none⟩) n cap) n (ys.map enc) ∧ w.grownBy (grow (putRow enc (Sort.ahead w q) g 0 ys.toArray) os) (some g) := by
  rcases h.2 with ⟨h', _⟩ | ⟨g', cap', cur, h', hb, hg, hnc, hcm, hcs, htake⟩
  · simp at h'
  · simp only [Value.slice.injEq, Option.some.injEq, Addr.mk.injEq, and_true, true_and] at h'
    obtain ⟨rfl, rfl⟩ := h'
    have hlt : g < w.heap.size := (Array.getElem?_eq_some_iff.1 hg).1
    have hsz : (putRow enc (Sort.ahead w q) g 0 ys.toArray).heap.size = w.heap.size := by simp [putRow, mapBlock, Sort.ahead]
    have hheap : ∀ k, k < w.heap.size → (grow (putRow enc (Sort.ahead w q) g 0 ys.toArray) os).heap[k]? = (putRow enc (Sort.ahead w q) g 0 ys.toArray).heap[k]? := by
      intro k hk
      unfold grow
      rw [Array.getElem?_append_left (by rw [hsz]; exact hk)]
    refine ⟨⟨by simp [hy], .inr ⟨g, cap, putCells enc 0 ys.toArray cur, rfl, hb, ?_, hnc, hcm, by simpa [putCells] using hcs, ?_⟩⟩, ⟨rfl, rfl, rfl, ?_, ?_⟩⟩
    · rw [hheap g hlt]
      unfold putRow mapBlock
      show (w.heap.modify g _)[g]? = _
      rw [Array.getElem?_modify, if_pos rfl, hg]
      rfl
    · apply List.ext_getElem?
      intro j
      rw [Nat.mul_one]
      by_cases hj : j < n
      · rw [List.getElem?_take, if_pos hj]
        have hjc : j < cur.size := by omega
        have hjy : j < ys.length := by omega
        simp [putCells, hjc, hjy]
      · rw [List.getElem?_eq_none (by simp; omega), List.getElem?_eq_none (by simp; omega)]
    · unfold grow
      rw [Array.size_append, hsz]
      omega
    · intro k hk hne
      rw [hheap k hk]
      unfold putRow mapBlock
      show (w.heap.modify g _)[k]? = _
      rw [Array.getElem?_modify, if_neg (fun e => hne (by rw [e]))]
theorem own_cut {w : World} {B g n cap : Nat} {T : TypeId} {zs : List Value} (h : w.ownsRow B T 1 (.slice (some ⟨g, 0, none⟩) n cap) n zs) (m : Nat) (hm : m ≤ n) : w.ownsRow B T 1 (.slice (some ⟨g, 0, none⟩) m cap) m (zs.take m) := by
  rcases h.2 with ⟨h', _⟩ | ⟨g', cap', cur, h', hb, hg, hnc, hcm, hcs, htake⟩
  · simp at h'
  · simp only [Value.slice.injEq, Option.some.injEq, Addr.mk.injEq, and_true, true_and] at h'
    obtain ⟨rfl, rfl⟩ := h'
    refine ⟨by rw [List.length_take, h.1]; omega, .inr ⟨g, cap, cur, rfl, hb, hg, by omega, hcm, hcs, ?_⟩⟩
    rw [← htake, List.take_take, Nat.min_eq_left (by omega), Nat.mul_one]

end Go.Proofs.YtnoaaklkbfbdbaaDoor

/- Lists in strictly ascending order: what compacting a sorted list leaves, and that such a list is told by its members. No conditions but those in the theorems. -/
namespace Go.Proofs.YtnoaaklkbfbdbaaDoor
open Go.RowKit Go.Sort Go.Lib

section
set_option linter.unusedSectionVars false
variable {α : Type} [Inhabited α] [DecidableEq α] (lt : α → α → Prop)
theorem up_snoc {l : List α} {x : α} (h : l.Pairwise lt) (hx : ∀ y ∈ l, lt y x) : (l ++ [x]).Pairwise lt := by
  rw [List.pairwise_append]
  exact ⟨h, List.pairwise_singleton _ _, fun a ha b hb => by simp at hb; subst hb; exact hx a ha⟩
/-- What compacting the first m places of a sorted row leaves. -/
theorem compact_up (tr : ∀ x y z, lt x y → lt y z → lt x z) (ne : ∀ x y, ¬ lt y x → x ≠ y → lt x y) (d : Array α) (n : Nat) (hs : ∀ i, i + 1 < n → ¬ lt d[i + 1]! d[i]!) :
    ∀ m, m ≤ n → (compactUpTo d m).Pairwise lt ∧ (∀ x, x ∈ compactUpTo d m ↔ ∃ j, j < m ∧ d[j]! = x) ∧ (∀ x, 0 < m → x ∈ compactUpTo d m → x = d[m - 1]! ∨ lt x d[m - 1]!) := by
  intro m
  induction m with
  | zero => intro _; exact ⟨by simp [compactUpTo], fun x => by simp [compactUpTo], fun x h => absurd h (by omega)⟩
  | succ m ih =>
    intro hm
    obtain ⟨h1, h2, h3⟩ := ih (by omega)
    rw [compactUpTo_succ]
    by_cases hk : keeps d m = true
    · rw [if_pos hk]
      have hlt : ∀ y ∈ compactUpTo d m, lt y d[m]! := by
        intro y hy
        by_cases h0 : m = 0
        · subst h0; simp [compactUpTo] at hy
        · have hne : d[m]! ≠ d[m - 1]! := by
            simp [keeps, h0] at hk
            exact hk
          have hs2 := hs (m - 1) (by omega)
          rw [show m - 1 + 1 = m by omega] at hs2
          have hl : lt d[m - 1]! d[m]! := ne _ _ hs2 (fun e => hne e.symm)
          rcases h3 y (by omega) hy with rfl | h
          · exact hl
          · exact tr _ _ _ h hl
      refine ⟨up_snoc lt h1 hlt, fun x => ?_, fun x _ hx => ?_⟩
      · rw [List.mem_append, h2 x]
        constructor
        · rintro (⟨j, hj, e⟩ | h)
          · exact ⟨j, by omega, e⟩
          · exact ⟨m, by omega, by simpa [eq_comm] using h⟩
        · rintro ⟨j, hj, e⟩
          by_cases e2 : j = m
          · right; subst e2; simp [e]
          · left; exact ⟨j, by omega, e⟩
      · rw [Nat.add_sub_cancel]
        rcases List.mem_append.1 hx with h | h
        · exact .inr (hlt x h)
        · left; simpa using h
    · rw [if_neg hk, List.append_nil]
      have h0 : m ≠ 0 := by intro e; subst e; simp [keeps] at hk
      have he : d[m]! = d[m - 1]! := by
        simp [keeps, h0] at hk
        exact hk
      refine ⟨h1, fun x => ?_, fun x _ hx => ?_⟩
      · rw [h2 x]
        constructor
        · rintro ⟨j, hj, e⟩; exact ⟨j, by omega, e⟩
        · rintro ⟨j, hj, e⟩
          by_cases e2 : j = m
          · subst e2; exact ⟨j - 1, by omega, by rw [← he]; exact e⟩
          · exact ⟨j, by omega, e⟩
      · rw [Nat.add_sub_cancel, he]
        exact h3 x (by omega) hx
/-- A strictly ascending list is told by its members. -/
theorem up_uniq (tr : ∀ x y z, lt x y → lt y z → lt x z) (ir : ∀ x, ¬ lt x x) : ∀ (l m : List α), l.Pairwise lt → m.Pairwise lt → (∀ x, x ∈ l ↔ x ∈ m) → l = m := by
  intro l
  induction l with
  | nil =>
    intro m _ _ h
    cases m with
    | nil => rfl
    | cons y m => exact absurd ((h y).2 (by simp)) (by simp)
  | cons x l ih =>
    intro m hl hm h
    cases m with
    | nil => exact absurd ((h x).1 (by simp)) (by simp)
    | cons y m =>
      rw [List.pairwise_cons] at hl hm
      have hxy : x = y := by
        rcases List.mem_cons.1 ((h x).1 (by simp)) with e | hx
        · exact e
        · rcases List.mem_cons.1 ((h y).2 (by simp)) with e | hy
          · exact e.symm
          · exact absurd (tr _ _ _ (hm.1 x hx) (hl.1 y hy)) (ir y)
      subst hxy
      rw [ih m hl.2 hm.2 (fun z => ?_)]
      constructor
      · intro hz
        rcases List.mem_cons.1 ((h z).1 (List.mem_cons_of_mem _ hz)) with e | h1
        · subst e; exact absurd (hl.1 z hz) (ir z)
        · exact h1
      · intro hz
        rcases List.mem_cons.1 ((h z).2 (List.mem_cons_of_mem _ hz)) with e | h1
        · subst e; exact absurd (hm.1 z hz) (ir z)
        · exact h1
end

end Go.Proofs.YtnoaaklkbfbdbaaDoor
