/- Contracts of slices.Grow and slices.Concat at lists of nodes, and of the program's functions that put lists of nodes together. Conditions: those in the theorems. -/
import Derived.Lib.AppendZerosOnto
import Derived.Test.YtomldealpmohhaaJn05
namespace Go.Proofs.Ytomldealpmohhaa
open Go.RowKit

theorem list_appZ {ops : Array Oper} {rest : List Oper} {o : Oper} {a : Act} {w : World} {Q : Exit → Act → World → Prop} (hgd : o.guard = none) (s x : Operand)
    (ho : o.op = .call { callee := .builtin .append, args := #[s, x], argTypes := #[36, 3] })
    (n : Nat) (hs : a.eval s = .slice none 0 0) (hx : a.eval x = .int .i64 n) (hn : 0 < n) (hn2 : n ≤ 8388608)
    (h : ∀ (cap : Nat) (cs : Array Value), n ≤ cap → cap ≤ maxLen → cs.size = cap * 2 → wpList Try.prog ops Q rest (a.put o.dst (.slice (some ⟨w.heap.size, 0, none⟩) n cap)) (w.drew.alloc (.cells cs 69))) : wpList Try.prog ops Q (o :: rest) a w := by
  obtain ⟨i0, hi, hz0, hz1, hz2⟩ := info_parts infoNd
  refine wpList_plain hgd fun K hK => ?_
  have hr := Lib.run_append_grow_zeros (P := Try.prog) w 36 3 o.type 69 i0 (.agg #[.int .i64 0, .int .i64 0]) .i64 .i64 Try.underlying36 Try.underlying3 hi hz0 none 0 0 [] (run_firstCells_none w.drew i0.size 0 0 0) n hn (by omega) (by omega) (by omega) (by rw [hz2]; omega)
    (growslice_fits (by omega) (by rw [hz2]; omega))
  simp only [Nat.zero_add] at hr
  unfold Oper.wp execOp
  simp only [ho, resolve, invoke, builtin, Sem.run_bind, Sem.run_pure, Result.andThen_ok, List.map_toArray, List.map_cons, List.map_nil, hs, hx, hr]
  have hg := grownCap_ge w n 0 69
  refine hK _ _ (h _ _ hg (grownCap_le_maxLen w n 0 _ (by unfold maxLen; omega)) ?_)
  have e : (Value.agg #[Value.int .i64 0, Value.int .i64 0]).cells.size = 2 := rfl
  rw [Array.size_append, Array.size_append, size_zeroCells, size_zeroCells, e]
  simp
  omega

def nthL (xss : List (List Nd)) (j : Nat) : List Nd := xss.getD j []
/-- A list of lists of nodes in memory. -/
def AtNN (w : World) (a : Option Addr) (len : Nat) (xss : List (List Nd)) : Prop :=
  len = xss.length ∧ (len = 0 ∨ ∃ b off, a = some ⟨b, off, none⟩ ∧ b < w.heap.size ∧ ∀ j, j < len → ∃ a' cap', w.cell? ⟨b, off + j, none⟩ = some (.slice a' (nthL xss j).length cap') ∧ AtN w a' (nthL xss j).length (nthL xss j))
theorem AtNN.keep {w w' : World} {C : Nat} {a : Option Addr} {len : Nat} {xss : List (List Nd)} (h : AtNN w a len xss) (hb : Below C w w') (hC : w.heap.size ≤ C) : AtNN w' a len xss := by
  refine ⟨h.1, ?_⟩
  rcases h.2 with h2 | ⟨b, off, ha, hlt, hc⟩
  · exact .inl h2
  · refine .inr ⟨b, off, ha, Nat.lt_of_lt_of_le hlt hb.size, fun j hj => ?_⟩
    obtain ⟨a', cap', h3, h4⟩ := hc j hj
    exact ⟨a', cap', (hb.cell (p := ⟨b, off + j, none⟩) (by show b < C; omega)).trans h3, h4.keep hb hC⟩
/-- How many nodes the first k lists have together. -/
def szTo (xss : List (List Nd)) : Nat → Nat
  | 0 => 0
  | k + 1 => szTo xss k + (nthL xss k).length
def catTo (xss : List (List Nd)) : Nat → List Nd
  | 0 => []
  | k + 1 => catTo xss k ++ nthL xss k
theorem catTo_len (xss : List (List Nd)) (k : Nat) : (catTo xss k).length = szTo xss k := by
  induction k with
  | zero => rfl
  | succ k ih => rw [catTo, szTo, List.length_append, ih]
theorem szTo_mono (xss : List (List Nd)) {k l : Nat} (h : k ≤ l) : szTo xss k ≤ szTo xss l := by
  induction l with
  | zero => have : k = 0 := by omega
            subst this; exact Nat.le_refl _
  | succ l ih =>
    by_cases e : k = l + 1
    · subst e; exact Nat.le_refl _
    · have := ih (by omega); rw [szTo]; omega
theorem catTo_cons (x : List Nd) (xss : List (List Nd)) (k : Nat) : catTo (x :: xss) (k + 1) = x ++ catTo xss k := by
  induction k with
  | zero => simp [catTo, nthL]
  | succ k ih => rw [catTo, ih, catTo, List.append_assoc]; rfl
theorem catTo_all (xss : List (List Nd)) : catTo xss xss.length = xss.flatten := by
  induction xss with
  | nil => rfl
  | cons x xss ih => rw [List.length_cons, catTo_cons, ih]; rfl

end Go.Proofs.Ytomldealpmohhaa
