/- Lists of point nodes put together: append, slices.Grow and slices.Concat. Conditions: those in the theorems. -/
import Derived.Lib.AppendZerosOnto
import Derived.Test.YtfkdefmafhlmnaaJn04
namespace Go.Proofs.Ytfkdefmafhlmnaa
open Go.RowKit

theorem AtP.news {w : World} {b off m : Nat} {ys : List Pd} (h : AtP w (some ⟨b, off, none⟩) m ys) : ∀ j u, (cellsP ys)[j]? = some u → w.cell? ((⟨b, off, none⟩ : Addr).add j) = some u := by
  intro j u hu
  have hj : j < (cellsP ys).length := (List.getElem?_eq_some_iff.1 hu).1
  rw [cellsP_len] at hj
  have hl := h.1
  obtain ⟨b', off', ha, hb, hc⟩ := h.2.resolve_left (by omega)
  cases ha
  obtain ⟨e1, e2, e3⟩ := cellsP_at ys (j / 3) (by omega)
  obtain ⟨c1, c2, c3⟩ := hc (j / 3) (by omega)
  rw [addr_add]
  have h3 : j % 3 = 0 ∨ j % 3 = 1 ∨ j % 3 = 2 := by omega
  rcases h3 with h3 | h3 | h3
  · have e : j / 3 * 3 = j := by omega
    rw [e] at e1 c1
    rw [c1, ← e1, hu]
  · have e : j / 3 * 3 + 1 = j := by omega
    rw [Nat.add_assoc, e] at c2
    rw [e] at e2
    rw [c2, ← e2, hu]
  · have e : j / 3 * 3 + 2 = j := by omega
    rw [Nat.add_assoc, e] at c3
    rw [e] at e3
    rw [c3, ← e3, hu]
theorem cellsP_one (ys : List Pd) : ∀ u ∈ cellsP ys, u.oneCell' = true := by
  intro u hu
  obtain ⟨x, -, hx⟩ := List.mem_flatMap.1 hu
  simp at hx
  rcases hx with rfl | rfl | rfl <;> rfl
theorem list_appPt {ops : Array Oper} {rest : List Oper} {o : Oper} {a : Act} {w : World} {Q : Exit → Act → World → Prop} (hgd : o.guard = none) (s x : Operand)
    (ho : o.op = .call { callee := .builtin .append, args := #[s, x], argTypes := #[24, 24] })
    (B : Nat) (v : Value) (xs : List Pd) (hs : a.eval s = v) (hown : OwnP w B v xs)
    (ys : List Pd) (aa : Option Addr) (m c : Nat) (hx : a.eval x = .slice aa m c) (hat : AtP w aa m ys) (hm : 0 < m) (hn : xs.length + m ≤ 8388608) (hB : B ≤ w.heap.size)
    (h : ∀ v' w', OwnP w' B v' (xs ++ ys) → w.grownBy w' v.ownBlock → wpList Try.prog ops Q rest (a.put o.dst v') w') : wpList Try.prog ops Q (o :: rest) a w := by
  obtain ⟨i0, hi, hz0, hz1, hz2⟩ := info_parts infoPd
  obtain ⟨b, off, rfl, -, -⟩ := hat.2.resolve_left (by omega)
  refine wpList_append_own w hgd s x 24 ho B 61 i0 (.agg #[.int .i64 0, .int .i64 0, .int .i64 0]) 3 24 Try.underlying24 hi hz0 hz1 hz2 rfl (by decide) v xs.length (cellsP xs) hs hown ⟨b, off, none⟩ m c (cellsP ys) hx (by rw [cellsP_len, hat.1]) hat.news (cellsP_one ys) (by unfold maxLen; omega) (by omega) hB (fun v' w' h1 h2 _ => h v' w' ?_ h2)
  unfold OwnP
  rw [List.length_append, cellsP_append, ← hat.1]
  exact h1
/-- Behind such an append: below B nothing has turned. -/
theorem below_appPt {B : Nat} {w wr X w1 : World} {v : Value} {xs : List Pd} (hbel : Below B w wr) (hX : Below B wr X) (hB : B ≤ wr.heap.size) (ho : OwnP X B v xs) (hg : X.grownBy w1 v.ownBlock) : Below B w w1 :=
  (hbel.trans hX).grown hg (Nat.le_trans hB hX.size) (fun k hk => (World.ownsRow.lt ho k hk).1)
theorem litP (w : World) (B : Nat) (k s t : Int) (hB : B ≤ w.heap.size) : OwnP (w.alloc (.cells #[.int .i64 k, .int .i64 s, .int .i64 t] 61)) B (.slice (some ⟨w.heap.size, 0, none⟩) 1 1) [(k, s, t)] :=
  World.ownsRow_lit w #[.int .i64 k, .int .i64 s, .int .i64 t] 1 hB (by decide) rfl

theorem list_appZP {ops : Array Oper} {rest : List Oper} {o : Oper} {a : Act} {w : World} {Q : Exit → Act → World → Prop} (hgd : o.guard = none) (s x : Operand)
    (ho : o.op = .call { callee := .builtin .append, args := #[s, x], argTypes := #[24, 3] })
    (n : Nat) (hs : a.eval s = .slice none 0 0) (hx : a.eval x = .int .i64 n) (hn : 0 < n) (hn2 : n ≤ 8388608)
    (h : ∀ (cap : Nat) (cs : Array Value), n ≤ cap → cap ≤ maxLen → cs.size = cap * 3 → wpList Try.prog ops Q rest (a.put o.dst (.slice (some ⟨w.heap.size, 0, none⟩) n cap)) (w.drew.alloc (.cells cs 61))) : wpList Try.prog ops Q (o :: rest) a w := by
  obtain ⟨i0, hi, hz0, hz1, hz2⟩ := info_parts infoPd
  refine wpList_plain hgd fun K hK => ?_
  have hr := Lib.run_append_grow_zeros (P := Try.prog) w 24 3 o.type 61 i0 (.agg #[.int .i64 0, .int .i64 0, .int .i64 0]) .i64 .i64 Try.underlying24 Try.underlying3 hi hz0 none 0 0 [] (run_firstCells_none w.drew i0.size 0 0 0) n hn (by omega) (by omega) (by omega) (by rw [hz2]; omega)
    (growslice_fits (by omega) (by rw [hz2]; omega))
  simp only [Nat.zero_add] at hr
  unfold Oper.wp execOp
  simp only [ho, resolve, invoke, builtin, Sem.run_bind, Sem.run_pure, Result.andThen_ok, List.map_toArray, List.map_cons, List.map_nil, hs, hx, hr]
  have hg := grownCap_ge w n 0 61
  refine hK _ _ (h _ _ hg (grownCap_le_maxLen w n 0 _ (by unfold maxLen; omega)) ?_)
  have e : (Value.agg #[Value.int .i64 0, Value.int .i64 0, Value.int .i64 0]).cells.size = 3 := rfl
  rw [Array.size_append, Array.size_append, size_zeroCells, size_zeroCells, e]
  simp
  omega

def nthP (xss : List (List Pd)) (j : Nat) : List Pd := xss.getD j []
/-- A list of lists of nodes in memory. -/
def AtPP (w : World) (a : Option Addr) (len : Nat) (xss : List (List Pd)) : Prop :=
  len = xss.length ∧ (len = 0 ∨ ∃ b off, a = some ⟨b, off, none⟩ ∧ b < w.heap.size ∧ ∀ j, j < len → ∃ a' cap', w.cell? ⟨b, off + j, none⟩ = some (.slice a' (nthP xss j).length cap') ∧ AtP w a' (nthP xss j).length (nthP xss j))
theorem AtPP.keep {w w' : World} {C : Nat} {a : Option Addr} {len : Nat} {xss : List (List Pd)} (h : AtPP w a len xss) (hb : Below C w w') (hC : w.heap.size ≤ C) : AtPP w' a len xss := by
  refine ⟨h.1, ?_⟩
  rcases h.2 with h2 | ⟨b, off, ha, hlt, hc⟩
  · exact .inl h2
  · refine .inr ⟨b, off, ha, Nat.lt_of_lt_of_le hlt hb.size, fun j hj => ?_⟩
    obtain ⟨a', cap', h3, h4⟩ := hc j hj
    exact ⟨a', cap', (hb.cell (p := ⟨b, off + j, none⟩) (by show b < C; omega)).trans h3, h4.keep hb hC⟩
/-- How many nodes the first k lists have together. -/
def szP (xss : List (List Pd)) : Nat → Nat
  | 0 => 0
  | k + 1 => szP xss k + (nthP xss k).length
def catP (xss : List (List Pd)) : Nat → List Pd
  | 0 => []
  | k + 1 => catP xss k ++ nthP xss k
theorem catP_len (xss : List (List Pd)) (k : Nat) : (catP xss k).length = szP xss k := by
  induction k with
  | zero => rfl
  | succ k ih => rw [catP, szP, List.length_append, ih]
theorem szP_mono (xss : List (List Pd)) {k l : Nat} (h : k ≤ l) : szP xss k ≤ szP xss l := by
  induction l with
  | zero => have : k = 0 := by omega
            subst this; exact Nat.le_refl _
  | succ l ih =>
    by_cases e : k = l + 1
    · subst e; exact Nat.le_refl _
    · have := ih (by omega); rw [szP]; omega
theorem catP_cons (x : List Pd) (xss : List (List Pd)) (k : Nat) : catP (x :: xss) (k + 1) = x ++ catP xss k := by
  induction k with
  | zero => simp [catP, nthP]
  | succ k ih => rw [catP, ih, catP, List.append_assoc]; rfl
theorem catP_all (xss : List (List Pd)) : catP xss xss.length = xss.flatten := by
  induction xss with
  | nil => rfl
  | cons x xss ih => rw [List.length_cons, catP_cons, ih]; rfl

/-- One list, or two, laid by a call with several arguments. -/
theorem layP1 {w : World} {C : Nat} {a : Option Addr} {len cap : Nat} {xs : List Pd} (h : AtP w a len xs) (t : TypeId) (hC : C = w.heap.size) : AtPP (w.alloc (.cells #[.slice a len cap] t)) (some ⟨C, 0, none⟩) 1 [xs] := by
  subst hC
  refine ⟨rfl, .inr ⟨w.heap.size, 0, rfl, by simp, fun j hj => ?_⟩⟩
  obtain rfl : j = 0 := by omega
  have hl := h.1
  refine ⟨a, cap, ?_, ?_⟩
  · rw [show (nthP [xs] 0).length = len from hl.symm]
    exact World.cell?_alloc_at _ _ _ _ rfl
  · rw [show (nthP [xs] 0).length = len from hl.symm]
    exact h.keep ((Below.refl _ _).alloc (Nat.le_refl _) _) (Nat.le_refl _)
theorem layP2 {w : World} {C : Nat} {a a' : Option Addr} {len cap len' cap' : Nat} {xs ys : List Pd} (h : AtP w a len xs) (h' : AtP w a' len' ys) (t : TypeId) (hC : C = w.heap.size) : AtPP (w.alloc (.cells #[.slice a len cap, .slice a' len' cap'] t)) (some ⟨C, 0, none⟩) 2 [xs, ys] := by
  subst hC
  refine ⟨rfl, .inr ⟨w.heap.size, 0, rfl, by simp, fun j hj => ?_⟩⟩
  have hl := h.1
  have hl' := h'.1
  have hj2 : j = 0 ∨ j = 1 := by omega
  rcases hj2 with rfl | rfl
  · refine ⟨a, cap, ?_, ?_⟩
    · rw [show (nthP [xs, ys] 0).length = len from hl.symm]
      exact World.cell?_alloc_at _ _ _ _ rfl
    · rw [show (nthP [xs, ys] 0).length = len from hl.symm]
      exact h.keep ((Below.refl _ _).alloc (Nat.le_refl _) _) (Nat.le_refl _)
  · refine ⟨a', cap', ?_, ?_⟩
    · rw [show (nthP [xs, ys] 1).length = len' from hl'.symm]
      exact World.cell?_alloc_at _ _ _ _ rfl
    · rw [show (nthP [xs, ys] 1).length = len' from hl'.symm]
      exact h'.keep ((Below.refl _ _).alloc (Nat.le_refl _) _) (Nat.le_refl _)
theorem layP3 {w : World} {C : Nat} {a a' a2 : Option Addr} {len cap len' cap' len2 cap2 : Nat} {xs ys zs : List Pd} (h : AtP w a len xs) (h' : AtP w a' len' ys) (h2 : AtP w a2 len2 zs) (t : TypeId) (hC : C = w.heap.size) : AtPP (w.alloc (.cells #[.slice a len cap, .slice a' len' cap', .slice a2 len2 cap2] t)) (some ⟨C, 0, none⟩) 3 [xs, ys, zs] := by
  subst hC
  refine ⟨rfl, .inr ⟨w.heap.size, 0, rfl, by simp, fun j hj => ?_⟩⟩
  have hl := h.1
  have hl' := h'.1
  have hl2 := h2.1
  have hj2 : j = 0 ∨ j = 1 ∨ j = 2 := by omega
  rcases hj2 with rfl | rfl | rfl
  · refine ⟨a, cap, ?_, ?_⟩
    · rw [show (nthP [xs, ys, zs] 0).length = len from hl.symm]
      exact World.cell?_alloc_at _ _ _ _ rfl
    · rw [show (nthP [xs, ys, zs] 0).length = len from hl.symm]
      exact h.keep ((Below.refl _ _).alloc (Nat.le_refl _) _) (Nat.le_refl _)
  · refine ⟨a', cap', ?_, ?_⟩
    · rw [show (nthP [xs, ys, zs] 1).length = len' from hl'.symm]
      exact World.cell?_alloc_at _ _ _ _ rfl
    · rw [show (nthP [xs, ys, zs] 1).length = len' from hl'.symm]
      exact h'.keep ((Below.refl _ _).alloc (Nat.le_refl _) _) (Nat.le_refl _)
  · refine ⟨a2, cap2, ?_, ?_⟩
    · rw [show (nthP [xs, ys, zs] 2).length = len2 from hl2.symm]
      exact World.cell?_alloc_at _ _ _ _ rfl
    · rw [show (nthP [xs, ys, zs] 2).length = len2 from hl2.symm]
      exact h2.keep ((Below.refl _ _).alloc (Nat.le_refl _) _) (Nat.le_refl _)

end Go.Proofs.Ytfkdefmafhlmnaa
