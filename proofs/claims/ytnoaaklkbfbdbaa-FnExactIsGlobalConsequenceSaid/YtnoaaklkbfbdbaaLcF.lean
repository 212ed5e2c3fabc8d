/- What the program answers for a local consequence: the walk of isConsequence with its test. Conditions: those in the theorems. -/
import Derived.RangeFuncBox
import Derived.Test.YtnoaaklkbfbdbaaJn16
import Derived.Test.YtnoaaklkbfbdbaaJn17
namespace Go.Proofs.Ytnoaaklkbfbdbaa
open Go.RowKit Go.Shelf

def noB (p : Nat → Bool) : Nat → Bool
  | 0 => true
  | N + 1 => noB p N && !p N
theorem noB_true {p : Nat → Bool} : ∀ {N : Nat}, (∀ k, k < N → p k = false) → noB p N = true
  | 0, _ => rfl
  | N + 1, h => by rw [noB, noB_true (fun k hk => h k (by omega)), h N (by omega)]; rfl
theorem noB_false {p : Nat → Bool} : ∀ {N k : Nat}, k < N → p k = true → noB p N = false
  | 0, k, h, _ => by omega
  | N + 1, k, h, hp => by
    rw [noB]
    by_cases e : k = N
    · subst e; rw [hp]; simp
    · rw [noB_false (by omega : k < N) hp]; rfl
/-- The error of a search for consequences; how many models it looks at; the answer. -/
def cqC (n : Int) (xs : List Int) (xss : List (List Nd)) (zs : List Nd) : Int := csC n xs (okAll (xss ++ [zs]) (xss.length + 1)) (vrM (xss ++ [zs]) (xss.length + 1)).length
def cqN (xs : List Int) (xss : List (List Nd)) (zs : List Nd) : Nat := 2 ^ (xs.length * (vrM (xss ++ [zs]) (xss.length + 1)).length)
def cqV (p : Nat → Bool) (n : Int) (xs : List Int) (xss : List (List Nd)) (zs : List Nd) : Bool := decide (cqC n xs xss zs = 0) && noB p (cqN xs xss zs)
/-- The two cells of a result. -/
structure Rt2 (W : World) (b : Nat) (v : Value) (j : Int) : Prop where
  c0 : W.cell? ⟨b, 0, none⟩ = some v
  c1 : W.cell? ⟨b + 1, 0, none⟩ = some (.int .i64 j)
  f0 : W.frozen? ⟨b, 0, none⟩ = false
  f1 : W.frozen? ⟨b + 1, 0, none⟩ = false
theorem Rt2.below {W W' : World} {b C : Nat} {v : Value} {j : Int} (h : Rt2 W b v j) (hb : Below C W W') (hC : b + 1 < C) : Rt2 W' b v j :=
  ⟨(hb.cell (p := ⟨b, 0, none⟩) (by show b < C; omega)).trans h.c0, (hb.cell (p := ⟨b + 1, 0, none⟩) hC).trans h.c1,
   (hb.frozen (p := ⟨b, 0, none⟩) (by show b < C; omega)).trans h.f0, (hb.frozen (p := ⟨b + 1, 0, none⟩) hC).trans h.f1⟩
theorem Rt2.lt {W : World} {b : Nat} {v : Value} {j : Int} (h : Rt2 W b v j) : b + 1 < W.heap.size := World.block_lt_of_cell? _ _ h.c1
theorem Rt2.keep {W W' : World} {b : Nat} {v : Value} {j : Int} (h : Rt2 W b v j) (hb : Below W.heap.size W W') : Rt2 W' b v j := h.below hb h.lt
theorem Rt2.putO {W : World} {b l : Nat} {v : Value} {j : Int} {o o' : Obj} (h : Rt2 W b v j) (hl : W.heap[l]? = some o) (ho : o.isCells = false) : Rt2 (W.putObj l o') b v j :=
  have k := fun {p : Addr} {u : Value} (hc : W.cell? p = some u) => cell_kept hc (grownBy_putObj' W l o') (fun r e => by cases e; exact ⟨o, hl, ho⟩)
  have q := fun {p : Addr} {u : Value} (hc : W.cell? p = some u) => frozen_kept hc (grownBy_putObj' W l o') (fun r e => by cases e; exact ⟨o, hl, ho⟩)
  ⟨k h.c0, k h.c1, (q h.c0).trans h.f0, (q h.c1).trans h.f1⟩
theorem Rt2.set {W : World} {b : Nat} {v u : Value} {j j' : Int} (h : Rt2 W b v j) : Rt2 ((W.setCell ⟨b, 0, none⟩ u).setCell ⟨b + 1, 0, none⟩ (.int .i64 j')) b u j' := by
  refine ⟨?_, ?_, ?_, ?_⟩
  · rw [World.cell?_setCell_other _ _ _ _ (by intro e; have e2 := congrArg Addr.block e; simp only at e2; omega)]; exact cell_set _ _ _ _ h.c0
  · exact cell_set _ _ _ _ (by rw [World.cell?_setCell_other _ _ _ _ (by intro e; have e2 := congrArg Addr.block e; simp only at e2; omega)]; exact h.c1)
  · rw [World.frozen?_setCell, World.frozen?_setCell]; exact h.f0
  · rw [World.frozen?_setCell, World.frozen?_setCell]; exact h.f1
theorem results_r2 {fn : Func} (hres : fn.results = #[.cell 8 4, .cell 9 2]) {tmps : Array Value} {b : Nat} {w : World} {v : Value} {j : Int} (h : Rt2 w b v j)
    (e8 : tmps[8]?.getD undef = .pointer (some ⟨b, 0, none⟩)) (e9 : tmps[9]?.getD undef = .pointer (some ⟨b + 1, 0, none⟩)) :
    (results fn tmps).run Try.prog w = .ok (.tuple #[v, .int .i64 j]) w := by
  obtain ⟨c0, c1, -, -⟩ := h
  simp only [results, hres]
  go_simp
/-- The blocks of the result's cells. -/
def D2 (C : Nat) (b : Nat) : Prop := C + 1 + 1 ≤ b ∧ b ≤ C + 1 + 1 + 1
theorem sets_but2 (W : World) (C : Nat) (u x : Value) : But (D2 C) W ((W.setCell ⟨C + 1 + 1, 0, none⟩ u).setCell ⟨C + 1 + 1 + 1, 0, none⟩ x) :=
  (But.set (show D2 C (C + 1 + 1) from ⟨Nat.le_refl _, by omega⟩)).trans (But.set (show D2 C (C + 1 + 1 + 1) from ⟨by omega, by omega⟩))
theorem box4 (w : World) (n : Int) (a : Option Addr) (l c : Nat) (f : Value) : ∃ W : World, W = (((w.alloc (.cells #[.int .i64 n, .slice a l c] 30)).alloc (.cells #[f] 82)).alloc (.cells #[.bool false] 4)).alloc (.cells #[.int .i64 0] 2) ∧
    Hid (Below w.heap.size w W) ∧ Hid (Bx W w.heap.size n a l c) ∧ Hid (W.cell? ⟨w.heap.size + 1, 0, none⟩ = some f) ∧ Hid (Rt2 W (w.heap.size + 1 + 1) (.bool false) 0) ∧ Hid (W.heap.size = w.heap.size + 1 + 1 + 1 + 1) := by
  obtain ⟨A, hA⟩ : ∃ A, A = w.alloc (.cells #[.int .i64 n, .slice a l c] 30) := ⟨_, rfl⟩
  obtain ⟨B, hB⟩ : ∃ B, B = A.alloc (.cells #[f] 82) := ⟨_, rfl⟩
  obtain ⟨D, hD⟩ : ∃ D, D = B.alloc (.cells #[.bool false] 4) := ⟨_, rfl⟩
  obtain ⟨E, hE⟩ : ∃ E, E = D.alloc (.cells #[.int .i64 0] 2) := ⟨_, rfl⟩
  have sA : A.heap.size = w.heap.size + 1 := by rw [hA]; simp
  have sB : B.heap.size = w.heap.size + 1 + 1 := by rw [hB]; simp [sA]
  have sD : D.heap.size = w.heap.size + 1 + 1 + 1 := by rw [hD]; simp [sB]
  have sE : E.heap.size = w.heap.size + 1 + 1 + 1 + 1 := by rw [hE]; simp [sD]
  have kA : Below w.heap.size w A := by rw [hA]; exact (alloc_keep _ _).1
  have kB : Below A.heap.size A B := by rw [hB]; exact (alloc_keep _ _).1
  have kD : Below B.heap.size B D := by rw [hD]; exact (alloc_keep _ _).1
  have kE : Below D.heap.size D E := by rw [hE]; exact (alloc_keep _ _).1
  have tB : Below B.heap.size B E := kD.trans (kE.mono kD.size)
  have tA : Below A.heap.size A E := kB.trans (tB.mono kB.size)
  refine ⟨E, by rw [hE, hD, hB, hA], Lib.hid (kA.trans (tA.mono kA.size)), Lib.hid ((show Bx A w.heap.size n a l c by rw [hA]; exact Bx.new _ _ _ _ _ _).keep tA), Lib.hid ((tB.cell (p := ⟨w.heap.size + 1, 0, none⟩) (by show w.heap.size + 1 < _; omega)).trans (by rw [hB]; exact World.cell?_alloc_at _ _ _ _ sA.symm)), Lib.hid ⟨?_, ?_, ?_, ?_⟩, Lib.hid sE⟩
  · exact (kE.cell (p := ⟨w.heap.size + 1 + 1, 0, none⟩) (by show w.heap.size + 1 + 1 < _; omega)).trans (by rw [hD]; exact World.cell?_alloc_at _ _ _ _ sB.symm)
  · rw [hE]; exact World.cell?_alloc_at _ _ _ _ sD.symm
  · exact (kE.frozen (p := ⟨w.heap.size + 1 + 1, 0, none⟩) (by show w.heap.size + 1 + 1 < _; omega)).trans (by rw [hD, ← sB]; simp)
  · rw [hE, ← sD]; simp

end Go.Proofs.Ytnoaaklkbfbdbaa
