/- What the program answers for the first model that refutes a formula. Conditions: the table of math/bits, and those in the theorems. -/
import Derived.RangeFuncBox
import Derived.Test.YtnoaaklkbfbdbaaDoorJn17
import Derived.Test.YtnoaaklkbfbdbaaDoorTzB
namespace Go.Proofs.YtnoaaklkbfbdbaaDoor
open Go.RowKit Go.Shelf

set_option maxHeartbeats 1000000 in
theorem leastMember_any (x : Nat) (h0 : x ≠ 0) (hx : x < 1073741824) (w : World) (hT : Db w) :
    Calls Tryd.prog 30 #[.int .i64 x] w fun e w' => e = .returned (.int .i64 ((Lib.ctz 64 x : Nat) : Int)) ∧ w = w' := by
  have TZ := Lib.hid (tz_any x (by omega) h0 w hT)
  have hw : IntKind.u64.wrap (x : Int) = (x : Int) := by simp [IntKind.wrap, IntKind.signed, IntKind.bits]; omega
  clear h0 hT
  go_enter Tryd.func30, Tryd.ntmps30
  go_wp2_with fail
  refine TZ.out.mono ?_
  rintro e w' ⟨rfl, rfl⟩
  go_wp2
  go_ret
  exact ⟨rfl, rfl⟩

/-- The three cells of a result. -/
structure Rs (W : World) (b : Nat) (v : Value) (i j : Int) : Prop where
  c0 : W.cell? ⟨b, 0, none⟩ = some v
  c1 : W.cell? ⟨b + 1, 0, none⟩ = some (.int .i64 i)
  c2 : W.cell? ⟨b + 1 + 1, 0, none⟩ = some (.int .i64 j)
  f0 : W.frozen? ⟨b, 0, none⟩ = false
  f1 : W.frozen? ⟨b + 1, 0, none⟩ = false
  f2 : W.frozen? ⟨b + 1 + 1, 0, none⟩ = false
theorem Rs.below {W W' : World} {b C : Nat} {v : Value} {i j : Int} (h : Rs W b v i j) (hb : Below C W W') (hC : b + 1 + 1 < C) : Rs W' b v i j :=
  ⟨(hb.cell (p := ⟨b, 0, none⟩) (by show b < C; omega)).trans h.c0, (hb.cell (p := ⟨b + 1, 0, none⟩) (by show b + 1 < C; omega)).trans h.c1, (hb.cell (p := ⟨b + 1 + 1, 0, none⟩) hC).trans h.c2,
   (hb.frozen (p := ⟨b, 0, none⟩) (by show b < C; omega)).trans h.f0, (hb.frozen (p := ⟨b + 1, 0, none⟩) (by show b + 1 < C; omega)).trans h.f1, (hb.frozen (p := ⟨b + 1 + 1, 0, none⟩) hC).trans h.f2⟩
theorem Rs.lt {W : World} {b : Nat} {v : Value} {i j : Int} (h : Rs W b v i j) : b + 1 + 1 < W.heap.size := World.block_lt_of_cell? _ _ h.c2
theorem Rs.keep {W W' : World} {b : Nat} {v : Value} {i j : Int} (h : Rs W b v i j) (hb : Below W.heap.size W W') : Rs W' b v i j := h.below hb h.lt
theorem Rs.putO {W : World} {b l : Nat} {v : Value} {i j : Int} {o o' : Obj} (h : Rs W b v i j) (hl : W.heap[l]? = some o) (ho : o.isCells = false) : Rs (W.putObj l o') b v i j :=
  have k := fun {p : Addr} {u : Value} (hc : W.cell? p = some u) => cell_kept hc (grownBy_putObj' W l o') (fun r e => by cases e; exact ⟨o, hl, ho⟩)
  have q := fun {p : Addr} {u : Value} (hc : W.cell? p = some u) => frozen_kept hc (grownBy_putObj' W l o') (fun r e => by cases e; exact ⟨o, hl, ho⟩)
  ⟨k h.c0, k h.c1, k h.c2, (q h.c0).trans h.f0, (q h.c1).trans h.f1, (q h.c2).trans h.f2⟩
theorem Rs.set {W : World} {b : Nat} {v u : Value} {i j i' j' : Int} (h : Rs W b v i j) : Rs (((W.setCell ⟨b, 0, none⟩ u).setCell ⟨b + 1, 0, none⟩ (.int .i64 i')).setCell ⟨b + 1 + 1, 0, none⟩ (.int .i64 j')) b u i' j' := by
  refine ⟨?_, ?_, ?_, ?_, ?_, ?_⟩
  · rw [World.cell?_setCell_other _ _ _ _ (by intro e; have e2 := congrArg Addr.block e; simp only at e2; omega), World.cell?_setCell_other _ _ _ _ (by intro e; have e2 := congrArg Addr.block e; simp only at e2; omega)]; exact cell_set _ _ _ _ h.c0
  · rw [World.cell?_setCell_other _ _ _ _ (by intro e; have e2 := congrArg Addr.block e; simp only at e2; omega)]; exact cell_set _ _ _ _ (by rw [World.cell?_setCell_other _ _ _ _ (by intro e; have e2 := congrArg Addr.block e; simp only at e2; omega)]; exact h.c1)
  · exact cell_set _ _ _ _ (by rw [World.cell?_setCell_other _ _ _ _ (by intro e; have e2 := congrArg Addr.block e; simp only at e2; omega), World.cell?_setCell_other _ _ _ _ (by intro e; have e2 := congrArg Addr.block e; simp only at e2; omega)]; exact h.c2)
  · rw [World.frozen?_setCell, World.frozen?_setCell, World.frozen?_setCell]; exact h.f0
  · rw [World.frozen?_setCell, World.frozen?_setCell, World.frozen?_setCell]; exact h.f1
  · rw [World.frozen?_setCell, World.frozen?_setCell, World.frozen?_setCell]; exact h.f2
theorem boxFR (w : World) (n : Int) (a : Option Addr) (l c : Nat) (a' : Option Addr) (l' c' : Nat) : ∃ W : World, W = ((((w.alloc (.cells #[.int .i64 n, .slice a l c] 30)).alloc (.cells #[.slice a' l' c'] 32)).alloc (.cells #[.slice none 0 0] 22)).alloc (.cells #[.int .i64 0] 2)).alloc (.cells #[.int .i64 0] 2) ∧
    Hid (Below w.heap.size w W) ∧ Hid (Bx W w.heap.size n a l c) ∧ Hid (W.cell? ⟨w.heap.size + 1, 0, none⟩ = some (.slice a' l' c')) ∧ Hid (Rs W (w.heap.size + 1 + 1) (.slice none 0 0) 0 0) ∧ Hid (W.heap.size = w.heap.size + 1 + 1 + 1 + 1 + 1) := by
  obtain ⟨A, hA⟩ : ∃ A, A = w.alloc (.cells #[.int .i64 n, .slice a l c] 30) := ⟨_, rfl⟩
  obtain ⟨B, hB⟩ : ∃ B, B = A.alloc (.cells #[.slice a' l' c'] 32) := ⟨_, rfl⟩
  obtain ⟨C, hC⟩ : ∃ C, C = B.alloc (.cells #[.slice none 0 0] 22) := ⟨_, rfl⟩
  obtain ⟨D, hD⟩ : ∃ D, D = C.alloc (.cells #[.int .i64 0] 2) := ⟨_, rfl⟩
  obtain ⟨E, hE⟩ : ∃ E, E = D.alloc (.cells #[.int .i64 0] 2) := ⟨_, rfl⟩
  have sA : A.heap.size = w.heap.size + 1 := by rw [hA]; simp
  have sB : B.heap.size = w.heap.size + 1 + 1 := by rw [hB]; simp [sA]
  have sC : C.heap.size = w.heap.size + 1 + 1 + 1 := by rw [hC]; simp [sB]
  have sD : D.heap.size = w.heap.size + 1 + 1 + 1 + 1 := by rw [hD]; simp [sC]
  have sE : E.heap.size = w.heap.size + 1 + 1 + 1 + 1 + 1 := by rw [hE]; simp [sD]
  have kA : Below w.heap.size w A := by rw [hA]; exact (alloc_keep _ _).1
  have kB : Below A.heap.size A B := by rw [hB]; exact (alloc_keep _ _).1
  have kC : Below B.heap.size B C := by rw [hC]; exact (alloc_keep _ _).1
  have kD : Below C.heap.size C D := by rw [hD]; exact (alloc_keep _ _).1
  have kE : Below D.heap.size D E := by rw [hE]; exact (alloc_keep _ _).1
  have tC : Below C.heap.size C E := kD.trans (kE.mono kD.size)
  have tB : Below B.heap.size B E := kC.trans (tC.mono kC.size)
  have tA : Below A.heap.size A E := kB.trans (tB.mono kB.size)
  refine ⟨E, by rw [hE, hD, hC, hB, hA], Lib.hid (kA.trans (tA.mono kA.size)), Lib.hid ((show Bx A w.heap.size n a l c by rw [hA]; exact Bx.new _ _ _ _ _ _).keep tA), Lib.hid ((tB.cell (p := ⟨w.heap.size + 1, 0, none⟩) (by show w.heap.size + 1 < _; omega)).trans (by rw [hB]; exact World.cell?_alloc_at _ _ _ _ sA.symm)), Lib.hid ⟨?_, ?_, ?_, ?_, ?_, ?_⟩, Lib.hid sE⟩
  · exact (tC.cell (p := ⟨w.heap.size + 1 + 1, 0, none⟩) (by show w.heap.size + 1 + 1 < _; omega)).trans (by rw [hC]; exact World.cell?_alloc_at _ _ _ _ sB.symm)
  · exact (kE.cell (p := ⟨w.heap.size + 1 + 1 + 1, 0, none⟩) (by show w.heap.size + 1 + 1 + 1 < _; omega)).trans (by rw [hD]; exact World.cell?_alloc_at _ _ _ _ sC.symm)
  · rw [hE]; exact World.cell?_alloc_at _ _ _ _ sD.symm
  · exact (tC.frozen (p := ⟨w.heap.size + 1 + 1, 0, none⟩) (by show w.heap.size + 1 + 1 < _; omega)).trans (by rw [hC, ← sB]; simp)
  · exact (kE.frozen (p := ⟨w.heap.size + 1 + 1 + 1, 0, none⟩) (by show w.heap.size + 1 + 1 + 1 < _; omega)).trans (by rw [hD, ← sC]; simp)
  · rw [hE, ← sD]; simp
theorem own_putO {W : World} {B l : Nat} {v : Value} {xs : List Int} {o o' : Obj} (h : Own W B v xs) (hl : W.heap[l]? = some o) (ho : o.isCells = false) : Own (W.putObj l o') B v xs := ownsRow_putObj h o' hl ho

theorem results_rs {fn : Func} (hres : fn.results = #[.cell 4 22, .cell 5 2, .cell 6 2]) {tmps : Array Value} {b : Nat} {w : World} {v : Value} {i j : Int} (h : Rs w b v i j)
    (e4 : tmps[4]?.getD undef = .pointer (some ⟨b, 0, none⟩)) (e5 : tmps[5]?.getD undef = .pointer (some ⟨b + 1, 0, none⟩)) (e6 : tmps[6]?.getD undef = .pointer (some ⟨b + 1 + 1, 0, none⟩)) :
    (results fn tmps).run Tryd.prog w = .ok (.tuple #[v, .int .i64 i, .int .i64 j]) w := by
  obtain ⟨c0, c1, c2, -, -, -⟩ := h
  simp only [results, hres]
  go_simp

end Go.Proofs.YtnoaaklkbfbdbaaDoor
