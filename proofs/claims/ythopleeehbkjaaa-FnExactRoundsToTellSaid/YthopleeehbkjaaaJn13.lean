/- 2 texts in one: Prt2, PmA. -/
import Derived.Test.YthopleeehbkjaaaJn08
import Derived.Test.YthopleeehbkjaaaSum
/- Contracts of arranged of the program and of PartOfFrame of both. Conditions: those in the theorems. -/
namespace Go.Proofs.Ythopleeehbkjaaa
open Go.RowKit

/-- The row under way: entries below i are done. -/
def arS (xs ls : List Int) (i t : Nat) : Int := if t < i then arF xs ls t else 0
theorem arS_start (xs ls : List Int) (t : Nat) : arS xs ls 0 t = 0 := by unfold arS; rw [if_neg (by omega)]
theorem arS_all {xs ls : List Int} {n t : Nat} (h : t < n) : arS xs ls n t = arF xs ls t := by unfold arS; rw [if_pos h]
theorem arS_set {xs ls : List Int} {k : Nat} {z : Int} (hz : z = arF xs ls k) (t : Nat) : (if t = k then z else arS xs ls k t) = arS xs ls (k + 1) t := by
  unfold arS
  by_cases e : t = k
  · subst e; rw [if_pos rfl, if_pos (by omega), hz]
  · rw [if_neg e]
    by_cases h2 : t < k
    · rw [if_pos h2, if_pos (by omega)]
    · rw [if_neg h2, if_neg (by omega)]

def prL (n : Int) (xs : List Int) (m : Int) : List Int := if cwV n xs m = 0 then arV xs (memTo m.toNat xs.length) else []
theorem pr_ok {n m : Int} {xs : List Int} (h : cwV n xs m = 0) : prL n xs m = arV xs (memTo m.toNat xs.length) := if_pos h
theorem pr_bad {n m : Int} {xs : List Int} (h : ¬ cwV n xs m = 0) : prL n xs m = [] := if_neg h
theorem RF.bad' {w : World} {B : Nat} {c c' n : Int} {xs : List Int} (h : c = c') (hn : n = 0) (hx : xs = []) : RF w B n c' xs (.returned (.tuple #[.agg #[.int .i64 0, .slice none 0 0], .int .i64 c])) := by
  subst h hn hx
  exact ⟨_, rfl, OwnF.mk (World.ownsRow_nil _ _ _ _)⟩

end Go.Proofs.Ythopleeehbkjaaa

/- The arranged model of the program, with what serves it. Conditions: those in the theorems. -/
namespace Go.Proofs.Ythopleeehbkjaaa
open Go.RowKit

/-- A row under way: entries below k are done. -/
def upS (F : Nat → Int) (k t : Nat) : Int := if t < k then F t else 0
theorem upS_start (F : Nat → Int) (t : Nat) : upS F 0 t = 0 := by unfold upS; rw [if_neg (by omega)]
theorem upS_all {F : Nat → Int} {n t : Nat} (h : t < n) : upS F n t = F t := by unfold upS; rw [if_pos h]
theorem upS_set {F : Nat → Int} {k : Nat} {z : Int} (hz : z = F k) (t : Nat) : (if t = k then z else upS F k t) = upS F (k + 1) t := by
  unfold upS
  by_cases e : t = k
  · subst e; rw [if_pos rfl, if_pos (by omega), hz]
  · rw [if_neg e]
    by_cases h2 : t < k
    · rw [if_pos h2, if_pos (by omega)]
    · rw [if_neg h2, if_neg (by omega)]
def upTo (F : Nat → Int) : Nat → List Int
  | 0 => []
  | k + 1 => upTo F k ++ [F k]
theorem upTo_len (F : Nat → Int) (k : Nat) : (upTo F k).length = k := by induction k with | zero => rfl | succ k ih => simp [upTo, ih]
theorem upTo_tab (F : Nat → Int) (k : Nat) : upTo F k = tab k F := by
  induction k with
  | zero => rfl
  | succ k ih => rw [upTo, ih]; unfold tab; rw [List.range_succ, List.map_append]; rfl
theorem own_up {w : World} {B k : Nat} {v : Value} {F : Nat → Int} (h : w.ownsRow B 2 1 v k ((upTo F k).map (Value.int .i64))) : Own w B v (upTo F k) := by
  unfold Own; rw [upTo_len]; exact h

/-- The values of the arranged model. -/
def mvF (ys ls : List Int) (t : Nat) : Int := sqTo ls (nth ys t) ls.length
def mvV (ys ls : List Int) : List Int := tab ys.length (mvF ys ls)
theorem mvV_len (ys ls : List Int) : (mvV ys ls).length = ys.length := tab_len _ _

/-- The cells of a result that is a model, before it is stored. -/
def BzM (w : World) (b : Nat) : Prop := Bm w b 0 none 0 0 none 0 0 ∧ w.frozen? ⟨b, 0, none⟩ = false ∧ w.frozen? ⟨b, 1, none⟩ = false ∧ w.frozen? ⟨b, 2, none⟩ = false
theorem BzM.below {w w' : World} {C b : Nat} (h : BzM w b) (hb : Below C w w') (hC : b < C) : BzM w' b :=
  ⟨h.1.below hb hC, (hb.frozen (p := ⟨b, 0, none⟩) hC).trans h.2.1, (hb.frozen (p := ⟨b, 1, none⟩) hC).trans h.2.2.1, (hb.frozen (p := ⟨b, 2, none⟩) hC).trans h.2.2.2⟩
theorem BzM.keep {w w' : World} {b : Nat} (h : BzM w b) (hb : Below w.heap.size w w') : BzM w' b := h.below hb h.1.1
theorem BzM.new (w : World) : BzM (w.alloc (.cells #[.int .i64 0, .slice none 0 0, .slice none 0 0] 32)) w.heap.size := ⟨Bm.new _ _ _ _ _ _ _ _ _, by simp, by simp, by simp⟩
theorem BzM.all {w : World} {b : Nat} (h : BzM w b) : b < w.heap.size ∧ w.cell? ⟨b, 0, none⟩ = some (.int .i64 0) ∧ w.cell? ⟨b, 1, none⟩ = some (.slice none 0 0) ∧ w.cell? ⟨b, 2, none⟩ = some (.slice none 0 0) ∧ w.frozen? ⟨b, 0, none⟩ = false ∧ w.frozen? ⟨b, 1, none⟩ = false ∧ w.frozen? ⟨b, 2, none⟩ = false := ⟨h.1.1, h.1.2.1, h.1.2.2.1, h.1.2.2.2, h.2.1, h.2.2.1, h.2.2.2⟩
theorem boxM2 (w : World) (n : Int) (a : Option Addr) (l c : Nat) (b : Option Addr) (m d : Nat) : ∃ W : World, W = (w.alloc (.cells #[.int .i64 n, .slice a l c, .slice b m d] 32)).alloc (.cells #[.int .i64 0, .slice none 0 0, .slice none 0 0] 32) ∧
    Hid (Below w.heap.size w W) ∧ Hid (Bm W w.heap.size n a l c b m d) ∧ Hid (BzM W (w.heap.size + 1)) ∧ W.heap.size = w.heap.size + 1 + 1 := by
  refine ⟨_, rfl, Lib.hid (((Below.refl w.heap.size w).alloc (Nat.le_refl _) _).alloc (by simp) _), Lib.hid ((Bm.new w n a l c b m d _).keep (alloc_keep _ _).1), ?_, by simp⟩
  have := BzM.new (w.alloc (.cells #[.int .i64 n, .slice a l c, .slice b m d] 32))
  exact Lib.hid (by simpa using this)
theorem OwnM.out3 {w : World} {B R o o' o'' : Nat} {v z z' z'' : Value} {n : Int} {xs ys : List Int} (h : OwnM w B v n xs ys) (hR : R < B) : OwnM (((w.setCell ⟨R, o, none⟩ z).setCell ⟨R, o', none⟩ z').setCell ⟨R, o'', none⟩ z'') B v n xs ys :=
  ⟨h.1, (((h.2.1.inn.setOut (.inl hR)).setOut (.inl hR)).setOut (.inl hR)).1, (((h.2.2.1.inn.setOut (.inl hR)).setOut (.inl hR)).setOut (.inl hR)).1, h.2.2.2⟩

end Go.Proofs.Ythopleeehbkjaaa
