/- How a world grows: steps put together, a store, a draw. Conditions: those in the theorems. -/
import Derived.Test.YtngllobakfnhiaaDoorBase
import Derived.Below
namespace Go.Proofs.YtngllobakfnhiaaDoor
open Go.RowKit

theorem grown_trans {a b c : World} {r : Option Nat} (h : a.grownBy b r) (k : b.grownBy c r) : a.grownBy c r :=
  ⟨k.os.trans h.os, k.tape.trans h.tape, k.output.trans h.output, Nat.le_trans h.size k.size, fun i hi hne => (k.block i (Nat.lt_of_lt_of_le hi h.size) hne).trans (h.block i hi hne)⟩

theorem grown_set (w : World) (b o : Nat) (v : Value) : w.grownBy (w.setCell ⟨b, o, none⟩ v) (some b) :=
  ⟨rfl, rfl, rfl, by simp [World.setCell], fun k _ hne => Below.heap_setCell _ _ _ _ (fun e => hne (by rw [e]))⟩

theorem grown_drewN {a w : World} {r : Option Nat} (h : a.grownBy w r) (n : Nat) : a.grownBy (w.drewN n) r := ⟨h.os, h.tape, h.output, h.size, h.block⟩

theorem grown_below {a w w' : World} {B b : Nat} (h : w.grownBy w' (some b)) (hB : B ≤ b) (hw : Below B a w) (hs : B ≤ w.heap.size) : Below B a w' :=
  hw.grown h hs (fun k hk => by cases hk; exact hB)

theorem src_set {w : World} {b : Nat} {c : Array Value} {T : TypeId} (h : w.heap[b]? = some (.cells c T (0, 0))) (o : Nat) (v : Value) : (w.setCell ⟨b, o, none⟩ v).heap[b]? = some (.cells (c.setIfInBounds o v) T (0, 0)) := heap_setCell_same w b o c T v h

theorem alloc_keep (w : World) (o : Obj) : Below w.heap.size w (w.alloc o) ∧ w.heap.size + 1 ≤ (w.alloc o).heap.size := ⟨(Below.refl _ _).alloc (Nat.le_refl _) _, by simp⟩

end Go.Proofs.YtngllobakfnhiaaDoor
