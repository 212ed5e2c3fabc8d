/- Contracts of the drawing functions of the model's chapter 1 that draw sizes, masks and relations. Conditions: those in the theorems. -/
import Derived.Test.YtlffpjjbcecmjaaDraw
namespace Go.Proofs.Ytlffpjjbcecmjaa
open Go.RowKit

theorem grown_alloc {a w : World} {r : Option Nat} (h : a.grownBy w r) (o : Obj) : a.grownBy (w.alloc o) r :=
  grown_trans h (World.grownBy_alloc w o r)
theorem Src.lt {w : World} {b : Nat} {a : Option Addr} {len cap : Nat} (h : Src w b a len cap) : b < w.heap.size := by
  obtain ⟨t, k, hb, _⟩ := h
  exact (Array.getElem?_eq_some_iff.1 hb).1
theorem Src.alloc {w : World} {b : Nat} {a : Option Addr} {len cap : Nat} (h : Src w b a len cap) (o : Obj) : Src (w.alloc o) b a len cap := h.other (World.grownBy_alloc w o none) (by intro e; cases e)
theorem Code.alloc {B : Nat} {w : World} {a : Option Addr} {len : Nat} (h : Code B w a len) (o : Obj) (hB : B ≤ w.heap.size) : Code B (w.alloc o) a len := h.below ((Below.refl B w).alloc hB o)
theorem Code.grown {B b : Nat} {w w' : World} {a : Option Addr} {len : Nat} (h : Code B w a len) (hg : w.grownBy w' (some b)) (hb : B ≤ b) (hB : B ≤ w.heap.size) : Code B w' a len := h.below (grown_below hg hb (Below.refl B w) hB)

end Go.Proofs.Ytlffpjjbcecmjaa
