/- Contracts of the drawing functions of the model's chapter 1 that draw sizes, masks and relations. Conditions: those in the theorems. -/
import Derived.Test.YtnoaaklkbfbdbaaDraw
namespace Go.Proofs.Ytnoaaklkbfbdbaa
open Go.RowKit

theorem grown_alloc {a w : World} {r : Option Nat} (h : a.grownBy w r) (o : Obj) : a.grownBy (w.alloc o) r :=
  grown_trans h (World.grownBy_alloc w o r)
theorem Src.lt {w : World} {b : Nat} {a : Option Addr} {len cap : Nat} (h : Src w b a len cap) : b < w.heap.size := by
  obtain ⟨t, k, hb, _⟩ := h
  exact (Array.getElem?_eq_some_iff.1 hb).1
theorem Src.alloc {w : World} {b : Nat} {a : Option Addr} {len cap : Nat} (h : Src w b a len cap) (o : Obj) : Src (w.alloc o) b a len cap := h.other (World.grownBy_alloc w o none) (by intro e; cases e)
theorem Code.alloc {B : Nat} {w : World} {a : Option Addr} {len : Nat} (h : Code B w a len) (o : Obj) (hB : B ≤ w.heap.size) : Code B (w.alloc o) a len := h.below ((Below.refl B w).alloc hB o)
theorem Code.grown {B b : Nat} {w w' : World} {a : Option Addr} {len : Nat} (h : Code B w a len) (hg : w.grownBy w' (some b)) (hb : B ≤ b) (hB : B ≤ w.heap.size) : Code B w' a len := h.below (grown_below hg hb (Below.refl B w) hB)

theorem Code.of_row {w : World} {a : Option Addr} {len cap : Nat} {zs : List Int} (h : IsRow .u8 w a len cap zs) (hl : len ≤ 4096) : Code w.heap.size w a len := by
  refine ⟨by omega, ?_⟩
  rcases h with ⟨rfl, rfl, rfl, rfl⟩ | ⟨x, rfl, h1, hm, hz, hcell, hwz⟩
  · exact .inl rfl
  · by_cases h0 : len = 0
    · exact .inl h0
    · right
      obtain ⟨b, off, spot⟩ := x
      have hc := hcell 0 (by omega)
      have hspot : spot = none := by simpa [Addr.add] using World.cell?_spot hc
      subst hspot
      refine ⟨b, off, rfl, World.block_lt_of_cell? w _ hc, fun j hj => ?_⟩
      have hcj := hcell j (by omega)
      have e2 : (⟨b, off, none⟩ : Addr).add j = ⟨b, off + j, none⟩ := by unfold Addr.add; split <;> simp_all
      rw [e2] at hcj
      have hin : zs.getD j 0 ∈ zs := by
        rw [List.getD_eq_getElem?_getD, List.getElem?_eq_getElem (by omega)]
        exact List.getElem_mem _
      obtain ⟨g, hg⟩ : ∃ g, g = zs.getD j 0 := ⟨_, rfl⟩
      rw [← hg] at hcj hin
      have hw := hwz _ hin
      simp [Lit.wf, IntKind.min, IntKind.max, IntKind.signed, IntKind.bits] at hw
      obtain ⟨z, hz2⟩ := Int.eq_ofNat_of_zero_le hw.1
      exact ⟨z, by omega, by rw [hcj, hz2]⟩

end Go.Proofs.Ytnoaaklkbfbdbaa
