/- Contracts of the functions of chapter 1 that read a list and write nothing. Conditions: those in the theorems. -/
import Derived.Test.YtpccocmiadpgiaaJn01
namespace Go.Proofs.Ytpccocmiadpgiaa
open Go.RowKit

def nth (xs : List Int) (k : Nat) : Int := xs.getD k 0

/-- The list xs lies at the slice value (a, len): no element, or cells in a row. -/
def At (w : World) (a : Option Addr) (len : Nat) (xs : List Int) : Prop :=
  len = xs.length ∧ (len = 0 ∨ ∃ b off, a = some ⟨b, off, none⟩ ∧ b < w.heap.size ∧ ∀ j, j < len → w.cell? ⟨b, off + j, none⟩ = some (.int .i64 (nth xs j)))

theorem At.of_row {w : World} {a : Option Addr} {len cap : Nat} {zs : List Int} (h : IsRow .i64 w a len cap zs) : At w a len (zs.take len) := by
  rcases h with ⟨rfl, rfl, rfl, rfl⟩ | ⟨x, rfl, hl, hm, hz, hcell, hwz⟩
  · exact ⟨rfl, .inl rfl⟩
  · refine ⟨by simp; omega, ?_⟩
    by_cases h0 : len = 0
    · exact .inl h0
    · right
      obtain ⟨b, off, spot⟩ := x
      have hc := hcell 0 (by omega)
      have hspot : spot = none := by simpa [Addr.add] using World.cell?_spot hc
      subst hspot
      refine ⟨b, off, rfl, ?_, fun j hj => ?_⟩
      · exact World.block_lt_of_cell? w _ hc
      · have hcj := hcell j (by omega)
        have e : nth (zs.take len) j = zs.getD j 0 := by
          unfold nth
          rw [List.getD_eq_getElem?_getD, List.getD_eq_getElem?_getD, List.getElem?_take, if_pos hj]
        rw [e]
        have e2 : (⟨b, off, none⟩ : Addr).add j = ⟨b, off + j, none⟩ := by unfold Addr.add; split <;> simp_all
        rw [e2] at hcj
        exact hcj

def mksTo (n : Int) (xs : List Int) : Nat → Bool
  | 0 => true
  | k + 1 => mksTo n xs k && mskB n (nth xs k)

theorem mksTo_false {n : Int} {xs : List Int} {k l : Nat} (hk : k ≤ l) (h : mksTo n xs k = false) : mksTo n xs l = false := by
  induction l with
  | zero => simp at hk; subst hk; exact h
  | succ l ih =>
    by_cases e : k = l + 1
    · subst e; exact h
    · rw [mksTo, ih (by omega)]; rfl

def SomeDrew (w : World) (P : Ending → Prop) (e : Ending) (w' : World) : Prop := P e ∧ ∃ q, w' = w.drewN q

def chkI (xs : List Int) (len : Nat) : Int := if 30 < len then 2 else if mksTo len xs len then 0 else 1

theorem chkI_big {xs : List Int} {len : Nat} (h : 30 < len) : chkI xs len = 2 := if_pos h
theorem chkI_ok {xs : List Int} {len : Nat} (h : ¬ 30 < len) (h2 : mksTo len xs len = true) : chkI xs len = 0 := by rw [chkI, if_neg h, if_pos h2]
theorem chkI_bad {xs : List Int} {len : Nat} (h : ¬ 30 < len) (h2 : mksTo len xs len = false) : chkI xs len = 1 := by rw [chkI, if_neg h, if_neg (by simp [h2])]

def imgTo (xs : List Int) (m : Int) : Nat → Int
  | 0 => 0
  | k + 1 => if bitB m k then bits .or .i64 (imgTo xs m k) (nth xs k) else imgTo xs m k

end Go.Proofs.Ytpccocmiadpgiaa
