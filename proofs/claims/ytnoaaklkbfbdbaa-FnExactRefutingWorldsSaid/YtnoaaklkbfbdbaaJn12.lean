/- 2 texts in one: Aw, ZoM. -/
import Derived.Test.YtnoaaklkbfbdbaaJn06
import Derived.Test.YtnoaaklkbfbdbaaJn07
/- The mask of all worlds of a frame: the program's contract. Conditions: those in the theorems. -/
namespace Go.Proofs.Ytnoaaklkbfbdbaa
open Go.RowKit

set_option maxHeartbeats 400000 in
theorem allWorlds_any (n : Int) (a : Option Addr) (len cap : Nat) (w : World) (hn : 0 ≤ n) (hn2 : n ≤ 30) :
    Calls Try.prog 54 #[.agg #[.int .i64 n, .slice a len cap]] w fun e w' => e = .returned (.int .i64 (full n)) ∧ Below w.heap.size w w' := by
  have HB := Lib.hid (boxF (w := w) n a len cap)
  go_enter Try.func54, Try.ntmps54
  go_wp2
  go_ret
  exact ⟨rfl, HB.out⟩

end Go.Proofs.Ytnoaaklkbfbdbaa

/- A result box of a model that may be made early, in a region that draws its order. Conditions: those in the theorems. -/
namespace Go.Proofs.Ytnoaaklkbfbdbaa
open Go.RowKit

def ZoM (w W : World) (b : Option Nat) : Prop := ∀ k, b = some k → BzM w k ∧ W.heap.size ≤ k
theorem ZoM.no (w W : World) : ZoM w W none := fun k h => by cases h
theorem ZoM.keep {w w' W : World} {b : Option Nat} (h : ZoM w W b) (hb : Below w.heap.size w w') : ZoM w' W b := fun k e => ⟨(h k e).1.keep hb, (h k e).2⟩
theorem ZoM.new {w w' W : World} (hW : W.heap.size ≤ w.heap.size) (hb : Below (w.alloc (.cells #[.int .i64 0, .slice none 0 0, .slice none 0 0] 65)).heap.size (w.alloc (.cells #[.int .i64 0, .slice none 0 0, .slice none 0 0] 65)) w') : ZoM w' W (some w.heap.size) := fun k e => by
  cases e
  exact ⟨(BzM.new w).keep hb, hW⟩
theorem three_set {w : World} {k b o : Nat} {u v v' v'' : Value} (h : w.cell? ⟨b, o, none⟩ = some u) (hk : b ≠ k) : (((w.setCell ⟨k, 0, none⟩ v).setCell ⟨k, 1, none⟩ v').setCell ⟨k, 2, none⟩ v'').cell? ⟨b, o, none⟩ = some u := by
  rw [World.cell?_setCell_other _ _ _ _ (fun e => hk (by cases e; rfl)), World.cell?_setCell_other _ _ _ _ (fun e => hk (by cases e; rfl)), World.cell?_setCell_other _ _ _ _ (fun e => hk (by cases e; rfl))]; exact h
/-- What the region leaves: the result in a box, and its lists owned. -/
def PrM (W w : World) (b lo hi : Nat) (n : Int) (a : Option Addr) (len c : Nat) (a' : Option Addr) (m c' : Nat) (xs ys : List Int) : Prop := Below W.heap.size W w ∧ Bm w b n a len c a' m c' ∧ InM w lo hi (.agg #[.int .i64 n, .slice a len c, .slice a' m c']) n xs ys
theorem PrM.late {W wB wC : World} {n : Int} {a a' : Option Addr} {len c m c' : Nat} {xs ys : List Int} (hW : W.heap.size ≤ wC.heap.size) (t : Below W.heap.size W wC) (ho : InM wC wB.heap.size wC.heap.size (.agg #[.int .i64 n, .slice a len c, .slice a' m c']) n xs ys) :
    PrM W (wC.alloc (.cells #[.int .i64 n, .slice a len c, .slice a' m c'] 65)) wC.heap.size wB.heap.size wC.heap.size n a len c a' m c' xs ys :=
  ⟨t.alloc hW _, Bm.new _ _ _ _ _ _ _ _ _, ho.below (alloc_keep _ _).1 (Nat.le_refl _)⟩
theorem PrM.early {W wC : World} {n : Int} {a a' : Option Addr} {len c m c' k lo : Nat} {xs ys : List Int} (hk : W.heap.size ≤ k) (hkl : k < lo) (t : Below W.heap.size W wC) (z : BzM wC k) (ho : InM wC lo wC.heap.size (.agg #[.int .i64 n, .slice a len c, .slice a' m c']) n xs ys) :
    PrM W (((wC.setCell ⟨k, 0, none⟩ (.int .i64 n)).setCell ⟨k, 1, none⟩ (.slice a len c)).setCell ⟨k, 2, none⟩ (.slice a' m c')) k lo wC.heap.size n a len c a' m c' xs ys := by
  obtain ⟨z1, z2, z3, z4, -, -, -⟩ := z.all
  have e3 : (wC.setCell ⟨k, 0, none⟩ (.int .i64 n)).cell? ⟨k, 1, none⟩ = some (.slice none 0 0) := by rw [cell_set' _ _ _ _ _ (by decide)]; exact z3
  have e4 : ((wC.setCell ⟨k, 0, none⟩ (.int .i64 n)).setCell ⟨k, 1, none⟩ (.slice a len c)).cell? ⟨k, 2, none⟩ = some (.slice none 0 0) := by rw [cell_set' _ _ _ _ _ (by decide), cell_set' _ _ _ _ _ (by decide)]; exact z4
  refine ⟨((t.setCell (by exact hk) _).setCell (by exact hk) _).setCell (by exact hk) _, ⟨by simpa [World.setCell] using z1, ?_, ?_, cell_set _ _ _ _ e4⟩, rfl, ?_, ?_, ho.2.2.2⟩
  · rw [cell_set' _ _ _ _ _ (by decide), cell_set' _ _ _ _ _ (by decide)]; exact cell_set _ _ _ _ z2
  · rw [cell_set' _ _ _ _ _ (by decide)]; exact cell_set _ _ _ _ e3
  · exact ((ho.2.1.setOut (.inl hkl)).setOut (.inl hkl)).setOut (.inl hkl)
  · exact ((ho.2.2.1.setOut (.inl hkl)).setOut (.inl hkl)).setOut (.inl hkl)

end Go.Proofs.Ytnoaaklkbfbdbaa
