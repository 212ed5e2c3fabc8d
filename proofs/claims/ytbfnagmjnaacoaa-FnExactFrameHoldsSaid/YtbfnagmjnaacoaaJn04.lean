/- 2 texts in one: Gen, Mk. -/
import Derived.Test.YtbfnagmjnaacoaaIsFr
/- Contracts of the reach of a frame and of GeneratedWorlds, of the model and of the program. Conditions: those in the theorems. -/
namespace Go.Proofs.Ytbfnagmjnaacoaa
open Go.RowKit

theorem bx1 {w w1 : World} {n : Int} {a : Option Addr} {len cap : Nat} (hb : Below (w.alloc (.cells #[.int .i64 n, .slice a len cap] 38)).heap.size (w.alloc (.cells #[.int .i64 n, .slice a len cap] 38)) w1) : Bx w1 w.heap.size n a len cap :=
  (Bx.new w n a len cap 38).keep hb

def gwV (n : Int) (xs : List Int) (m : Int) : Int := if cwV n xs m = 0 then rchV xs m else 0
theorem gw_ok {n m : Int} {xs : List Int} (h : cwV n xs m = 0) : Ending.returned (.tuple #[.int .i64 (rchV xs m), .int .i64 0]) = .returned (.tuple #[.int .i64 (gwV n xs m), .int .i64 (cwV n xs m)]) := by rw [gwV, if_pos h, h]
theorem gw_bad {n m c : Int} {xs : List Int} (h : ¬ cwV n xs m = 0) (hc : c = cwV n xs m) : Ending.returned (.tuple #[.int .i64 0, .int .i64 c]) = .returned (.tuple #[.int .i64 (gwV n xs m), .int .i64 (cwV n xs m)]) := by rw [gwV, if_neg h, hc]

end Go.Proofs.Ytbfnagmjnaacoaa

/- Contracts of what makes a frame from a list: l05Make of the model, frameOf of the program; the copy by slices.Clone; what asks for two frames. Conditions: those in the theorems. -/
namespace Go.Proofs.Ytbfnagmjnaacoaa
open Go.RowKit

/-- The cells of a result that is a frame, before it is stored. -/
def Bz (w : World) (b : Nat) : Prop := b < w.heap.size ∧ w.cell? ⟨b, 0, none⟩ = some (.int .i64 0) ∧ w.cell? ⟨b, 1, none⟩ = some (.slice none 0 0) ∧ w.frozen? ⟨b, 0, none⟩ = false ∧ w.frozen? ⟨b, 1, none⟩ = false
theorem Bz.below {w w' : World} {C b : Nat} (h : Bz w b) (hb : Below C w w') (hC : b < C) : Bz w' b :=
  ⟨Nat.lt_of_lt_of_le h.1 hb.size, (hb.cell (p := ⟨b, 0, none⟩) hC).trans h.2.1, (hb.cell (p := ⟨b, 1, none⟩) hC).trans h.2.2.1, (hb.frozen (p := ⟨b, 0, none⟩) hC).trans h.2.2.2.1, (hb.frozen (p := ⟨b, 1, none⟩) hC).trans h.2.2.2.2⟩
theorem Bz.keep {w w' : World} {b : Nat} (h : Bz w b) (hb : Below w.heap.size w w') : Bz w' b := h.below hb h.1
theorem Bz.new (w : World) : Bz (w.alloc (.cells #[.int .i64 0, .slice none 0 0] 38)) w.heap.size := ⟨by simp, World.cell?_alloc_at _ _ _ _ rfl, World.cell?_alloc_at _ _ _ _ rfl, by simp, by simp⟩
theorem OwnF.out2 {w : World} {B R o o' : Nat} {v z z' : Value} {n : Int} {xs : List Int} (h : OwnF w B v n xs) (hR : R < B) : OwnF ((w.setCell ⟨R, o, none⟩ z).setCell ⟨R, o', none⟩ z') B v n xs :=
  ⟨h.1, ((h.2.inn.setOut (.inl hR)).setOut (.inl hR)).1⟩

/-! A result box that may be made early, in a region that draws its order -/
def Zo (w W : World) (b : Option Nat) : Prop := ∀ k, b = some k → Bz w k ∧ W.heap.size ≤ k
theorem Zo.no (w W : World) : Zo w W none := fun k h => by cases h
theorem Zo.keep {w w' W : World} {b : Option Nat} (h : Zo w W b) (hb : Below w.heap.size w w') : Zo w' W b := fun k e => ⟨(h k e).1.keep hb, (h k e).2⟩
theorem Zo.new {w w' W : World} (hW : W.heap.size ≤ w.heap.size) (hb : Below (w.alloc (.cells #[.int .i64 0, .slice none 0 0] 38)).heap.size (w.alloc (.cells #[.int .i64 0, .slice none 0 0] 38)) w') : Zo w' W (some w.heap.size) := fun k e => by
  cases e
  exact ⟨(Bz.new w).keep hb, hW⟩
theorem below_al {C : Nat} {w w' : World} {o : Obj} (hC : C ≤ w.heap.size) (h : Below (w.alloc o).heap.size (w.alloc o) w') : Below C w w' := ((Below.refl C w).alloc hC o).trans (h.mono (by simp; omega))
theorem two_set {w : World} {k b o : Nat} {u v v' : Value} (h : w.cell? ⟨b, o, none⟩ = some u) (hk : b ≠ k) : ((w.setCell ⟨k, 0, none⟩ v).setCell ⟨k, 1, none⟩ v').cell? ⟨b, o, none⟩ = some u := by
  rw [World.cell?_setCell_other _ _ _ _ (fun e => hk (by cases e; rfl)), World.cell?_setCell_other _ _ _ _ (fun e => hk (by cases e; rfl))]; exact h
/-- What the region leaves: the result in a box, and its list owned. -/
def Pr (W w : World) (b lo hi : Nat) (n : Int) (a : Option Addr) (len c : Nat) (xs : List Int) : Prop := Below W.heap.size W w ∧ Bx w b n a len c ∧ InF w lo hi (.agg #[.int .i64 n, .slice a len c]) n xs
theorem Pr.late {W wB wC : World} {n : Int} {a : Option Addr} {len c : Nat} {xs : List Int} (hW : W.heap.size ≤ wC.heap.size) (t : Below W.heap.size W wC) (ho : InF wC wB.heap.size wC.heap.size (.agg #[.int .i64 n, .slice a len c]) n xs) :
    Pr W (wC.alloc (.cells #[.int .i64 n, .slice a len c] 38)) wC.heap.size wB.heap.size wC.heap.size n a len c xs :=
  ⟨t.alloc hW _, Bx.new _ _ _ _ _ _, ho.below (alloc_keep _ _).1 (Nat.le_refl _)⟩
theorem cell_set (w : World) (b o : Nat) {u : Value} (v : Value) (h : w.cell? ⟨b, o, none⟩ = some u) : (w.setCell ⟨b, o, none⟩ v).cell? ⟨b, o, none⟩ = some v := World.cell?_setCell_same _ _ _ h
theorem cell_set' (w : World) (b o o' : Nat) (v : Value) (h : o ≠ o') : (w.setCell ⟨b, o, none⟩ v).cell? ⟨b, o', none⟩ = w.cell? ⟨b, o', none⟩ := World.cell?_setCell_other _ _ _ _ (fun e => h (by cases e; rfl))
theorem Pr.early {W wC : World} {n : Int} {a : Option Addr} {len c k lo : Nat} {xs : List Int} (hk : W.heap.size ≤ k) (hkl : k < lo) (t : Below W.heap.size W wC) (z : Bz wC k) (ho : InF wC lo wC.heap.size (.agg #[.int .i64 n, .slice a len c]) n xs) :
    Pr W ((wC.setCell ⟨k, 0, none⟩ (.int .i64 n)).setCell ⟨k, 1, none⟩ (.slice a len c)) k lo wC.heap.size n a len c xs := by
  obtain ⟨z1, z2, z3, -, -⟩ := z
  have e3 : (wC.setCell ⟨k, 0, none⟩ (.int .i64 n)).cell? ⟨k, 1, none⟩ = some (.slice none 0 0) := by rw [cell_set' _ _ _ _ _ (by decide)]; exact z3
  refine ⟨(t.setCell (by exact hk) _).setCell (by exact hk) _, ⟨by simpa [World.setCell] using z1, ?_, cell_set _ _ _ _ e3⟩, rfl, ?_, ho.2.2⟩
  · rw [cell_set' _ _ _ _ _ (by decide)]; exact cell_set _ _ _ _ z2
  · exact (ho.2.1.setOut (.inl hkl)).setOut (.inl hkl)

end Go.Proofs.Ytbfnagmjnaacoaa
