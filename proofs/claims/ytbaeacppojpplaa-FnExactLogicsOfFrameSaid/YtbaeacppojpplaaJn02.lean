/- 2 texts in one: Mk, Sum. -/
import Derived.Test.YtbaeacppojpplaaJn01
/- Contracts of what makes a frame from a list: l05Make of the model, frameOf of the program; the copy by slices.Clone; what asks for two frames. Conditions: those in the theorems. -/
namespace Go.Proofs.Ytbaeacppojpplaa
open Go.RowKit

/-- The cells of a result that is a frame, before it is stored. -/
def Bz (w : World) (b : Nat) : Prop := b < w.heap.size ∧ w.cell? ⟨b, 0, none⟩ = some (.int .i64 0) ∧ w.cell? ⟨b, 1, none⟩ = some (.slice none 0 0) ∧ w.frozen? ⟨b, 0, none⟩ = false ∧ w.frozen? ⟨b, 1, none⟩ = false
theorem Bz.below {w w' : World} {C b : Nat} (h : Bz w b) (hb : Below C w w') (hC : b < C) : Bz w' b :=
  ⟨Nat.lt_of_lt_of_le h.1 hb.size, (hb.cell (p := ⟨b, 0, none⟩) hC).trans h.2.1, (hb.cell (p := ⟨b, 1, none⟩) hC).trans h.2.2.1, (hb.frozen (p := ⟨b, 0, none⟩) hC).trans h.2.2.2.1, (hb.frozen (p := ⟨b, 1, none⟩) hC).trans h.2.2.2.2⟩
theorem Bz.keep {w w' : World} {b : Nat} (h : Bz w b) (hb : Below w.heap.size w w') : Bz w' b := h.below hb h.1
theorem Bz.new (w : World) : Bz (w.alloc (.cells #[.int .i64 0, .slice none 0 0] 31)) w.heap.size := ⟨by simp, World.cell?_alloc_at _ _ _ _ rfl, World.cell?_alloc_at _ _ _ _ rfl, by simp, by simp⟩
theorem OwnF.out2 {w : World} {B R o o' : Nat} {v z z' : Value} {n : Int} {xs : List Int} (h : OwnF w B v n xs) (hR : R < B) : OwnF ((w.setCell ⟨R, o, none⟩ z).setCell ⟨R, o', none⟩ z') B v n xs :=
  ⟨h.1, ((h.2.inn.setOut (.inl hR)).setOut (.inl hR)).1⟩

/-! A result box that may be made early, in a region that draws its order -/
def Zo (w W : World) (b : Option Nat) : Prop := ∀ k, b = some k → Bz w k ∧ W.heap.size ≤ k
theorem Zo.no (w W : World) : Zo w W none := fun k h => by cases h
theorem Zo.keep {w w' W : World} {b : Option Nat} (h : Zo w W b) (hb : Below w.heap.size w w') : Zo w' W b := fun k e => ⟨(h k e).1.keep hb, (h k e).2⟩
theorem Zo.new {w w' W : World} (hW : W.heap.size ≤ w.heap.size) (hb : Below (w.alloc (.cells #[.int .i64 0, .slice none 0 0] 31)).heap.size (w.alloc (.cells #[.int .i64 0, .slice none 0 0] 31)) w') : Zo w' W (some w.heap.size) := fun k e => by
  cases e
  exact ⟨(Bz.new w).keep hb, hW⟩
theorem below_al {C : Nat} {w w' : World} {o : Obj} (hC : C ≤ w.heap.size) (h : Below (w.alloc o).heap.size (w.alloc o) w') : Below C w w' := ((Below.refl C w).alloc hC o).trans (h.mono (by simp; omega))
theorem two_set {w : World} {k b o : Nat} {u v v' : Value} (h : w.cell? ⟨b, o, none⟩ = some u) (hk : b ≠ k) : ((w.setCell ⟨k, 0, none⟩ v).setCell ⟨k, 1, none⟩ v').cell? ⟨b, o, none⟩ = some u := by
  rw [World.cell?_setCell_other _ _ _ _ (fun e => hk (by cases e; rfl)), World.cell?_setCell_other _ _ _ _ (fun e => hk (by cases e; rfl))]; exact h
/-- What the region leaves: the result in a box, and its list owned. -/
def Pr (W w : World) (b lo hi : Nat) (n : Int) (a : Option Addr) (len c : Nat) (xs : List Int) : Prop := Below W.heap.size W w ∧ Bx w b n a len c ∧ InF w lo hi (.agg #[.int .i64 n, .slice a len c]) n xs
theorem Pr.late {W wB wC : World} {n : Int} {a : Option Addr} {len c : Nat} {xs : List Int} (hW : W.heap.size ≤ wC.heap.size) (t : Below W.heap.size W wC) (ho : InF wC wB.heap.size wC.heap.size (.agg #[.int .i64 n, .slice a len c]) n xs) :
    Pr W (wC.alloc (.cells #[.int .i64 n, .slice a len c] 31)) wC.heap.size wB.heap.size wC.heap.size n a len c xs :=
  ⟨t.alloc hW _, Bx.new _ _ _ _ _ _, ho.below (alloc_keep _ _).1 (Nat.le_refl _)⟩
theorem cell_set (w : World) (b o : Nat) {u : Value} (v : Value) (h : w.cell? ⟨b, o, none⟩ = some u) : (w.setCell ⟨b, o, none⟩ v).cell? ⟨b, o, none⟩ = some v := World.cell?_setCell_same _ _ _ h
theorem cell_set' (w : World) (b o o' : Nat) (v : Value) (h : o ≠ o') : (w.setCell ⟨b, o, none⟩ v).cell? ⟨b, o', none⟩ = w.cell? ⟨b, o', none⟩ := World.cell?_setCell_other _ _ _ _ (fun e => h (by cases e; rfl))
theorem Pr.early {W wC : World} {n : Int} {a : Option Addr} {len c k lo : Nat} {xs : List Int} (hk : W.heap.size ≤ k) (hkl : k < lo) (t : Below W.heap.size W wC) (z : Bz wC k) (ho : InF wC lo wC.heap.size (.agg #[.int .i64 n, .slice a len c]) n xs) :
    Pr W ((wC.setCell ⟨k, 0, none⟩ (.int .i64 n)).setCell ⟨k, 1, none⟩ (.slice a len c)) k lo wC.heap.size n a len c xs := by
  obtain ⟨z1, z2, z3, -, -⟩ := z
  have e3 : (wC.setCell ⟨k, 0, none⟩ (.int .i64 n)).cell? ⟨k, 1, none⟩ = some (.slice none 0 0) := by rw [cell_set' _ _ _ _ _ (by decide)]; exact z3
  refine ⟨(t.setCell (by exact hk) _).setCell (by exact hk) _, ⟨by simpa [World.setCell] using z1, ?_, cell_set _ _ _ _ e3⟩, rfl, ?_, ho.2.2⟩
  · rw [cell_set' _ _ _ _ _ (by decide)]; exact cell_set _ _ _ _ z2
  · exact (ho.2.1.setOut (.inl hkl)).setOut (.inl hkl)

end Go.Proofs.Ytbaeacppojpplaa

/- Contracts of SumFrames, of the model and of the program. Conditions: those in the theorems. -/
namespace Go.Proofs.Ytbaeacppojpplaa
open Go.RowKit

theorem boxFF (w : World) (n0 n1 : Int) (a0 a1 : Option Addr) (l0 c0 l1 c1 : Nat) : ∃ W : World, W = ((w.alloc (.cells #[.int .i64 n0, .slice a0 l0 c0] 31)).alloc (.cells #[.int .i64 n1, .slice a1 l1 c1] 31)).alloc (.cells #[.int .i64 0, .slice none 0 0] 31) ∧
    Hid (Below w.heap.size w W) ∧ Hid (Bx W w.heap.size n0 a0 l0 c0) ∧ Hid (Bx W (w.heap.size + 1) n1 a1 l1 c1) ∧ Hid (Bz W (w.heap.size + 1 + 1)) ∧ W.heap.size = w.heap.size + 1 + 1 + 1 := by
  refine ⟨_, rfl, Lib.hid ((((Below.refl w.heap.size w).alloc (Nat.le_refl _) _).alloc (by simp) _).alloc (by simp; omega) _), Lib.hid (((Bx.new w n0 a0 l0 c0 _).keep (alloc_keep _ _).1).keep (alloc_keep _ _).1), ?_, ?_, by simp⟩
  · have := (Bx.new (w.alloc (.cells #[.int .i64 n0, .slice a0 l0 c0] 31)) n1 a1 l1 c1 31).keep (alloc_keep _ (.cells #[.int .i64 0, .slice none 0 0] 31)).1
    exact Lib.hid (by simpa using this)
  · have := Bz.new ((w.alloc (.cells #[.int .i64 n0, .slice a0 l0 c0] 31)).alloc (.cells #[.int .i64 n1, .slice a1 l1 c1] 31))
    exact Lib.hid (by simpa using this)

def smTo (xs ys : List Int) (k : Int) : Nat → List Int
  | 0 => xs
  | j + 1 => smTo xs ys k j ++ [wrap64 (nth ys j * 2 ^ k.toNat)]
theorem smTo_len (xs ys : List Int) (k : Int) (j : Nat) : (smTo xs ys k j).length = xs.length + j := by
  induction j with
  | zero => rfl
  | succ j ih => simp [smTo, ih]; omega

theorem shl_spell {n : Int} (h0 : 0 ≤ n) (h1 : n ≤ 8) (y : Int) : IntKind.i64.wrap (y * 2 ^ min (IntKind.u64.wrap n).toNat 64) = wrap64 (y * 2 ^ n.toNat) := by
  rw [IntWalk.u64_in n (by omega), Nat.min_eq_left (by omega)]
  unfold wrap64
  exact IntKind.wrap_i64 _
theorem own_sm {w : World} {B k : Nat} {v : Value} {xs ys : List Int} {n : Int} (h : w.ownsRow B 2 1 v (xs.length + k) ((smTo xs ys n k).map (Value.int .i64))) : Own w B v (smTo xs ys n k) := by
  unfold Own; rw [smTo_len]; exact h
theorem sm_next {w : World} {B m : Nat} {v : Value} {xs ys : List Int} {n z : Int} {k : Nat} (hz : z = wrap64 (nth ys k * 2 ^ n.toNat)) (h : w.ownsRow B 2 1 v (m + k + 1) ((smTo xs ys n k).map (Value.int .i64) ++ [.int .i64 z])) :
    w.ownsRow B 2 1 v (m + (k + 1)) ((smTo xs ys n (k + 1)).map (Value.int .i64)) := by
  rw [smTo, List.map_append, ← hz, ← Nat.add_assoc]; exact h

def smC (n0 : Int) (x0 : List Int) (n1 : Int) (x1 : List Int) : Int := if frB n0 x0 && frB n1 x1 then (if 8 < n0 + n1 then 3 else 0) else 1
def smL (n0 : Int) (x0 : List Int) (n1 : Int) (x1 : List Int) : List Int := if smC n0 x0 n1 x1 = 0 then smTo x0 x1 n0 x1.length else []
theorem smC_1 {n0 n1 : Int} {x0 x1 : List Int} (h : (frB n0 x0 && frB n1 x1) = false) : smC n0 x0 n1 x1 = 1 := by rw [smC, h]; rfl
theorem smC_3 {n0 n1 : Int} {x0 x1 : List Int} (h : (frB n0 x0 && frB n1 x1) = true) (h2 : 8 < n0 + n1) : smC n0 x0 n1 x1 = 3 := by rw [smC, h, if_pos rfl, if_pos h2]
theorem smC_0 {n0 n1 : Int} {x0 x1 : List Int} (h : (frB n0 x0 && frB n1 x1) = true) (h2 : ¬ 8 < n0 + n1) : smC n0 x0 n1 x1 = 0 := by rw [smC, h, if_pos rfl, if_neg h2]
/-- A result that is a frame and a code. -/
def RF (w : World) (B : Nat) (n c : Int) (xs : List Int) (e : Ending) : Prop := ∃ v, e = .returned (.tuple #[v, .int .i64 c]) ∧ OwnF w B v n xs
theorem RF.bad {w : World} {B : Nat} {c c' n : Int} {xs : List Int} (h : c = c') (hn : n = 0) (hx : xs = []) : RF w B n c xs (.returned (.tuple #[.agg #[.int .i64 0, .slice none 0 0], .int .i64 c'])) := by
  subst h hn hx
  exact ⟨_, rfl, OwnF.mk (World.ownsRow_nil _ _ _ _)⟩
theorem RF.good {w : World} {B B' : Nat} {c n n' : Int} {v : Value} {xs xs' : List Int} (h : c = 0) (hn : n = n') (hx : xs = xs') (ho : OwnF w B' v n' xs') (hB : B ≤ B') : RF w B n c xs (.returned (.tuple #[v, .int .i64 0])) := by
  subst h hn hx
  exact ⟨_, rfl, ho.mono hB⟩

theorem cells4 (W : World) (n0 n1 : Int) (a0 a1 : Option Addr) (l0 c0 l1 c1 : Nat) : ∃ W' : World, W' = W.alloc (.cells #[.int .i64 n0, .slice a0 l0 c0, .int .i64 n1, .slice a1 l1 c1] 31) ∧ Below W.heap.size W W' ∧ W.heap.size < W'.heap.size ∧
    W'.cell? ⟨W.heap.size, 0, none⟩ = some (.int .i64 n0) ∧ W'.cell? ⟨W.heap.size, 1, none⟩ = some (.slice a0 l0 c0) ∧ W'.cell? ⟨W.heap.size, 2, none⟩ = some (.int .i64 n1) ∧ W'.cell? ⟨W.heap.size, 3, none⟩ = some (.slice a1 l1 c1) :=
  ⟨_, rfl, (alloc_keep _ _).1, by simp, World.cell?_alloc_at _ _ _ _ rfl, World.cell?_alloc_at _ _ _ _ rfl, World.cell?_alloc_at _ _ _ _ rfl, World.cell?_alloc_at _ _ _ _ rfl⟩

end Go.Proofs.Ytbaeacppojpplaa
