/- Frames by value (a number of worlds and a list of masks): told by values, and the contracts of size, copy, compare, mark and held over them. Conditions: those in the theorems. -/
import Derived.Test.YtngllobakfnhiaaDoorLaw
import Derived.Test.YtngllobakfnhiaaDoorGst
import Derived.Test.YtngllobakfnhiaaDoorRefl
import Derived.Deep.RegionHeld3
import Derived.Deep.DeepCutAuto
namespace Go.Proofs.YtngllobakfnhiaaDoor
open Go.RowKit

/-- The slice that a frame's value holds. -/
def frU : Value → Value
  | .agg cs => cs.getD 1 (.slice none 0 0)
  | v => v
def InF (w : World) (lo hi : Nat) (v : Value) (n : Int) (xs : List Int) : Prop := v = .agg #[.int .i64 n, frU v] ∧ OwnIn w lo hi (frU v) xs ∧ lo ≤ hi
def OwnF (w : World) (B : Nat) (v : Value) (n : Int) (xs : List Int) : Prop := v = .agg #[.int .i64 n, frU v] ∧ Own w B (frU v) xs
def IsArr (w : World) (a : Option Addr) (len : Nat) (xs : List Int) : Prop := At w a len xs ∧ len ≤ maxLen
theorem OwnF.mk {w : World} {B : Nat} {u : Value} {n : Int} {xs : List Int} (h : Own w B u xs) : OwnF w B (.agg #[.int .i64 n, u]) n xs := ⟨rfl, h⟩
theorem OwnF.inF {w : World} {B : Nat} {v : Value} {n : Int} {xs : List Int} (h : OwnF w B v n xs) (hB : B ≤ w.heap.size) : InF w B w.heap.size v n xs := ⟨h.1, h.2.inn, hB⟩
theorem OwnF.mono {w : World} {B B' : Nat} {v : Value} {n : Int} {xs : List Int} (h : OwnF w B v n xs) (hB : B' ≤ B) : OwnF w B' v n xs := ⟨h.1, h.2.mono hB⟩
theorem OwnIn.hi {w : World} {lo hi : Nat} {v : Value} {xs : List Int} (h : OwnIn w lo hi v xs) : hi ≤ w.heap.size := h.2.1
theorem InF.hi {w : World} {lo hi : Nat} {v : Value} {n : Int} {xs : List Int} (h : InF w lo hi v n xs) : hi ≤ w.heap.size := h.2.1.2.1
theorem InF.below {w w' : World} {lo hi C : Nat} {v : Value} {n : Int} {xs : List Int} (h : InF w lo hi v n xs) (hb : Below C w w') (hC : hi ≤ C) : InF w' lo hi v n xs := ⟨h.1, h.2.1.below hb hC, h.2.2⟩
theorem OwnIn.blk {w : World} {lo hi : Nat} {v : Value} {xs : List Int} (h : OwnIn w lo hi v xs) : ∀ k, v.ownBlock = some k → lo ≤ k ∧ k < hi := h.2.2
theorem InF.blk {w : World} {lo hi : Nat} {v : Value} {n : Int} {xs : List Int} (h : InF w lo hi v n xs) : ∀ k, (frU v).ownBlock = some k → lo ≤ k ∧ k < hi := h.2.1.2.2
theorem OwnIn.oth {w w' : World} {lo hi lo' hi' : Nat} {v : Value} {b : Option Nat} {xs : List Int} (h : OwnIn w lo hi v xs) (hu : ∀ k, b = some k → lo' ≤ k ∧ k < hi') (hg : w.grownBy w' b) (hd : hi ≤ lo' ∨ hi' ≤ lo) : OwnIn w' lo hi v xs := by
  refine ⟨World.ownsRow.kept h.1 hg ?_, Nat.le_trans h.2.1 hg.size, h.2.2⟩
  cases hv : v.ownBlock with
  | none => exact .inl rfl
  | some k =>
    right
    intro e
    have h1 := h.2.2 k hv
    have h2 := hu k e.symm
    omega
theorem InF.oth {w w' : World} {lo hi lo' hi' : Nat} {v : Value} {b : Option Nat} {n : Int} {xs : List Int} (h : InF w lo hi v n xs) (hu : ∀ k, b = some k → lo' ≤ k ∧ k < hi') (hg : w.grownBy w' b) (hd : hi ≤ lo' ∨ hi' ≤ lo) : InF w' lo hi v n xs := ⟨h.1, h.2.1.oth hu hg hd, h.2.2⟩
theorem InF.at {w : World} {lo hi : Nat} {v : Value} {n : Int} {xs : List Int} (h : InF w lo hi v n xs) : ∃ a cap, v = .agg #[.int .i64 n, .slice a xs.length cap] ∧ At w a xs.length xs ∧ (a = none → cap = 0) := by
  obtain ⟨a, cap, e, hat, -, hn, -⟩ := h.2.1.1.at
  exact ⟨a, cap, by rw [h.1, e], hat, hn⟩

theorem bcell {W w1 : World} (hb : Below W.heap.size W w1) : (∀ b o, b < W.heap.size → w1.cell? ⟨b, o, none⟩ = W.cell? ⟨b, o, none⟩) ∧ (∀ b o, b < W.heap.size → w1.frozen? ⟨b, o, none⟩ = W.frozen? ⟨b, o, none⟩) :=
  ⟨fun b o h => hb.cell (p := ⟨b, o, none⟩) h, fun b o h => hb.frozen (p := ⟨b, o, none⟩) h⟩
theorem OwnIn.setOut {w : World} {lo hi R o : Nat} {v z : Value} {xs : List Int} (h : OwnIn w lo hi v xs) (hR : R < lo ∨ hi ≤ R) : OwnIn (w.setCell ⟨R, o, none⟩ z) lo hi v xs :=
  h.oth (b := some R) (lo' := R) (hi' := R + 1) (fun k hk => by cases hk; omega) ⟨rfl, rfl, rfl, by simp [World.setCell], fun k _ hne => Below.heap_setCell _ _ _ _ (fun e => hne (by rw [e]))⟩ (by omega)
theorem OwnIn.alloc {w : World} {lo hi : Nat} {v : Value} {xs : List Int} (h : OwnIn w lo hi v xs) (o : Obj) : OwnIn (w.alloc o) lo hi v xs := h.below ((Below.refl _ _).alloc (Nat.le_refl _) o) h.hi

theorem OwnF.form {w : World} {B : Nat} {v : Value} {n : Int} {xs : List Int} (h : OwnF w B v n xs) : ∃ a cap, v = .agg #[.int .i64 n, .slice a xs.length cap] := by
  obtain ⟨a, cap, e, -⟩ := h.2.at
  exact ⟨a, cap, by rw [h.1, e]⟩
/-- A frame lies in the block b. -/
def Bx (w : World) (b : Nat) (n : Int) (a : Option Addr) (len cap : Nat) : Prop := b < w.heap.size ∧ w.cell? ⟨b, 0, none⟩ = some (.int .i64 n) ∧ w.cell? ⟨b, 1, none⟩ = some (.slice a len cap)
theorem Bx.below {w w' : World} {C b : Nat} {n : Int} {a : Option Addr} {len cap : Nat} (h : Bx w b n a len cap) (hb : Below C w w') (hC : b < C) : Bx w' b n a len cap :=
  ⟨Nat.lt_of_lt_of_le h.1 hb.size, (hb.cell (p := ⟨b, 0, none⟩) hC).trans h.2.1, (hb.cell (p := ⟨b, 1, none⟩) hC).trans h.2.2⟩
theorem Bx.keep {w w' : World} {b : Nat} {n : Int} {a : Option Addr} {len cap : Nat} (h : Bx w b n a len cap) (hb : Below w.heap.size w w') : Bx w' b n a len cap := h.below hb h.1
theorem Bx.oth {w w' : World} {b lo' hi' : Nat} {r : Option Nat} {n : Int} {a : Option Addr} {len cap : Nat} (h : Bx w b n a len cap) (hu : ∀ k, r = some k → lo' ≤ k ∧ k < hi') (hg : w.grownBy w' r) (hd : b < lo' ∨ hi' ≤ b) : Bx w' b n a len cap :=
  have hne : some b ≠ r := fun e => by have := hu b e.symm; omega
  ⟨Nat.lt_of_lt_of_le h.1 hg.size, hg.cell h.2.1 hne, hg.cell h.2.2 hne⟩
theorem Bx.new (w : World) (n : Int) (a : Option Addr) (len cap : Nat) (T : TypeId) : Bx (w.alloc (.cells #[.int .i64 n, .slice a len cap] T)) w.heap.size n a len cap := ⟨by simp, World.cell?_alloc_at _ _ _ _ rfl, World.cell?_alloc_at _ _ _ _ rfl⟩
theorem At.drw {w : World} {a : Option Addr} {len : Nat} {xs : List Int} (h : At w a len xs) : At w.drew a len xs := h
theorem below_of_drew {C : Nat} {w w' : World} (h : Below C w.drew w') : Below C w w' := ⟨h.os, h.tape, h.output, h.size, h.block⟩

def szG (left : Int) (len : Nat) : Int := if left < len then -1 else left - len
theorem szG_no {left : Int} {len : Nat} (h : left < len) : szG left len = -1 := if_pos h
theorem szG_yes {left : Int} {len : Nat} (h : ¬ left < len) : szG left len = left - len := if_neg h

theorem szInts_any (a : Option Addr) (len cap : Nat) (left : Int) (w : World) (hl : len ≤ maxLen) (h0 : 0 ≤ left) (h1 : left ≤ 1048576) :
    Calls Tryd.prog 9 #[.slice a len cap, .int .i64 left] w fun e w' => e = .returned (.int .i64 (szG left len)) ∧ w = w' := by
  unfold maxLen at hl
  by_cases h : left < len
  all_goals
    go_enter Tryd.func9, Tryd.ntmps9
    go_wp2
    go_ret
    first | exact ⟨ret_int (szG_no h).symm, rfl⟩ | exact ⟨ret_int (szG_yes (by omega)).symm, rfl⟩

set_option maxHeartbeats 400000 in
theorem szFrame_any (n : Int) (a : Option Addr) (len cap : Nat) (left : Int) (w : World) (hl : len ≤ maxLen) (h0 : 0 ≤ left) (h1 : left ≤ 1048576) :
    Calls Tryd.prog 4 #[.agg #[.int .i64 n, .slice a len cap], .int .i64 left] w fun e w' => e = .returned (.int .i64 (szG left len)) ∧ Below w.heap.size w w' := by
  have hb : Below w.heap.size w (w.alloc (.cells #[.int .i64 n, .slice a len cap] 24)) := (Below.refl _ _).alloc (Nat.le_refl _) _
  obtain ⟨s, hs⟩ : ∃ s, s = szG left len := ⟨_, rfl⟩
  have HB := Lib.hid hb
  clear hb
  by_cases h : left < len
  all_goals
    have hs2 : s = -1 ∨ 0 ≤ s := by rw [hs]; unfold szG; split <;> omega
    go_enter Tryd.func4, Tryd.ntmps4
    go_wp2_with fail
    refine (szInts_any _ _ _ _ _ hl h0 h1).mono ?_
    rw [← hs]
    have HS := Lib.hid hs
    clear hs h
    rintro e w' ⟨rfl, rfl⟩
    rcases hs2 with rfl | hs2
    all_goals
      go_wp2
      go_ret
      exact ⟨ret_int HS.out, HB.out⟩

set_option maxHeartbeats 400000 in
theorem toFrame_any (n : Int) (xs : List Int) (a : Option Addr) (len cap : Nat) (w : World) (hl : len ≤ 1048576) (h : At w a len xs) :
    Calls Tryd.prog 6 #[.agg #[.int .i64 n, .slice a len cap]] w fun e w' => ∃ v, e = .returned v ∧ OwnF w' w.heap.size v n xs ∧ Below w.heap.size w w' := by
  have H := Lib.hid h
  clear h
  go_enter Tryd.func6, Tryd.ntmps6
  go_wp2_with fail
  refine (toInt64S_any xs _ _ _ _ hl (((H.out.keep ((Below.refl _ _).alloc (Nat.le_refl _) _) (Nat.le_refl _)).keep ((Below.refl _ _).alloc (Nat.le_refl _) _) (Nat.le_refl _)).keep ((Below.refl _ _).alloc (Nat.le_refl _) _) (Nat.le_refl _))).mono ?_
  rintro e w1 ⟨v1, rfl, ho, hb⟩
  have B1 := Lib.hid (((((Below.refl w.heap.size w).alloc (Nat.le_refl _) _).alloc (by simp) _).alloc (by simp; omega) _).trans (hb.mono (by simp; omega)))
  obtain ⟨hc, hf⟩ := bcell hb
  have hz : w.heap.size + 1 + 1 + 1 ≤ w1.heap.size := by have := hb.size; simp at this; omega
  have e1 : (((w.alloc (.cells #[.int .i64 n, .slice a len cap] 24)).alloc (.cells #[.int .i64 0, .slice none 0 0] 28)).alloc (.cells #[.int .i64 n, .slice none 0 0] 28)).heap.size = w.heap.size + 1 + 1 + 1 := by simp
  rw [e1] at ho
  have O1 := Lib.hid ho.inn
  obtain ⟨a1, cap1, rfl, -, -, -, -⟩ := ho.at
  have O2 := Lib.hid (((O1.out.setOut (R := w.heap.size + 1 + 1) (o := 1) (z := .slice a1 xs.length cap1) (.inl (by omega))).setOut (R := w.heap.size + 1) (o := 0) (z := .int .i64 n) (.inl (by omega))).setOut (R := w.heap.size + 1) (o := 1) (z := .slice a1 xs.length cap1) (.inl (by omega)))
  clear e1 ho hb O1
  go_wp2
  exact bodyPost_ret (v := .agg #[.int .i64 n, .slice a1 xs.length cap1]) (by simp [results, Tryd.results6, go_sem, hc]) rfl ⟨_, rfl, OwnF.mk (O2.out.1.mono (by omega)), ((B1.out.setCell (by show _ ≤ _; simp; omega) _).setCell (by show _ ≤ _; simp) _).setCell (by show _ ≤ _; simp) _⟩

set_option maxHeartbeats 400000 in
theorem eqF_in (n : Int) (xs : List Int) (v v' : Value) (lo hi lo' hi' : Nat) (w : World) (hl : xs.length ≤ 1048576) (h : InF w lo hi v n xs) (h' : InF w lo' hi' v' n xs) :
    Calls Tryd.prog 8 #[v, v'] w fun e w' => e = .returned (.bool true) ∧ Below w.heap.size w w' := by
  obtain ⟨a, cap, rfl, hat, -⟩ := h.at
  obtain ⟨a', cap', rfl, hat', -⟩ := h'.at
  have HB := Lib.hid (((Below.refl w.heap.size w).alloc (Nat.le_refl _) (.cells #[.int .i64 n, .slice a xs.length cap] 28)).alloc (by simp) (.cells #[.int .i64 n, .slice a' xs.length cap'] 28))
  have H := Lib.hid (hat.keep HB.out (Nat.le_refl _))
  have H' := Lib.hid (hat'.keep HB.out (Nat.le_refl _))
  clear hat hat' h h'
  go_enter Tryd.func8, Tryd.ntmps8
  go_wp2_with fail
  refine (eqInt64S_any xs _ _ _ _ _ _ hl H.out H'.out).mono ?_
  rintro e w1 ⟨rfl, q, rfl⟩
  go_wp2
  go_ret
  exact ⟨rfl, below_drewN HB.out q⟩

end Go.Proofs.YtngllobakfnhiaaDoor
