/- Lists of nodes that a call owns, told by values, and the contracts of size, copy, compare, mark and held over them. Conditions: those in the theorems. -/
import Derived.Deep.Slices
import Derived.Deep.Fields
import Derived.ChangeSame
import Derived.Test.YtbaeacppojpplaaNodeS
namespace Go.Proofs.Ytbaeacppojpplaa
open Go.RowKit

theorem below_drewN' {B : Nat} {a w : World} (h : Below B a w) (n : Nat) : Below B a (w.drewN n) := ⟨h.os, h.tape, h.output, h.size, h.block⟩

/-- A list of nodes that came in. -/
def IsNodes (w : World) (a : Option Addr) (len : Nat) (xs : List Nd) : Prop := AtN w a len xs ∧ len ≤ maxLen

section
open Go.ChangeShapes Go.WideShapes Go.Deep
variable {H : Type} {enc : TypeId × Value → H} {P : Program} {w : World} {base : Nat} {spare : Nat → Bool} {held : Bool}
theorem open_nodes {t e : TypeId} {f0 f1 : Field} {fuel : Nat} {cs : List Value} {x : DataW H × List MemPlace} (ht : P.underlying t = some (.slice e)) (he : P.underlying e = some (.struct #[f0, f1]))
    (h0 : P.underlying f0.type = some (.int .i64)) (h1 : P.underlying f1.type = some (.int .i64)) (hone : oneCellFields P #[f0, f1] = true) (hC : P.cellsOf e = 2) (h : DataW.trod enc P w base spare held fuel t cs = some x) :
    ∃ (a : Option Addr) (len cap : Nat) (xs : List Nd), cs = [.slice a len cap] ∧ IsNodes w a len xs := by
  rcases open_slice ht h with h0 | ⟨a, len, cap, m, n, D, Pl, hcs, hb, hl, hm, hmm, hx, hi⟩
  · exact ⟨none, 0, 0, [], h0.1, ⟨rfl, .inl rfl⟩, by unfold maxLen; omega⟩
  have hlm : len ≤ m := by rw [hmm]; split <;> omega
  have hcell : ∀ i, i < len → ∃ k s : Int, w.cell? (a.add (i * 2)) = some (.int .i64 k) ∧ w.cell? (a.add (i * 2 + 1)) = some (.int .i64 s) := by
    intro i hil
    obtain ⟨cs', hc, ht'⟩ := hi i (by omega)
    rw [hC] at hc
    obtain ⟨ys, n', hn', hy, hlen, hyl, hf⟩ := DataW.trod_struct he ht'
    obtain ⟨_, hcl, hat⟩ := World.cells?_some hc
    obtain ⟨o0, k0⟩ := hone_of hone 0 f0 rfl
    obtain ⟨o1, k1⟩ := hone_of hone 1 f1 rfl
    have g0 := hf 0 f0 rfl
    have g1 := hf 1 f1 rfl
    rw [o0, k0] at g0
    rw [o1, k1] at g1
    match cs', hcl with
    | [c0, c1], _ =>
      have a0 := hat 0 (by omega)
      have a1 := hat 1 (by omega)
      simp only [List.drop, List.take] at g0 g1
      obtain ⟨y0, hy0⟩ : ∃ y, ys[0]? = some y := ⟨_, List.getElem?_eq_getElem (by rw [hyl]; simp)⟩
      obtain ⟨y1, hy1⟩ : ∃ y, ys[1]? = some y := ⟨_, List.getElem?_eq_getElem (by rw [hyl]; simp)⟩
      rw [hy0] at g0
      rw [hy1] at g1
      obtain ⟨k, hk, -⟩ := DataW.trod_int h0 g0
      obtain ⟨s, hs, -⟩ := DataW.trod_int h1 g1
      simp only [List.cons.injEq, and_true] at hk hs
      refine ⟨k, s, ?_, ?_⟩
      · rw [Go.Deep.add_add, Nat.add_zero] at a0; rw [← hk]; exact a0
      · rw [Go.Deep.add_add] at a1; rw [← hs]; exact a1
  have hx : ∃ xs : List Nd, xs.length = len ∧ ∀ i, i < len → w.cell? (a.add (i * 2)) = some (.int .i64 (kd xs i)) ∧ w.cell? (a.add (i * 2 + 1)) = some (.int .i64 (sy xs i)) := by
    clear hx hi hcs hb hl hm hmm hlm
    induction len with
    | zero => exact ⟨[], rfl, fun i h => absurd h (by omega)⟩
    | succ len ih =>
      obtain ⟨xs, hxl, hxs⟩ := ih (fun i hi => hcell i (by omega))
      obtain ⟨k, s, hk, hs⟩ := hcell len (by omega)
      refine ⟨xs ++ [(k, s)], by simp [hxl], fun i hi => ?_⟩
      by_cases e : i = len
      · subst e
        have e1 : kd (xs ++ [(k, s)]) i = k := by unfold kd; simp [List.getD, ← hxl]
        have e2 : sy (xs ++ [(k, s)]) i = s := by unfold sy; simp [List.getD, ← hxl]
        rw [e1, e2]
        exact ⟨hk, hs⟩
      · have hil : i < xs.length := by omega
        have e1 : kd (xs ++ [(k, s)]) i = kd xs i := by unfold kd; simp [List.getD, List.getElem?_append_left hil]
        have e2 : sy (xs ++ [(k, s)]) i = sy xs i := by unfold sy; simp [List.getD, List.getElem?_append_left hil]
        rw [e1, e2]
        exact hxs i (by omega)
  obtain ⟨xs, hxl, hxs⟩ := hx
  refine ⟨some a, len, cap, xs, hcs, ⟨hxl.symm, ?_⟩, by omega⟩
  by_cases hz : len = 0
  · exact .inl hz
  · right
    have hc := (hxs 0 (by omega)).1
    obtain ⟨b, off, spot⟩ := a
    have hspot : spot = none := by simpa [Addr.add] using World.cell?_spot hc
    subst hspot
    have hadd : ∀ j, (⟨b, off, none⟩ : Addr).add j = ⟨b, off + j, none⟩ := fun j => by unfold Addr.add; split <;> simp_all
    refine ⟨b, off, rfl, ?_, fun j hj => ?_⟩
    · rw [hadd] at hc; exact World.block_lt_of_cell? w _ hc
    · have h2 := hxs j hj
      rw [hadd, hadd] at h2
      exact h2
end

end Go.Proofs.Ytbaeacppojpplaa
