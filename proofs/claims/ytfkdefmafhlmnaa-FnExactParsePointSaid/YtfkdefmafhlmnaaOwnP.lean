/- Lists of point nodes that a call owns, told by values, and the contracts of size, copy, compare, mark and held over them. Conditions: those in the theorems. -/
import Derived.Deep.Slices
import Derived.Deep.Fields
import Derived.ChangeSame
import Derived.Test.YtfkdefmafhlmnaaNodeP
import Derived.Test.YtfkdefmafhlmnaaOwnN
namespace Go.Proofs.Ytfkdefmafhlmnaa
open Go.RowKit

theorem OwnP.at {w : World} {B : Nat} {v : Value} {xs : List Pd} (h : OwnP w B v xs) :
    ∃ a cap, v = .slice a xs.length cap ∧ AtP w a xs.length xs ∧ xs.length ≤ cap ∧ (a = none → cap = 0) ∧ ∀ p, a = some p → B ≤ p.block ∧ p.block < w.heap.size := by
  have h' := h
  rcases h.2 with ⟨hv, hn⟩ | ⟨g, cap, cur, hv, hg, hh, hc, hm, hs, ht⟩
  · refine ⟨none, 0, by rw [hv, hn], ⟨rfl, .inl hn⟩, by omega, (fun _ => rfl), (fun p hp => by cases hp)⟩
  · have hlt : g < w.heap.size := (Array.getElem?_eq_some_iff.1 hh).1
    subst hv
    refine ⟨some ⟨g, 0, none⟩, cap, rfl, ⟨rfl, .inr ⟨g, 0, rfl, hlt, fun j hj => ?_⟩⟩, hc, (fun h => by cases h), (fun p hp => by cases hp; exact ⟨hg, hlt⟩)⟩
    have e1 := h'.cellAt (j * 3) (by omega)
    have e2 := h'.cellAt (j * 3 + 1) (by omega)
    have e3 := h'.cellAt (j * 3 + 2) (by omega)
    obtain ⟨c1, c2, c3⟩ := cellsP_at xs j hj
    rw [c1] at e1
    rw [c2] at e2
    rw [c3] at e3
    rw [Nat.zero_add]
    exact ⟨e1, e2, e3⟩

theorem OwnP.mono {w : World} {B B' : Nat} {v : Value} {xs : List Pd} (h : OwnP w B v xs) (hB : B' ≤ B) : OwnP w B' v xs := by
  refine ⟨h.1, ?_⟩
  rcases h.2 with h2 | ⟨g, cap, cur, hv, hg, r⟩
  · exact .inl h2
  · exact .inr ⟨g, cap, cur, hv, Nat.le_trans hB hg, r⟩

/-- The slice value v is the call's own, its block lies in lo .. hi - 1, and it holds xs. -/
def InP (w : World) (lo hi : Nat) (v : Value) (xs : List Pd) : Prop := OwnP w lo v xs ∧ hi ≤ w.heap.size ∧ ∀ k, v.ownBlock = some k → lo ≤ k ∧ k < hi

theorem OwnP.inn {w : World} {lo : Nat} {v : Value} {xs : List Pd} (h : OwnP w lo v xs) : InP w lo w.heap.size v xs := ⟨h, Nat.le_refl _, World.ownsRow.lt h⟩
theorem InP.below {w w' : World} {lo hi C : Nat} {v : Value} {xs : List Pd} (h : InP w lo hi v xs) (hb : Below C w w') (hC : hi ≤ C) : InP w' lo hi v xs := by
  refine ⟨⟨h.1.1, ?_⟩, Nat.le_trans h.2.1 hb.size, h.2.2⟩
  rcases h.1.2 with h2 | ⟨g, cap, cur, hv, hg, hh, r⟩
  · exact .inl h2
  · have hlt := (h.2.2 g (by rw [hv]; rfl)).2
    exact .inr ⟨g, cap, cur, hv, hg, by rw [hb.block g (by omega)]; exact hh, r⟩
theorem InP.drewN {w : World} {lo hi : Nat} {v : Value} {xs : List Pd} (h : InP w lo hi v xs) (q : Nat) : InP (w.drewN q) lo hi v xs := h.below (below_drewN' (Below.refl hi w) q) (Nat.le_refl _)
/-- A write into another row leaves it. -/
theorem InP.other {w w' : World} {lo hi lo' hi' : Nat} {v u : Value} {xs : List Pd} (h : InP w lo hi v xs) (hu : ∀ k, u.ownBlock = some k → lo' ≤ k ∧ k < hi') (hg : w.grownBy w' u.ownBlock) (hd : hi ≤ lo' ∨ hi' ≤ lo) : InP w' lo hi v xs := by
  refine ⟨World.ownsRow.kept h.1 hg ?_, Nat.le_trans h.2.1 hg.size, h.2.2⟩
  cases hv : v.ownBlock with
  | none => exact .inl rfl
  | some k =>
    right
    intro e
    have h1 := h.2.2 k hv
    have h2 := hu k e.symm
    omega

theorem InP.at {w : World} {lo hi : Nat} {v : Value} {xs : List Pd} (h : InP w lo hi v xs) : ∃ a cap, v = .slice a xs.length cap ∧ AtP w a xs.length xs := by
  obtain ⟨a, cap, hv, hat, -⟩ := h.1.at
  exact ⟨a, cap, hv, hat⟩

theorem eqP_in (xs : List Pd) (v v' : Value) (lo hi lo' hi' : Nat) (w : World) (hl : xs.length ≤ 1048576) (h : InP w lo hi v xs) (h' : InP w lo' hi' v' xs) :
    Calls Try.prog 30 #[v, v'] w fun e w' => e = .returned (.bool true) ∧ Below w.heap.size w w' := by
  obtain ⟨a, cap, rfl, hat⟩ := h.at
  obtain ⟨a', cap', rfl, hat'⟩ := h'.at
  exact eqPointS_any xs a a' xs.length cap cap' w hl hat hat'

theorem markP_in (xs : List Pd) (v : Value) (lo hi : Nat) (n : Int) (w : World) (hl : xs.length ≤ 1048576) (hn : 0 ≤ n) (hn2 : n ≤ 4611686018427387904) (h : InP w lo hi v xs) :
    Calls Try.prog 31 #[v, .int .i64 n] w fun e w' => e = .returned (.int .i64 (n + 3 * xs.length)) ∧ InP w' lo hi v (mkP n xs.length) ∧ Below lo w w' ∧ w.grownBy w' v.ownBlock :=
  (markPointS_any xs v lo n w hl hn hn2 h.1).mono fun _ _ ⟨h1, h2, h3, h4⟩ => ⟨h1, ⟨h2, Nat.le_trans h.2.1 h3.size, h.2.2⟩, h3, h4⟩

theorem heldP_in (m : Nat) (v : Value) (lo hi : Nat) (n : Int) (w : World) (hl : m ≤ 1048576) (hn : 0 ≤ n) (hn2 : n ≤ 4611686018427387904) (h : InP w lo hi v (mkP n m)) :
    Calls Try.prog 32 #[v, .int .i64 n] w fun e w' => e = .returned (.int .i64 (n + 3 * m)) ∧ w = w' := by
  obtain ⟨a, cap, rfl, hat⟩ := h.at
  rw [mkP_len] at hat ⊢
  exact heldPointS_any m a cap n w hl hn hn2 hat

/-- A list of nodes that came in. -/
def IsPts (w : World) (a : Option Addr) (len : Nat) (xs : List Pd) : Prop := AtP w a len xs ∧ len ≤ maxLen

section
open Go.ChangeShapes Go.WideShapes Go.Deep
variable {H : Type} {enc : TypeId × Value → H} {P : Program} {w : World} {base : Nat} {spare : Nat → Bool} {held : Bool}
theorem open_points {t e : TypeId} {f0 f1 f2 : Field} {fuel : Nat} {cs : List Value} {x : DataW H × List MemPlace} (ht : P.underlying t = some (.slice e)) (he : P.underlying e = some (.struct #[f0, f1, f2]))
    (h0 : P.underlying f0.type = some (.int .i64)) (h1 : P.underlying f1.type = some (.int .i64)) (h2 : P.underlying f2.type = some (.int .i64)) (hone : oneCellFields P #[f0, f1, f2] = true) (hC : P.cellsOf e = 3) (h : DataW.trod enc P w base spare held fuel t cs = some x) :
    ∃ (a : Option Addr) (len cap : Nat) (xs : List Pd), cs = [.slice a len cap] ∧ IsPts w a len xs := by
  rcases open_slice ht h with h0 | ⟨a, len, cap, m, n, D, Pl, hcs, hb, hl, hm, hmm, hx, hi⟩
  · exact ⟨none, 0, 0, [], h0.1, ⟨rfl, .inl rfl⟩, by unfold maxLen; omega⟩
  have hlm : len ≤ m := by rw [hmm]; split <;> omega
  have hcell : ∀ i, i < len → ∃ k s t : Int, w.cell? (a.add (i * 3)) = some (.int .i64 k) ∧ w.cell? (a.add (i * 3 + 1)) = some (.int .i64 s) ∧ w.cell? (a.add (i * 3 + 2)) = some (.int .i64 t) := by
    intro i hil
    obtain ⟨cs', hc, ht'⟩ := hi i (by omega)
    rw [hC] at hc
    obtain ⟨ys, n', hn', hy, hlen, hyl, hf⟩ := DataW.trod_struct he ht'
    obtain ⟨_, hcl, hat⟩ := World.cells?_some hc
    obtain ⟨o0, k0⟩ := hone_of hone 0 f0 rfl
    obtain ⟨o1, k1⟩ := hone_of hone 1 f1 rfl
    obtain ⟨o2, k2⟩ := hone_of hone 2 f2 rfl
    have g0 := hf 0 f0 rfl
    have g1 := hf 1 f1 rfl
    have g2 := hf 2 f2 rfl
    rw [o0, k0] at g0
    rw [o1, k1] at g1
    rw [o2, k2] at g2
    match cs', hcl with
    | [c0, c1, c2], _ =>
      have a0 := hat 0 (by omega)
      have a1 := hat 1 (by omega)
      have a2 := hat 2 (by omega)
      simp only [List.drop, List.take] at g0 g1 g2
      obtain ⟨y0, hy0⟩ : ∃ y, ys[0]? = some y := ⟨_, List.getElem?_eq_getElem (by rw [hyl]; simp)⟩
      obtain ⟨y1, hy1⟩ : ∃ y, ys[1]? = some y := ⟨_, List.getElem?_eq_getElem (by rw [hyl]; simp)⟩
      obtain ⟨y2, hy2⟩ : ∃ y, ys[2]? = some y := ⟨_, List.getElem?_eq_getElem (by rw [hyl]; simp)⟩
      rw [hy0] at g0
      rw [hy1] at g1
      rw [hy2] at g2
      obtain ⟨k, hk, -⟩ := DataW.trod_int h0 g0
      obtain ⟨s, hs, -⟩ := DataW.trod_int h1 g1
      obtain ⟨t, ht3, -⟩ := DataW.trod_int h2 g2
      simp only [List.cons.injEq, and_true] at hk hs ht3
      refine ⟨k, s, t, ?_, ?_, ?_⟩
      · rw [Go.Deep.add_add, Nat.add_zero] at a0; rw [← hk]; exact a0
      · rw [Go.Deep.add_add] at a1; rw [← hs]; exact a1
      · rw [Go.Deep.add_add] at a2; rw [← ht3]; exact a2
  have hx : ∃ xs : List Pd, xs.length = len ∧ ∀ i, i < len → w.cell? (a.add (i * 3)) = some (.int .i64 (kp xs i)) ∧ w.cell? (a.add (i * 3 + 1)) = some (.int .i64 (fp xs i)) ∧ w.cell? (a.add (i * 3 + 2)) = some (.int .i64 (tp xs i)) := by
    clear hx hi hcs hb hl hm hmm hlm
    induction len with
    | zero => exact ⟨[], rfl, fun i h => absurd h (by omega)⟩
    | succ len ih =>
      obtain ⟨xs, hxl, hxs⟩ := ih (fun i hi => hcell i (by omega))
      obtain ⟨k, s, t, hk, hs, ht3⟩ := hcell len (by omega)
      refine ⟨xs ++ [(k, s, t)], by simp [hxl], fun i hi => ?_⟩
      by_cases e : i = len
      · subst e
        have e1 : kp (xs ++ [(k, s, t)]) i = k := by unfold kp; simp [List.getD, ← hxl]
        have e2 : fp (xs ++ [(k, s, t)]) i = s := by unfold fp; simp [List.getD, ← hxl]
        have e3 : tp (xs ++ [(k, s, t)]) i = t := by unfold tp; simp [List.getD, ← hxl]
        rw [e1, e2, e3]
        exact ⟨hk, hs, ht3⟩
      · have hil : i < xs.length := by omega
        have e1 : kp (xs ++ [(k, s, t)]) i = kp xs i := by unfold kp; simp [List.getD, List.getElem?_append_left hil]
        have e2 : fp (xs ++ [(k, s, t)]) i = fp xs i := by unfold fp; simp [List.getD, List.getElem?_append_left hil]
        have e3 : tp (xs ++ [(k, s, t)]) i = tp xs i := by unfold tp; simp [List.getD, List.getElem?_append_left hil]
        rw [e1, e2, e3]
        exact hxs i (by omega)
  obtain ⟨xs, hxl, hxs⟩ := hx
  refine ⟨some a, len, cap, xs, hcs, ⟨hxl.symm, ?_⟩, by omega⟩
  by_cases hz : len = 0
  · exact .inl hz
  · right
    have hc := (hxs 0 (by omega)).1
    obtain ⟨b, off, spot⟩ := a
    have hspot : spot = none := by simpa [Addr.add] using World.cell?_spot hc
    subst hspot
    have hadd : ∀ j, (⟨b, off, none⟩ : Addr).add j = ⟨b, off + j, none⟩ := fun j => by unfold Addr.add; split <;> simp_all
    refine ⟨b, off, rfl, ?_, fun j hj => ?_⟩
    · rw [hadd] at hc; exact World.block_lt_of_cell? w _ hc
    · have h2 := hxs j hj
      rw [hadd, hadd, hadd] at h2
      exact h2
end

end Go.Proofs.Ytfkdefmafhlmnaa
