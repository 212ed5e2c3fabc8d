/- Lists of lists of nodes that a call owns: the contracts of size, copy, compare and mark over them. Conditions: those in the theorems. -/
import Derived.Test.YtomldealpmohhaaConcat
import Derived.Test.YtomldealpmohhaaWi
namespace Go.Proofs.Ytomldealpmohhaa
open Go.RowKit

theorem infoNN : (Try.prog.info? 36).map (fun i => (i.zero, i.size, i.bytes)) = some (some (.slice none 0 0), 1, 24) := by kernel_rfl

theorem InN.within {w w' : World} {lo hi lo' hi' : Nat} {v : Value} {xs : List Nd} (h : InN w lo hi v xs) (hw : Within lo' hi' w w') (hd : hi ≤ lo' ∨ hi' ≤ lo) : InN w' lo hi v xs := by
  refine ⟨⟨h.1.1, ?_⟩, Nat.le_trans h.2.1 hw.size, h.2.2⟩
  rcases h.1.2 with h2 | ⟨g, cap, cur, hv, hg, hh, r⟩
  · exact .inl h2
  · have hlt := h.2.2 g (by rw [hv]; rfl)
    have := h.2.1
    exact .inr ⟨g, cap, cur, hv, hg, by rw [hw.block g (by omega) (by omega)]; exact hh, r⟩

/-- The slice value v is the call's own, its blocks lie in lo .. hi - 1, no two lists share one, and it holds the lists xss. -/
def InNN (w : World) (lo hi : Nat) (v : Value) (xss : List (List Nd)) : Prop :=
  ∃ (vs : List Value) (p : Nat → Nat), w.ownsRow lo 36 1 v xss.length vs ∧ (∀ k, v.ownBlock = some k → lo ≤ k ∧ k < p 0) ∧ lo ≤ p 0 ∧
    (∀ j, j < xss.length → p j ≤ p (j + 1) ∧ InN w (p j) (p (j + 1)) (atV vs j) (nthL xss j)) ∧ p xss.length ≤ hi ∧ hi ≤ w.heap.size
theorem InNN.below {w w' : World} {lo hi C : Nat} {v : Value} {xss : List (List Nd)} (h : InNN w lo hi v xss) (hb : Below C w w') (hC : hi ≤ C) : InNN w' lo hi v xss := by
  obtain ⟨vs, p, h1, h2, h3, h4, h5, h6⟩ := h
  have hm : ∀ i j, i ≤ j → j ≤ xss.length → p i ≤ p j := fun i j => mono_to (fun j hj => (h4 j hj).1)
  have h0 := hm 0 xss.length (Nat.zero_le _) (Nat.le_refl _)
  refine ⟨vs, p, ownsRow_below h1 (fun k hk => by have := h2 k hk; omega) hb, h2, h3, fun j hj => ⟨(h4 j hj).1, (h4 j hj).2.below hb ?_⟩, h5, Nat.le_trans h6 hb.size⟩
  have := hm (j + 1) xss.length (by omega) (Nat.le_refl _)
  omega
theorem InNN.size {w : World} {lo hi : Nat} {v : Value} {xss : List (List Nd)} (h : InNN w lo hi v xss) : lo ≤ hi ∧ hi ≤ w.heap.size := by
  obtain ⟨vs, p, h1, h2, h3, h4, h5, h6⟩ := h
  have := mono_to (fun j hj => (h4 j hj).1) (Nat.zero_le xss.length) (Nat.le_refl _)
  exact ⟨by omega, h6⟩
theorem InNN.at {w : World} {lo hi : Nat} {v : Value} {xss : List (List Nd)} (h : InNN w lo hi v xss) : ∃ a cap, v = .slice a xss.length cap ∧ AtNN w a xss.length xss := by
  obtain ⟨vs, p, h1, h2, h3, h4, h5, h6⟩ := h
  have hl := h1.1
  rcases h1.2 with ⟨hv, hn⟩ | ⟨g, cap, cur, hv, hg, hh, hc, hm, hs, ht⟩
  · exact ⟨none, 0, by rw [hv, hn], rfl, .inl hn⟩
  · have hlt : g < w.heap.size := (Array.getElem?_eq_some_iff.1 hh).1
    subst hv
    refine ⟨some ⟨g, 0, none⟩, cap, rfl, rfl, .inr ⟨g, 0, rfl, hlt, fun j hj => ?_⟩⟩
    have e := h1.cellAt j (by omega)
    obtain ⟨a', cap', hv', hat'⟩ := (h4 j hj).2.at
    refine ⟨a', cap', ?_, hat'⟩
    rw [Nat.zero_add, e, atV_some (by omega), hv']

/-- A list of lists of nodes that came in. -/
def IsNodesS (w : World) (a : Option Addr) (len : Nat) (xss : List (List Nd)) : Prop := AtNN w a len xss ∧ len ≤ maxLen ∧ ∀ j, j < len → (nthL xss j).length ≤ maxLen
theorem sz_all {xss : List (List Nd)} {n : Nat} (h : szTo xss n ≤ 1048576) : ∀ j, j < n → (nthL xss j).length ≤ 1048576 := fun j hj => by
  have a1 := szTo_mono xss (show j + 1 ≤ n by omega)
  rw [szTo] at a1
  omega

section
open Go.ChangeShapes Go.WideShapes Go.Deep
variable {H : Type} {enc : TypeId × Value → H} {P : Program} {w : World} {base : Nat} {spare : Nat → Bool} {held : Bool}
theorem open_nodess {t s e : TypeId} {f0 f1 : Field} {fuel : Nat} {cs : List Value} {x : DataW H × List MemPlace} (hs : P.underlying t = some (.slice s)) (ht : P.underlying s = some (.slice e)) (he : P.underlying e = some (.struct #[f0, f1]))
    (h0 : P.underlying f0.type = some (.int .i64)) (h1 : P.underlying f1.type = some (.int .i64)) (hone : oneCellFields P #[f0, f1] = true) (hC : P.cellsOf e = 2) (hC1 : P.cellsOf s = 1) (h : DataW.trod enc P w base spare held fuel t cs = some x) :
    ∃ (a : Option Addr) (len cap : Nat) (xss : List (List Nd)), cs = [.slice a len cap] ∧ IsNodesS w a len xss := by
  rcases open_slice hs h with hz | ⟨a, len, cap, m, n, D, Pl, hcs, hb, hl, hm, hmm, hx, hi⟩
  · exact ⟨none, 0, 0, [], hz.1, ⟨rfl, .inl rfl⟩, by unfold maxLen; omega, fun j hj => absurd hj (by omega)⟩
  have hlm : len ≤ m := by rw [hmm]; split <;> omega
  have hcell : ∀ i, i < len → ∃ (a' : Option Addr) (cap' : Nat) (xs : List Nd), w.cell? (a.add i) = some (.slice a' xs.length cap') ∧ IsNodes w a' xs.length xs := by
    intro i hil
    obtain ⟨cs', hc, ht'⟩ := hi i (by omega)
    obtain ⟨a1, len1, cap1, xs, hcs1, hn1⟩ := open_nodes ht he h0 h1 hone hC ht'
    rw [hC1, Nat.mul_one] at hc
    subst hcs1
    obtain ⟨_, hcl, hat⟩ := World.cells?_some hc
    have a0 := hat 0 (by omega)
    rw [Go.Deep.add_add, Nat.add_zero] at a0
    have hlen := hn1.1.1
    subst hlen
    exact ⟨a1, cap1, xs, a0, hn1⟩
  have hx : ∃ xss : List (List Nd), xss.length = len ∧ ∀ i, i < len → ∃ (a' : Option Addr) (cap' : Nat), w.cell? (a.add i) = some (.slice a' (nthL xss i).length cap') ∧ IsNodes w a' (nthL xss i).length (nthL xss i) := by
    clear hx hi hcs hb hl hm hmm hlm
    induction len with
    | zero => exact ⟨[], rfl, fun i h => absurd h (by omega)⟩
    | succ len ih =>
      obtain ⟨xss, hxl, hxs⟩ := ih (fun i hi => hcell i (by omega))
      obtain ⟨a', cap', xs, hk, hn⟩ := hcell len (by omega)
      refine ⟨xss ++ [xs], by simp [hxl], fun i hi => ?_⟩
      by_cases e : i = len
      · subst e
        have e1 : nthL (xss ++ [xs]) i = xs := by unfold nthL; simp [List.getD, ← hxl]
        rw [e1]
        exact ⟨a', cap', hk, hn⟩
      · have hil : i < xss.length := by omega
        have e1 : nthL (xss ++ [xs]) i = nthL xss i := by unfold nthL; simp [List.getD, List.getElem?_append_left hil]
        rw [e1]
        exact hxs i (by omega)
  obtain ⟨xss, hxl, hxs⟩ := hx
  refine ⟨some a, len, cap, xss, hcs, ⟨hxl.symm, ?_⟩, by omega, fun j hj => ?_⟩
  · by_cases hz : len = 0
    · exact .inl hz
    · right
      obtain ⟨a', cap', hc, -⟩ := hxs 0 (by omega)
      obtain ⟨b, off, spot⟩ := a
      have hspot : spot = none := by simpa [Addr.add] using World.cell?_spot hc
      subst hspot
      have hadd : ∀ j, (⟨b, off, none⟩ : Addr).add j = ⟨b, off + j, none⟩ := fun j => by unfold Addr.add; split <;> simp_all
      refine ⟨b, off, rfl, ?_, fun j hj => ?_⟩
      · rw [hadd] at hc; exact World.block_lt_of_cell? w _ hc
      · obtain ⟨a', cap', h2, h3⟩ := hxs j hj
        rw [hadd] at h2
        exact ⟨a', cap', h2, h3.1⟩
  · obtain ⟨a', cap', -, h3⟩ := hxs j hj
    exact h3.2
end

end Go.Proofs.Ytomldealpmohhaa
