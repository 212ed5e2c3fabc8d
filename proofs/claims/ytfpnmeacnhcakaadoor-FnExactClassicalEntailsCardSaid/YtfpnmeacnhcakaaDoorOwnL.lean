/- Lists of lists of nodes that a call owns and makes by appending: reading, appending, storing. Conditions: those in the theorems. -/
import Derived.Test.YtfpnmeacnhcakaaDoorRow
namespace Go.Proofs.YtfpnmeacnhcakaaDoor
open Go.RowKit

/-- The slice value v is the call's own and holds the lists xss; no two of them share a block. -/
def OwnL (w : World) (B : Nat) (v : Value) (xss : List (List Nd)) : Prop :=
  ∃ us : List Value, w.ownsRow B 26 1 v xss.length us ∧ (∀ j, j < xss.length → OwnN w B (atV us j) (nthL xss j)) ∧
    ∀ i j, i < j → j < xss.length → ∀ k, (atV us i).ownBlock = some k → (atV us j).ownBlock ≠ some k
theorem tyL : 26 ≠ 52 := by decide
theorem OwnL.mono {w : World} {B B' : Nat} {v : Value} {xss : List (List Nd)} (h : OwnL w B v xss) (hB : B' ≤ B) : OwnL w B' v xss := by
  obtain ⟨us, h1, h2, h3⟩ := h
  exact ⟨us, ownsRow_mono h1 hB, fun j hj => ownsRow_mono (h2 j hj) hB, h3⟩
theorem OwnL.at {w : World} {B : Nat} {v : Value} {xss : List (List Nd)} (h : OwnL w B v xss) : ∃ a cap, v = .slice a xss.length cap ∧ AtNN w a xss.length xss := by
  obtain ⟨us, h1, h4, h5⟩ := h
  have hl := h1.1
  rcases h1.2 with ⟨hv, hn⟩ | ⟨g, cap, cur, hv, hg, hh, hc, hm, hs, ht⟩
  · exact ⟨none, 0, by rw [hv, hn], rfl, .inl hn⟩
  · have hlt : g < w.heap.size := (Array.getElem?_eq_some_iff.1 hh).1
    subst hv
    refine ⟨some ⟨g, 0, none⟩, cap, rfl, rfl, .inr ⟨g, 0, rfl, hlt, fun j hj => ?_⟩⟩
    have e := h1.cellAt j (by omega)
    obtain ⟨a', cap', hv', hat', -⟩ := (h4 j hj).at
    refine ⟨a', cap', ?_, hat'⟩
    rw [Nat.zero_add, e, atV_some (by omega), hv']
theorem OwnL.keep {w w' : World} {B C : Nat} {v : Value} {xss : List (List Nd)} (h : OwnL w B v xss) (hb : Below C w w') (hC : w.heap.size ≤ C) : OwnL w' B v xss := by
  obtain ⟨us, h1, h2, h3⟩ := h
  exact ⟨us, ownsRow_below h1 (fun k hk => Nat.lt_of_lt_of_le (row_lt h1 k hk) hC) hb, fun j hj => ownsRow_below (h2 j hj) (fun k hk => Nat.lt_of_lt_of_le (row_lt (h2 j hj) k hk) hC) hb, h3⟩
theorem OwnL.alloc {w : World} {B : Nat} {v : Value} {xss : List (List Nd)} (h : OwnL w B v xss) (o : Obj) : OwnL (w.alloc o) B v xss := h.keep ((Below.refl _ _).alloc (Nat.le_refl _) o) (Nat.le_refl _)
theorem ownL_nil (w : World) (B : Nat) : OwnL w B (.slice none 0 0) [] := ⟨[], World.ownsRow_nil w B _ 1, fun j hj => by simp at hj, fun i j _ hj => by simp at hj⟩
theorem ownL_row {w : World} {B : Nat} {v : Value} {us : List Value} (h : w.ownsRow B 26 1 v 0 us) : OwnL w B v [] := ⟨us, h, fun j hj => by simp at hj, fun i j _ hj => by simp at hj⟩
theorem nthL_app {xss : List (List Nd)} {ys : List Nd} {j : Nat} : nthL (xss ++ [ys]) j = if j < xss.length then nthL xss j else if j = xss.length then ys else [] := by
  unfold nthL
  simp only [List.getD_eq_getElem?_getD]
  by_cases h : j < xss.length
  · rw [if_pos h, List.getElem?_append_left h]
  · rw [if_neg h, List.getElem?_append_right (by omega)]
    by_cases e : j = xss.length
    · subst e; simp
    · rw [if_neg e, List.getElem?_eq_none (by simp; omega)]; rfl
theorem atV_app {us : List Value} {z : Value} {n j : Nat} (hn : us.length = n) : atV (us ++ [z]) j = if j < n then atV us j else if j = n then z else .slice none 0 0 := by
  unfold atV
  subst hn
  simp only [List.getD_eq_getElem?_getD]
  by_cases h : j < us.length
  · rw [if_pos h, List.getElem?_append_left h]
  · rw [if_neg h, List.getElem?_append_right (by omega)]
    by_cases e : j = us.length
    · subst e; simp
    · rw [if_neg e, List.getElem?_eq_none (by simp; omega)]; rfl

/-- An append of one list that has been made behind the world wr. -/
theorem list_appLL {ops : Array Oper} {rest : List Oper} {o : Oper} {a : Act} {W : World} {Q : Exit → Act → World → Prop} (hgd : o.guard = none) (s x : Operand)
    (ho : o.op = .call { callee := .builtin .append, args := #[s, x], argTypes := #[43, 43] })
    (B : Nat) (v : Value) (xss : List (List Nd)) (hs : a.eval s = v) {wr w1 : World} (h : OwnL wr B v xss) (hb : Below wr.heap.size wr w1)
    (z : Value) (ys : List Nd) (hz1 : OwnN w1 wr.heap.size z ys) (hb2 : Below w1.heap.size w1 W) (ad : Addr) (c : Nat) (hx : a.eval x = .slice (some ad) 1 c) (hz : W.cell? ad = some z)
    (hn : xss.length ≤ 4194304) (hB : B ≤ wr.heap.size)
    (K : ∀ v' w', OwnL w' B v' (xss ++ [ys]) → Below B wr w' → wpList Tryd.prog ops Q rest (a.put o.dst v') w') : wpList Tryd.prog ops Q (o :: rest) a W := by
  have hW := (h.keep hb (Nat.le_refl _)).keep hb2 (Nat.le_refl _)
  obtain ⟨us0, g1, g2, g3⟩ := h
  have r1 := ownsRow_below (ownsRow_below g1 (row_lt g1) hb) (row_lt (ownsRow_below g1 (row_lt g1) hb)) hb2
  have hone : z.oneCell' = true := by
    obtain ⟨az, cz, hzv, -⟩ := hz1.at
    rw [hzv]; rfl
  have hs1 := hb.size
  have hs2 := hb2.size
  refine list_appL hgd s x ho B v xss.length us0 hs r1 ad c z hx hz hone (by omega) (by omega) ?_
  intro v' w' hrow hg
  have hul : us0.length = xss.length := by have := g1.1; omega
  refine K v' w' ⟨us0 ++ [z], ?_, ?_, ?_⟩ ?_
  · rw [List.length_append]; exact hrow
  · intro j hj
    simp only [List.length_append, List.length_cons, List.length_nil] at hj
    by_cases e : j < xss.length
    · rw [atV_app hul, if_pos e, nthL_app, if_pos e]
      have i0 := g2 j e
      have i1 := ownsRow_below i0 (row_lt i0) hb
      have i2 := ownsRow_below i1 (row_lt i1) hb2
      exact row_kept i2 hg (row_other r1 tyL)
    · have e2 : j = xss.length := by omega
      rw [atV_app hul, if_neg e, if_pos e2, nthL_app, if_neg e, if_pos e2]
      have i2 := ownsRow_below hz1 (row_lt hz1) hb2
      exact row_kept (ownsRow_mono i2 hB) hg (row_other r1 tyL)
  · intro i j hij hj k hk
    simp only [List.length_append, List.length_cons, List.length_nil] at hj
    rw [atV_app hul, if_pos (by omega)] at hk
    by_cases e : j < xss.length
    · rw [atV_app hul, if_pos e]
      exact g3 i j hij e k hk
    · have e2 : j = xss.length := by omega
      rw [atV_app hul, if_neg e, if_pos e2]
      intro hk2
      have h1 := row_lt (g2 i (by omega)) k hk
      have h2 := (row_type hz1 k hk2).1
      omega
  · exact ((hb.mono hB).trans (hb2.mono (by omega))).grown hg (by omega) (fun k hk => (row_type r1 k hk).1)

theorem nthL_set {xss : List (List Nd)} {ys : List Nd} {k j : Nat} (hk : k < xss.length) : nthL (xss.set k ys) j = if j = k then ys else nthL xss j := by
  unfold nthL
  simp only [List.getD_eq_getElem?_getD, List.getElem?_set]
  by_cases e : j = k
  · subst e; simp [hk]
  · rw [if_neg (fun h => e h.symm), if_neg e]

/-- A store of a list that has been made behind the world wr. -/
theorem OwnL.set {wr w1 : World} {B g n c k : Nat} {xss : List (List Nd)} (h : OwnL wr B (.slice (some ⟨g, 0, none⟩) n c) xss) (hn : n = xss.length) (hk : k < n) (hb : Below wr.heap.size wr w1) {z : Value} {ys : List Nd} (hz1 : OwnN w1 wr.heap.size z ys) (hB : B ≤ wr.heap.size) :
    OwnL (w1.setCell ⟨g, k, none⟩ z) B (.slice (some ⟨g, 0, none⟩) n c) (xss.set k ys) ∧ Below B wr (w1.setCell ⟨g, k, none⟩ z) ∧ (∃ u, w1.cell? ⟨g, k, none⟩ = some u) ∧ w1.frozen? ⟨g, k, none⟩ = false := by
  subst hn
  obtain ⟨us, g1, g2, g3⟩ := h
  have hul := g1.1
  obtain ⟨r1, r2, r3⟩ := made_row g1 hk hb
  have hst := r1.stored k z
  have hgb : B ≤ g := (row_type r1 g rfl).1
  obtain ⟨-, cs, f, hh⟩ := row_type r1 g rfl
  refine ⟨⟨us.set k z, ?_, ?_, ?_⟩, ?_, ⟨_, r2⟩, r3⟩
  · rw [List.length_set]; exact hst.1
  · intro j hj
    rw [List.length_set] at hj
    rw [atV_set, nthL_set hk]
    by_cases e : j = k
    · rw [if_pos ⟨e, by omega⟩, if_pos e]
      exact row_set (ownsRow_mono hz1 hB) hh tyL k z
    · rw [if_neg (fun h => e h.1), if_neg e]
      have i0 := g2 j hj
      exact row_set (ownsRow_below i0 (row_lt i0) hb) hh tyL k z
  · intro i j hij hj q hq
    rw [List.length_set] at hj
    rw [atV_set] at hq ⊢
    by_cases e1 : i = k
    · rw [if_pos ⟨e1, by omega⟩] at hq
      rw [if_neg (fun h => by omega)]
      intro hq2
      have h1 := row_lt (g2 j hj) q hq2
      have h2 := (row_type hz1 q hq).1
      omega
    · rw [if_neg (fun h => e1 h.1)] at hq
      by_cases e2 : j = k
      · rw [if_pos ⟨e2, by omega⟩]
        intro hq2
        have h1 := row_lt (g2 i (by omega)) q hq
        have h2 := (row_type hz1 q hq2).1
        omega
      · rw [if_neg (fun h => e2 h.1)]
        exact g3 i j hij hj q hq
  · exact (hb.mono hB).setCell (p := ⟨g, k, none⟩) hgb z

end Go.Proofs.YtfpnmeacnhcakaaDoor
