/- Rows that a call owns: what stays when another block turns, told by the blocks' types; an append to a row of slices. Conditions: those in the theorems. -/
import Derived.Test.YtfkahkhmnchnjabDoorListN
namespace Go.Proofs.YtfkahkhmnchnjabDoor
open Go.RowKit

theorem rgrown_set (w : World) (b o : Nat) (v : Value) : w.grownBy (w.setCell ⟨b, o, none⟩ v) (some b) :=
  ⟨rfl, rfl, rfl, by simp [World.setCell], fun k _ hne => Below.heap_setCell _ _ _ _ (fun e => hne (by rw [e]))⟩
theorem row_type {w : World} {lo : Nat} {e : TypeId} {sz : Nat} {v : Value} {n : Nat} {xs : List Value} (h : w.ownsRow lo e sz v n xs) : ∀ k, v.ownBlock = some k → lo ≤ k ∧ ∃ cs f, w.heap[k]? = some (.cells cs e f) := by
  intro k hk
  rcases h.2 with ⟨hv, -⟩ | ⟨g, cap, cur, hv, hg, hh, -⟩
  · rw [hv] at hk; cases hk
  · rw [hv] at hk; cases hk; exact ⟨hg, cur, (0, 0), hh⟩
theorem row_kept {w w' : World} {lo : Nat} {e : TypeId} {sz : Nat} {v : Value} {n : Nat} {xs : List Value} {r : Option Nat} (h : w.ownsRow lo e sz v n xs) (hg : w.grownBy w' r) (hr : ∀ k, r = some k → ∃ cs T f, w.heap[k]? = some (.cells cs T f) ∧ T ≠ e) : w'.ownsRow lo e sz v n xs := by
  refine World.ownsRow.kept h hg ?_
  cases hv : v.ownBlock with
  | none => exact .inl rfl
  | some k =>
    right
    intro e2
    obtain ⟨-, cs, f, h1⟩ := row_type h k hv
    obtain ⟨cs', T, f', h2, h3⟩ := hr k e2.symm
    rw [h1] at h2
    simp only [Option.some.injEq, Obj.cells.injEq] at h2
    exact h3 h2.2.1.symm
theorem row_slice {w : World} {lo : Nat} {e : TypeId} {sz : Nat} {v : Value} {n : Nat} {xs : List Value} (h : w.ownsRow lo e sz v n xs) : ∃ a c, v = .slice a n c := by
  rcases h.2 with ⟨hv, hn⟩ | ⟨g, cap, cur, hv, -⟩
  · exact ⟨none, 0, by rw [hv, hn]⟩
  · exact ⟨_, _, hv⟩
theorem rec_kept {w w' : World} {R : Nat} {c : Array Value} {T : TypeId} {f : Nat × Nat} {r : Option Nat} (h : w.heap[R]? = some (.cells c T f)) (hg : w.grownBy w' r) (hr : ∀ k, r = some k → ∃ cs T' f', w.heap[k]? = some (.cells cs T' f') ∧ T' ≠ T) : w'.heap[R]? = some (.cells c T f) := by
  rw [hg.block R (Array.getElem?_eq_some_iff.1 h).1 (fun e => ?_)]
  · exact h
  · obtain ⟨cs, T', f', h1, h2⟩ := hr R e.symm
    rw [h] at h1
    simp only [Option.some.injEq, Obj.cells.injEq] at h1
    exact h2 h1.2.1.symm
theorem row_other {w : World} {lo : Nat} {e T : TypeId} {sz : Nat} {v : Value} {n : Nat} {xs : List Value} (h : w.ownsRow lo e sz v n xs) (hT : e ≠ T) : ∀ k, v.ownBlock = some k → ∃ cs T' f', w.heap[k]? = some (.cells cs T' f') ∧ T' ≠ T := fun k hk => by
  obtain ⟨-, cs, f, h1⟩ := row_type h k hk
  exact ⟨cs, e, f, h1, hT⟩
theorem rec_other {w : World} {R : Nat} {c : Array Value} {e T : TypeId} {f : Nat × Nat} (h : w.heap[R]? = some (.cells c e f)) (hT : e ≠ T) : ∀ k, some R = some k → ∃ cs T' f', w.heap[k]? = some (.cells cs T' f') ∧ T' ≠ T := fun k hk => by
  cases hk
  exact ⟨c, e, f, h, hT⟩
theorem row_set {w : World} {R lo : Nat} {c : Array Value} {e T : TypeId} {f : Nat × Nat} {sz : Nat} {v : Value} {n : Nat} {xs : List Value} (h : w.ownsRow lo e sz v n xs) (hR : w.heap[R]? = some (.cells c T f)) (hT : T ≠ e) (o : Nat) (u : Value) : (w.setCell ⟨R, o, none⟩ u).ownsRow lo e sz v n xs := row_kept h (rgrown_set w R o u) (rec_other hR hT)
theorem wp_appL {o : Oper} {a : Act} {w : World} {K : Act → World → Prop} {Q : Exit → Act → World → Prop} (s x : Operand)
    (ho : o.op = .call { callee := .builtin .append, args := #[s, x], argTypes := #[43, 43] })
    (B : Nat) (v : Value) (n : Nat) (xs : List Value) (hs : a.eval s = v) (hown : w.ownsRow B 27 1 v n xs)
    (ad : Addr) (c : Nat) (z : Value) (hx : a.eval x = .slice (some ad) 1 c) (hz : w.cell? ad = some z) (h1 : z.oneCell' = true) (hn : n ≤ 1099511627776) (hB : B ≤ w.heap.size)
    (h : ∀ v' w', w'.ownsRow B 27 1 v' (n + 1) (xs ++ [z]) → w.grownBy w' v.ownBlock → K (a.put o.dst v') w') : o.wp Tryd.prog a w K Q := by
  obtain ⟨i0, hi, hz0, hz1, hz2⟩ := info_parts infoNN
  refine wp_append_own w s x 43 ho B 27 i0 (.slice none 0 0) 1 24 Tryd.underlying43 hi hz0 hz1 hz2 rfl (by decide) v n xs hs hown ad 1 c [z] hx rfl ?_ ?_ (by unfold maxLen; omega) (by omega) hB (fun v' w' h1 h2 _ => h v' w' h1 h2)
  · intro j u hu
    match j, hu with
    | 0, hu => simp at hu; subst hu; simpa [Addr.add] using hz
  · intro u hu
    simp at hu; subst hu; exact h1
theorem list_appL {ops : Array Oper} {rest : List Oper} {o : Oper} {a : Act} {w : World} {Q : Exit → Act → World → Prop} (hgd : o.guard = none) (s x : Operand)
    (ho : o.op = .call { callee := .builtin .append, args := #[s, x], argTypes := #[43, 43] })
    (B : Nat) (v : Value) (n : Nat) (xs : List Value) (hs : a.eval s = v) (hown : w.ownsRow B 27 1 v n xs)
    (ad : Addr) (c : Nat) (z : Value) (hx : a.eval x = .slice (some ad) 1 c) (hz : w.cell? ad = some z) (h1 : z.oneCell' = true) (hn : n ≤ 1099511627776) (hB : B ≤ w.heap.size)
    (h : ∀ v' w', w'.ownsRow B 27 1 v' (n + 1) (xs ++ [z]) → w.grownBy w' v.ownBlock → wpList Tryd.prog ops Q rest (a.put o.dst v') w') : wpList Tryd.prog ops Q (o :: rest) a w :=
  wpList_plain hgd fun _ hK => wp_appL s x ho B v n xs hs hown ad c z hx hz h1 hn hB fun v' w' h1 h2 => hK _ _ (h v' w' h1 h2)
theorem row_take {w : World} {lo : Nat} {e : TypeId} {g n c : Nat} {xs : List Value} (h : w.ownsRow lo e 1 (.slice (some ⟨g, 0, none⟩) n c) n xs) (k : Nat) (hk : k ≤ n) : w.ownsRow lo e 1 (.slice (some ⟨g, 0, none⟩) k c) k (xs.take k) := by
  obtain ⟨hl, ⟨hv, -⟩ | ⟨g', cap, cur, hv, hg, hh, hc, hm, hs, ht⟩⟩ := h
  · cases hv
  · simp only [Value.slice.injEq, Option.some.injEq, Addr.mk.injEq, and_true] at hv
    obtain ⟨rfl, -, rfl⟩ := hv
    refine ⟨by simp; omega, .inr ⟨g, c, cur, rfl, hg, hh, by omega, hm, hs, ?_⟩⟩
    rw [← ht, List.take_take]
    congr 1
    omega
theorem row_some {w : World} {lo : Nat} {e : TypeId} {sz : Nat} {v : Value} {n : Nat} {xs : List Value} (h : w.ownsRow lo e sz v n xs) (hn : 0 < n) : ∃ g c, v = .slice (some ⟨g, 0, none⟩) n c ∧ lo ≤ g := by
  rcases h.2 with ⟨-, h0⟩ | ⟨g, cap, cur, hv, hg, -⟩
  · omega
  · exact ⟨g, cap, hv, hg⟩
theorem made_row {w w1 : World} {lo : Nat} {e : TypeId} {g n c : Nat} {us : List Value} {k : Nat} (h : w.ownsRow lo e 1 (.slice (some ⟨g, 0, none⟩) n c) n us) (hk : k < n) (hb : Below w.heap.size w w1) : w1.ownsRow lo e 1 (.slice (some ⟨g, 0, none⟩) n c) n us ∧ w1.cell? ⟨g, k, none⟩ = some (atV us k) ∧ w1.frozen? ⟨g, k, none⟩ = false := by
  have h1 := ownsRow_below h (fun k hk => by obtain ⟨-, cs, f, hh⟩ := row_type h k hk; exact (Array.getElem?_eq_some_iff.1 hh).1) hb
  have hl := h.1
  exact ⟨h1, (h1.cellAt k (by omega)).trans (atV_some (by omega)), h1.frozenAt _⟩
theorem row_lt {w : World} {lo : Nat} {e : TypeId} {sz : Nat} {v : Value} {n : Nat} {xs : List Value} (h : w.ownsRow lo e sz v n xs) : ∀ k, v.ownBlock = some k → k < w.heap.size := fun k hk => by
  obtain ⟨-, cs, f, hh⟩ := row_type h k hk
  exact (Array.getElem?_eq_some_iff.1 hh).1

end Go.Proofs.YtfkahkhmnchnjabDoor
