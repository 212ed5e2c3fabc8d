/- Lists of lists of nodes told by the values that stand in their cells, with the room behind each; copies and appends that share the lists. Conditions: those in the theorems. -/
import Derived.Deep.AppendSrc
import Derived.Test.YtnoaaklkbfbdbaaListN
import Derived.Test.YtnoaaklkbfbdbaaJn05
import Derived.Test.YtnoaaklkbfbdbaaJn06
namespace Go.Proofs.Ytnoaaklkbfbdbaa
open Go.RowKit

/-- The values us are the lists xss, which lie in w. -/
def ShC (w : World) (us : List Value) (xss : List (List Nd)) : Prop :=
  us.length = xss.length ∧ ∀ j, j < xss.length → ∃ a c, atV us j = .slice a (nthL xss j).length c ∧ AtN w a (nthL xss j).length (nthL xss j) ∧ (nthL xss j).length ≤ c ∧ c ≤ maxLen
/-- The lists xss lie at the slice value (a, len), with room in order. -/
def AtNC (w : World) (a : Option Addr) (len : Nat) (xss : List (List Nd)) : Prop :=
  len = xss.length ∧ ∃ us, ShC w us xss ∧ (len = 0 ∨ ∃ b off, a = some ⟨b, off, none⟩ ∧ b < w.heap.size ∧ ∀ j, j < len → w.cell? ⟨b, off + j, none⟩ = some (atV us j))
theorem ShC.keep {w w' : World} {C : Nat} {us : List Value} {xss : List (List Nd)} (h : ShC w us xss) (hb : Below C w w') (hC : w.heap.size ≤ C) : ShC w' us xss :=
  ⟨h.1, fun j hj => by obtain ⟨a, c, h1, h2, h3⟩ := h.2 j hj; exact ⟨a, c, h1, h2.keep hb hC, h3⟩⟩
theorem ShC.one {w : World} {us : List Value} {xss : List (List Nd)} (h : ShC w us xss) : ∀ u ∈ us, u.oneCell' = true := by
  intro u hu
  obtain ⟨j, hj, rfl⟩ := List.getElem_of_mem hu
  obtain ⟨a, c, h1, -⟩ := h.2 j (by rw [← h.1]; exact hj)
  have : us[j] = atV us j := by have := atV_some hj; rw [List.getElem?_eq_getElem hj] at this; exact Option.some.inj this
  rw [this, h1]; rfl
theorem ShC.snoc {w : World} {us : List Value} {xss : List (List Nd)} (h : ShC w us xss) {a : Option Addr} {c : Nat} {xs : List Nd} (h1 : AtN w a xs.length xs) (h2 : xs.length ≤ c) (h3 : c ≤ maxLen) : ShC w (us ++ [.slice a xs.length c]) (xss ++ [xs]) := by
  refine ⟨by simp [h.1], fun j hj => ?_⟩
  simp only [List.length_append, List.length_singleton] at hj
  rw [atV_app h.1, nthL_app]
  by_cases e : j < xss.length
  · rw [if_pos e, if_pos e]; exact h.2 j e
  · have e2 : j = xss.length := by omega
    rw [if_neg e, if_neg e, if_pos e2, if_pos e2]
    exact ⟨a, c, rfl, h1, h2, h3⟩
theorem ShC.at {w : World} {B : Nat} {v : Value} {us : List Value} {xss : List (List Nd)} {n : Nat} (h : ShC w us xss) (hr : w.ownsRow B 32 1 v n us) (hn : n = xss.length) : ∃ a cap, v = .slice a xss.length cap ∧ AtNC w a xss.length xss := by
  subst hn
  rcases hr.2 with ⟨hv, hn⟩ | ⟨g, cap, cur, hv, hg, hh, hc, hm, hs, ht⟩
  · exact ⟨none, 0, by rw [hv, hn], rfl, us, h, .inl hn⟩
  · have hlt : g < w.heap.size := (Array.getElem?_eq_some_iff.1 hh).1
    subst hv
    refine ⟨some ⟨g, 0, none⟩, cap, rfl, rfl, us, h, .inr ⟨g, 0, rfl, hlt, fun j hj => ?_⟩⟩
    have e := hr.cellAt j (by omega)
    rw [Nat.zero_add, e, atV_some (by rw [h.1]; exact hj)]
theorem AtNC.nn {w : World} {a : Option Addr} {len : Nat} {xss : List (List Nd)} (h : AtNC w a len xss) : AtNN w a len xss := by
  obtain ⟨h1, us, h2, h3⟩ := h
  refine ⟨h1, ?_⟩
  rcases h3 with h3 | ⟨b, off, ha, hb, hc⟩
  · exact .inl h3
  · refine .inr ⟨b, off, ha, hb, fun j hj => ?_⟩
    obtain ⟨a', c', e1, e2, -⟩ := h2.2 j (by omega)
    exact ⟨a', c', by rw [hc j hj, e1], e2⟩
theorem AtNC.keep {w w' : World} {C : Nat} {a : Option Addr} {len : Nat} {xss : List (List Nd)} (h : AtNC w a len xss) (hb : Below C w w') (hC : w.heap.size ≤ C) : AtNC w' a len xss := by
  obtain ⟨h1, us, h2, h3⟩ := h
  refine ⟨h1, us, h2.keep hb hC, ?_⟩
  rcases h3 with h3 | ⟨b, off, ha, hlt, hc⟩
  · exact .inl h3
  · exact .inr ⟨b, off, ha, Nat.lt_of_lt_of_le hlt hb.size, fun j hj => (hb.cell (p := ⟨b, off + j, none⟩) (by show b < C; omega)).trans (hc j hj)⟩
/-- The formula at the place j. -/
theorem AtNC.at {w : World} {b off len : Nat} {xss : List (List Nd)} (h : AtNC w (some ⟨b, off, none⟩) len xss) {j : Nat} (hj : j < len) : b < w.heap.size ∧ ∃ a c, w.cell? ⟨b, off + j, none⟩ = some (.slice a (nthL xss j).length c) ∧ AtN w a (nthL xss j).length (nthL xss j) ∧ (nthL xss j).length ≤ c ∧ c ≤ maxLen := by
  obtain ⟨h1, us, h2, h3⟩ := h
  obtain ⟨b', off', ha, hb, hc⟩ := h3.resolve_left (by omega)
  cases ha
  obtain ⟨a', c', e1, e2⟩ := h2.2 j (by omega)
  exact ⟨hb, a', c', by rw [hc j hj, e1], e2⟩
theorem InNN.atC {w : World} {lo hi : Nat} {v : Value} {xss : List (List Nd)} (h : InNN w lo hi v xss) : ∃ a cap, v = .slice a xss.length cap ∧ xss.length ≤ cap ∧ AtNC w a xss.length xss := by
  obtain ⟨vs, p, h1, h2, h3, h4, h5, h6⟩ := h
  have hl := h1.1
  have hs : ShC w vs xss := ⟨by omega, fun j hj => by
    obtain ⟨a', cap', hv', hat', hc1, hc2⟩ := (h4 j hj).2.at'
    exact ⟨a', cap', hv', hat', hc1, hc2⟩⟩
  rcases h1.2 with ⟨hv, hn⟩ | ⟨g, cap, cur, hv, hg, hh, hc, hm, hsz, ht⟩
  · exact ⟨none, 0, by rw [hv, hn], by omega, rfl, vs, hs, .inl hn⟩
  · have hlt : g < w.heap.size := (Array.getElem?_eq_some_iff.1 hh).1
    subst hv
    refine ⟨some ⟨g, 0, none⟩, cap, rfl, hc, rfl, vs, hs, .inr ⟨g, 0, rfl, hlt, fun j hj => ?_⟩⟩
    have e := h1.cellAt j (by omega)
    rw [Nat.zero_add, e, atV_some (by omega)]

theorem run_app_none (w : World) (g k c : Nat) (ty : TypeId) : (Builtin.append_ #[41, 41] ty #[.slice (some ⟨g, 0, none⟩) 0 k, .slice none 0 c]).run Try.prog w = .ok (.slice (some ⟨g, 0, none⟩) 0 k) w := by
  obtain ⟨i0, hi, hz0, hz1, hz2⟩ := info_parts infoNN
  have := run_append_room_src (P := Try.prog) w 41 41 ty 32 i0 Try.underlying41 hi g 0 0 k (.slice none 0 c) 0 [] (Go.Src.ofNil w Try.underlying41 c) (Nat.zero_le _) (fun j hj => by simp at hj) (fun j hj => by simp at hj)
  simpa [World.setCells] using this

/-- An append of all values of a list that lay in wr, none or some, to an empty slice of the call's own. -/
theorem list_appSh {ops : Array Oper} {rest : List Oper} {o : Oper} {a : Act} {w wr : World} {Q : Exit → Act → World → Prop} (hgd : o.guard = none) (s x : Operand)
    (ho : o.op = .call { callee := .builtin .append, args := #[s, x], argTypes := #[41, 41] })
    (B g k : Nat) (hs : a.eval s = .slice (some ⟨g, 0, none⟩) 0 k) (hown : w.ownsRow B 32 1 (.slice (some ⟨g, 0, none⟩) 0 k) 0 [])
    (xss : List (List Nd)) (ad : Option Addr) (len c : Nat) (hx : a.eval x = .slice ad len c) (hat : AtNC wr ad len xss) (hwr : wr.heap.size ≤ B) (hbel : Below B wr w) (hn : len ≤ 1048576) (hB : B ≤ w.heap.size)
    (h : ∀ v' w' us, w'.ownsRow B 32 1 v' len us → ShC wr us xss → Below B wr w' → B ≤ w'.heap.size → wpList Try.prog ops Q rest (a.put o.dst v') w') : wpList Try.prog ops Q (o :: rest) a w := by
  obtain ⟨i0, hi, hz0, hz1, hz2⟩ := info_parts infoNN
  obtain ⟨h1, us, h2, h3⟩ := hat
  have hg : B ≤ g := by
    rcases hown.2 with ⟨e, -⟩ | ⟨g', cap, cur, hv, hg, -⟩
    · cases e
    · cases hv; exact hg
  cases ad with
  | none =>
    have h0 : len = 0 := by
      rcases h3 with h3 | ⟨b, off, ha, -⟩
      · exact h3
      · cases ha
    subst h0
    have hu : us = [] := List.eq_nil_of_length_eq_zero (by rw [h2.1, ← h1])
    subst hu
    refine wpList_plain hgd fun K hK => ?_
    have hr := run_app_none w g k c o.type
    unfold Oper.wp execOp
    simp only [ho, resolve, invoke, builtin, Sem.run_bind, Sem.run_pure, Result.andThen_ok, List.map_toArray, List.map_cons, List.map_nil, hs, hx, hr]
    exact hK _ _ (h _ w [] hown h2 hbel hB)
  | some ad =>
    refine wpList_append_own w hgd s x 41 ho B 32 i0 (.slice none 0 0) 1 24 Try.underlying41 hi hz0 hz1 hz2 rfl (by decide) _ 0 [] hs hown ad len c us hx (by rw [h2.1, ← h1, Nat.mul_one]) ?_ h2.one (by unfold maxLen; omega) (by omega) hB (fun v' w' e1 e2 _ => ?_)
    · intro j u hu
      have hj : j < us.length := (List.getElem?_eq_some_iff.1 hu).1
      have hjl : j < len := by rw [h2.1, ← h1] at hj; exact hj
      obtain ⟨b, off, ha, hb, hc⟩ := h3.resolve_left (by omega)
      cases ha
      have e2 : (⟨b, off, none⟩ : Addr).add j = ⟨b, off + j, none⟩ := by unfold Addr.add; split <;> simp_all
      rw [e2]
      have := atV_some hj
      rw [this] at hu
      cases hu
      exact (hbel.cell (p := ⟨b, off + j, none⟩) (by show b < B; omega)).trans (hc j hjl)
    · have hb2 : Below B wr w' := hbel.grown e2 hB (fun q hq => by cases hq; exact hg)
      rw [Nat.zero_add, List.nil_append] at e1
      exact h v' w' us e1 h2 hb2 (Nat.le_trans hB e2.size)

/-- An append of one list more, which lay in wr as well. -/
theorem list_appSh1 {ops : Array Oper} {rest : List Oper} {o : Oper} {a : Act} {w wr w1 : World} {Q : Exit → Act → World → Prop} (hgd : o.guard = none) (s x : Operand)
    (ho : o.op = .call { callee := .builtin .append, args := #[s, x], argTypes := #[41, 41] })
    (B : Nat) (v : Value) (hs : a.eval s = v) (us : List Value) (xss : List (List Nd)) (len : Nat) (hrow : w1.ownsRow B 32 1 v len us) (hsh : ShC wr us xss) (hlen : len = xss.length) (hwr : wr.heap.size ≤ B) (hbel : Below B wr w1) (hB : B ≤ w1.heap.size) (hn : len ≤ 1048576)
    (a' : Option Addr) (xs : List Nd) (c' : Nat) (hat : AtN wr a' xs.length xs) (hc1 : xs.length ≤ c') (hc2 : c' ≤ maxLen) (t : TypeId) (hw : w = w1.alloc (.cells #[.slice a' xs.length c'] t)) (c : Nat) (hx : a.eval x = .slice (some ⟨w1.heap.size, 0, none⟩) 1 c)
    (h : ∀ a2 c2 w', AtNC w' a2 (len + 1) (xss ++ [xs]) → Below B wr w' → B ≤ w'.heap.size → wpList Try.prog ops Q rest (a.put o.dst (.slice a2 (len + 1) c2)) w') : wpList Try.prog ops Q (o :: rest) a w := by
  subst hw
  have hra : (w1.alloc (.cells #[.slice a' xs.length c'] t)).ownsRow B 32 1 v len us := World.ownsRow.alloc hrow _
  have hBa : B ≤ (w1.alloc (.cells #[.slice a' xs.length c'] t)).heap.size := by simp; omega
  refine list_appL hgd s x ho B v len us hs hra ⟨w1.heap.size, 0, none⟩ c (.slice a' xs.length c') hx (World.cell?_alloc_at _ _ _ _ rfl) rfl (by omega) hBa ?_
  intro v' w' e1 e2
  have hb2 : Below B wr w' := (hbel.alloc hB _).grown e2 hBa (fun k hk => (World.ownsRow.lt hra k hk).1)
  have hsn : ShC w' (us ++ [.slice a' xs.length c']) (xss ++ [xs]) := (hsh.snoc hat hc1 hc2).keep hb2 hwr
  obtain ⟨a2, c2, rfl, hat2⟩ := hsn.at e1 (by rw [hlen]; simp)
  have hl2 : (xss ++ [xs]).length = len + 1 := by rw [hlen]; simp
  rw [hl2] at hat2 ⊢
  exact h a2 c2 w' hat2 hb2 (Nat.le_trans hBa e2.size)

end Go.Proofs.Ytnoaaklkbfbdbaa
