/- Appends of lists of formulas as steps of a region that draws its order. Conditions: those in the theorems. -/
import Derived.Deep.RegionLaw
import Derived.Test.YtnoaaklkbfbdbaaSh
namespace Go.Proofs.Ytnoaaklkbfbdbaa
open Go.RowKit

theorem step_appSh {ops : Array Oper} {o : Oper} {a : Act} {w wr : World} {K : Act → World → Prop} {Q : Exit → Act → World → Prop} {E : Prop} (hgd : o.guard = none) (s x : Operand)
    (ho : o.op = .call { callee := .builtin .append, args := #[s, x], argTypes := #[41, 41] })
    (B g k : Nat) (hs : a.eval s = .slice (some ⟨g, 0, none⟩) 0 k) (hown : w.ownsRow B 32 1 (.slice (some ⟨g, 0, none⟩) 0 k) 0 [])
    (xss : List (List Nd)) (ad : Option Addr) (len c : Nat) (hx : a.eval x = .slice ad len c) (hat : AtNC wr ad len xss) (hwr : wr.heap.size ≤ B) (hbel : Below B wr w) (hn : len ≤ 1048576) (hB : B ≤ w.heap.size)
    (h : ∀ v' w' us, w'.ownsRow B 32 1 v' len us → ShC wr us xss → Below B wr w' → B ≤ w'.heap.size → w.grownBy w' (some g) → K (a.put o.dst v') w') :
    if Region.wanted o (yielded ops a.tmps) = true then Oper.wp Try.prog o a w K Q else E := by
  have hw : Region.wanted o (yielded ops a.tmps) = true := by simp [Region.wanted, hgd]
  rw [if_pos hw]
  obtain ⟨i0, hi, hz0, hz1, hz2⟩ := info_parts infoNN
  obtain ⟨h1, us, h2, h3⟩ := hat
  have hg : B ≤ g := by
    rcases hown.2 with ⟨e, -⟩ | ⟨g', cap, cur, hv, hg, -⟩
    · cases e
    · cases hv; exact hg
  cases ad with
  | none =>
    have h0 : len = 0 := by
      rcases h3 with h3 | ⟨b, off, ha, -⟩
      · exact h3
      · cases ha
    subst h0
    have hu : us = [] := List.eq_nil_of_length_eq_zero (by rw [h2.1, ← h1])
    subst hu
    have hr := run_app_none w g k c o.type
    unfold Oper.wp execOp
    simp only [ho, resolve, invoke, builtin, Sem.run_bind, Sem.run_pure, Result.andThen_ok, List.map_toArray, List.map_cons, List.map_nil, hs, hx, hr]
    exact h _ w [] hown h2 hbel hB (World.grownBy.refl _ _)
  | some ad =>
    refine wp_append_own w s x 41 ho B 32 i0 (.slice none 0 0) 1 24 Try.underlying41 hi hz0 hz1 hz2 rfl (by decide) _ 0 [] hs hown ad len c us hx (by rw [h2.1, ← h1, Nat.mul_one]) ?_ h2.one (by unfold maxLen; omega) (by omega) hB (fun v' w' e1 e2 _ => ?_)
    · intro j u hu
      have hj : j < us.length := (List.getElem?_eq_some_iff.1 hu).1
      have hjl : j < len := by rw [h2.1, ← h1] at hj; exact hj
      obtain ⟨b, off, ha, hb, hc⟩ := h3.resolve_left (by omega)
      cases ha
      have e2 : (⟨b, off, none⟩ : Addr).add j = ⟨b, off + j, none⟩ := by unfold Addr.add; split <;> simp_all
      rw [e2]
      have := atV_some hj
      rw [this] at hu
      cases hu
      exact (hbel.cell (p := ⟨b, off + j, none⟩) (by show b < B; omega)).trans (hc j hjl)
    · have hb2 : Below B wr w' := hbel.grown e2 hB (fun q hq => by cases hq; exact hg)
      rw [Nat.zero_add, List.nil_append] at e1
      exact h v' w' us e1 h2 hb2 (Nat.le_trans hB e2.size) e2

theorem step_appSh1 {ops : Array Oper} {o : Oper} {a : Act} {w wr : World} {K : Act → World → Prop} {Q : Exit → Act → World → Prop} {E : Prop} (hgd : o.guard = none) (s x : Operand)
    (ho : o.op = .call { callee := .builtin .append, args := #[s, x], argTypes := #[41, 41] })
    (B : Nat) (v : Value) (hs : a.eval s = v) (us : List Value) (xss : List (List Nd)) (len : Nat) (hrow : w.ownsRow B 32 1 v len us) (hsh : ShC wr us xss) (hlen : len = xss.length) (hwr : wr.heap.size ≤ B) (hbel : Below B wr w) (hB : B ≤ w.heap.size) (hn : len ≤ 1048576)
    (a' : Option Addr) (xs : List Nd) (c' : Nat) (hat : AtN wr a' xs.length xs) (hc1 : xs.length ≤ c') (hc2 : c' ≤ maxLen) (ad : Addr) (hz : w.cell? ad = some (.slice a' xs.length c')) (c : Nat) (hx : a.eval x = .slice (some ad) 1 c)
    (h : ∀ a2 c2 w', AtNC w' a2 (len + 1) (xss ++ [xs]) → Below B wr w' → B ≤ w'.heap.size → K (a.put o.dst (.slice a2 (len + 1) c2)) w') :
    if Region.wanted o (yielded ops a.tmps) = true then Oper.wp Try.prog o a w K Q else E := by
  have hw : Region.wanted o (yielded ops a.tmps) = true := by simp [Region.wanted, hgd]
  rw [if_pos hw]
  refine wp_appL s x ho B v len us hs hrow ad c (.slice a' xs.length c') hx hz rfl (by omega) hB ?_
  intro v' w' e1 e2
  have hb2 : Below B wr w' := hbel.grown e2 hB (fun k hk => (World.ownsRow.lt hrow k hk).1)
  have hsn : ShC w' (us ++ [.slice a' xs.length c']) (xss ++ [xs]) := (hsh.snoc hat hc1 hc2).keep hb2 hwr
  obtain ⟨a2, c2, rfl, hat2⟩ := hsn.at e1 (by rw [hlen]; simp)
  have hl2 : (xss ++ [xs]).length = len + 1 := by rw [hlen]; simp
  rw [hl2] at hat2 ⊢
  exact h a2 c2 w' hat2 hb2 (Nat.le_trans hB e2.size)

end Go.Proofs.Ytnoaaklkbfbdbaa
