/- Append to a list of strings that a call owns, with the place of the new block. Conditions: those in the theorems. -/
import Derived.Maps.AppendAt
import Derived.Test.YtbaeacppojpplaaJn04
namespace Go.Proofs.Ytbaeacppojpplaa
open Go.RowKit

theorem list_appSat {ops : Array Oper} {rest : List Oper} {o : Oper} {a : Act} {w : World} {Q : Exit → Act → World → Prop} (hgd : o.guard = none) (s x : Operand)
    (ho : o.op = .call { callee := .builtin .append, args := #[s, x], argTypes := #[35, 35] })
    (B : Nat) (v : Value) (xs : List (List UInt8)) (hs : a.eval s = v) (hown : OwnS w B v xs)
    (y : List UInt8) (ad : Addr) (c : Nat) (hx : a.eval x = .slice (some ad) 1 c) (hnews : w.cell? ad = some (.string (stx y))) (hn : xs.length ≤ 8388607) (hB : B ≤ w.heap.size)
    (h : ∀ v' w', OwnS w' B v' (xs ++ [y]) → w.grownBy w' v.ownBlock → (v'.ownBlock = v.ownBlock ∨ v'.ownBlock = some w.heap.size) → wpList Try.prog ops Q rest (a.put o.dst v') w') : wpList Try.prog ops Q (o :: rest) a w := by
  obtain ⟨i0, hi, hz0, hz1, hz2⟩ := info_parts infoStr
  refine wpList_append_own_at w hgd s x 35 ho B 9 i0 (.string ⟨#[]⟩) 1 16 Try.underlying35 hi hz0 hz1 hz2 rfl (by decide) v xs.length (cS xs) hs hown ad 1 c (cS [y]) hx (by simp [cS]) ?_ (cS_one [y]) (by unfold maxLen; omega) (by omega) hB (fun v' w' h1 h2 _ h4 => h v' w' ?_ h2 h4)
  · intro j u hu
    match j, hu with
    | 0, hu => simp [cS] at hu; subst hu; simpa [Addr.add] using hnews
    | j + 1, hu => simp [cS] at hu
  · unfold OwnS
    rw [List.length_append, cS_app]
    exact h1

theorem InS.apart {w w' : World} {v u : Value} {lo hi p : Nat} {ss : List (List UInt8)} (h : InS w lo hi u ss) (hg : w.grownBy w' v.ownBlock) (hp : ∀ g, v.ownBlock = some g → g = p ∨ hi ≤ g) (hl : p < lo) : InS w' lo hi u ss := by
  cases hv : v.ownBlock with
  | none => rw [hv] at hg; exact h.oth (lo' := 0) (hi' := 0) (fun k hk => by cases hk) hg (.inr (Nat.zero_le _))
  | some g =>
    rw [hv] at hg
    rcases hp g hv with e | e
    · exact h.oth (lo' := p) (hi' := p + 1) (fun k hk => by have := Option.some.inj hk; omega) hg (.inr (by omega))
    · exact h.oth (lo' := g) (hi' := g + 1) (fun k hk => by have := Option.some.inj hk; omega) hg (.inl e)
theorem place_next {v v' : Value} {hi p X : Nat} (h : v'.ownBlock = v.ownBlock ∨ v'.ownBlock = some X) (hp : ∀ g, v.ownBlock = some g → g = p ∨ hi ≤ g) (hX : hi ≤ X) : ∀ g, v'.ownBlock = some g → g = p ∨ hi ≤ g := by
  intro g hg
  rcases h with e | e
  · exact hp g (e ▸ hg)
  · rw [e] at hg
    have : X = g := Option.some.inj hg
    right; omega

end Go.Proofs.Ytbaeacppojpplaa
