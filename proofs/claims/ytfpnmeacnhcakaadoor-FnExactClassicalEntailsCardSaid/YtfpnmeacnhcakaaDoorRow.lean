/- Rows that a call owns: what stays when another block turns, told by the blocks' types; an append to a row of slices. Conditions: those in the theorems. -/
import Derived.Test.YtfpnmeacnhcakaaDoorListN
namespace Go.Proofs.YtfpnmeacnhcakaaDoor
open Go.RowKit

theorem wp_appL {o : Oper} {a : Act} {w : World} {K : Act → World → Prop} {Q : Exit → Act → World → Prop} (s x : Operand)
    (ho : o.op = .call { callee := .builtin .append, args := #[s, x], argTypes := #[43, 43] })
    (B : Nat) (v : Value) (n : Nat) (xs : List Value) (hs : a.eval s = v) (hown : w.ownsRow B 26 1 v n xs)
    (ad : Addr) (c : Nat) (z : Value) (hx : a.eval x = .slice (some ad) 1 c) (hz : w.cell? ad = some z) (h1 : z.oneCell' = true) (hn : n ≤ 1099511627776) (hB : B ≤ w.heap.size)
    (h : ∀ v' w', w'.ownsRow B 26 1 v' (n + 1) (xs ++ [z]) → w.grownBy w' v.ownBlock → K (a.put o.dst v') w') : o.wp Tryd.prog a w K Q := by
  obtain ⟨i0, hi, hz0, hz1, hz2⟩ := info_parts infoNN
  refine wp_append_own w s x 43 ho B 26 i0 (.slice none 0 0) 1 24 Tryd.underlying43 hi hz0 hz1 hz2 rfl (by decide) v n xs hs hown ad 1 c [z] hx rfl ?_ ?_ (by unfold maxLen; omega) (by omega) hB (fun v' w' h1 h2 _ => h v' w' h1 h2)
  · intro j u hu
    match j, hu with
    | 0, hu => simp at hu; subst hu; simpa [Addr.add] using hz
  · intro u hu
    simp at hu; subst hu; exact h1
theorem list_appL {ops : Array Oper} {rest : List Oper} {o : Oper} {a : Act} {w : World} {Q : Exit → Act → World → Prop} (hgd : o.guard = none) (s x : Operand)
    (ho : o.op = .call { callee := .builtin .append, args := #[s, x], argTypes := #[43, 43] })
    (B : Nat) (v : Value) (n : Nat) (xs : List Value) (hs : a.eval s = v) (hown : w.ownsRow B 26 1 v n xs)
    (ad : Addr) (c : Nat) (z : Value) (hx : a.eval x = .slice (some ad) 1 c) (hz : w.cell? ad = some z) (h1 : z.oneCell' = true) (hn : n ≤ 1099511627776) (hB : B ≤ w.heap.size)
    (h : ∀ v' w', w'.ownsRow B 26 1 v' (n + 1) (xs ++ [z]) → w.grownBy w' v.ownBlock → wpList Tryd.prog ops Q rest (a.put o.dst v') w') : wpList Tryd.prog ops Q (o :: rest) a w :=
  wpList_plain hgd fun _ hK => wp_appL s x ho B v n xs hs hown ad c z hx hz h1 hn hB fun v' w' h1 h2 => hK _ _ (h v' w' h1 h2)

end Go.Proofs.YtfpnmeacnhcakaaDoor
