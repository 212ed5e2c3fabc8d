/- Contracts of the drawing functions of the model's chapter 2: they return some list of nodes that is not long, whatever the code. Conditions: those in the theorems. -/
import Derived.Test.YtfkdefmafhlmnaaJn03
import Derived.Test.YtfkdefmafhlmnaaJn04
namespace Go.Proofs.Ytfkdefmafhlmnaa
open Go.RowKit

theorem grown_of_below {w w' : World} (h : Below w.heap.size w w') (r : Option Nat) : w.grownBy w' r := ⟨h.os, h.tape, h.output, h.size, fun k hk _ => h.block k hk⟩
theorem OwnN.keepG {w w' : World} {B b : Nat} {v : Value} {xs : List Nd} (h : OwnN w B v xs) (hg : w.grownBy w' (some b)) (hb : b < B) : OwnN w' B v xs := by
  refine World.ownsRow.kept h hg ?_
  cases hv : v.ownBlock with
  | none => exact .inl rfl
  | some k =>
    right
    intro e
    have := (World.ownsRow.lt h k hv).1
    cases e
    omega
theorem l02Var_any (s : Int) (w : World) : Calls Try.prog 70 #[.int .i64 s] w fun e w' => ∃ v, e = .returned v ∧ OwnN w' w.heap.size v [(0, s)] ∧ Below w.heap.size w w' := by
  go_enter Try.func70, Try.ntmps70
  go_wp2
  go_ret
  exact ⟨_, rfl, litN w _ 0 s (Nat.le_refl _), (Below.refl _ _).alloc (Nat.le_refl _) _⟩

/-- What a drawing function leaves: a list of its own, of at most n nodes and of one at least, and the source, which alone was turned. -/
def DrewN (w : World) (b : Nat) (a : Option Addr) (len cap : Nat) (n : Nat) (e : Ending) (w' : World) : Prop :=
  (∃ v zs, e = .returned v ∧ OwnN w' w.heap.size v zs ∧ 0 < zs.length ∧ zs.length ≤ n) ∧ Src w' b a len cap ∧ w.grownBy w' (some b)

end Go.Proofs.Ytfkdefmafhlmnaa
