/- The translation of a formula into a point formula, of the model. Conditions: those in the theorems. -/
import Derived.Deep.RegionWith
import Derived.Deep.RegionLaw
import Derived.RegionTactic
import Derived.BigRegion
import Derived.ChangeAlike
import Derived.Test.YtfkdefmafhlmnaaCnP
import Derived.Test.YtfkdefmafhlmnaaPoM
import Derived.Test.YtfkdefmafhlmnaaJn06
namespace Go.Proofs.Ytfkdefmafhlmnaa
open Go.RowKit

/-- The translation of a formula for a point. -/
def trP : Fm → Int → Pt
  | .va s, x => .le 2 s x
  | .fa, _ => .le 3 0 0
  | .bi k a b, x => .bi (k + 2) (trP a x) (trP b x)
  | .un k a, x => .un (if k = 5 then 7 else 8) (1 - x) (.bi (if k = 5 then 6 else 4) (.le 0 x (1 - x)) (trP a (1 - x)))
theorem trP_ok (f : Fm) (hf : f.ok) : ∀ x, (x = 0 ∨ x = 1) → (trP f x).ok := by
  induction f with
  | va s => intro x hx; have := hf.1; have := hf.2; exact .inr (.inl ⟨rfl, by omega, by omega, by omega, by omega⟩)
  | fa => intro x hx; exact .inr (.inr ⟨rfl, rfl, rfl⟩)
  | bi k a b iha ihb => intro x hx; exact ⟨by rcases hf.1 with h | h | h <;> omega, iha hf.2.1 x hx, ihb hf.2.2 x hx⟩
  | un k a ih =>
    intro x hx
    refine ⟨?_, by omega, ?_, .inl ⟨.inl rfl, by omega, by omega, by omega, by omega⟩, ih hf.2 _ (by omega)⟩
    · rcases hf.1 with rfl | rfl
      · rw [if_pos rfl]; omega
      · rw [if_neg (by omega)]; omega
    · rcases hf.1 with rfl | rfl
      · rw [if_pos rfl]; omega
      · rw [if_neg (by omega)]; omega
theorem trP_sz (f : Fm) : ∀ x, (trP f x).sz ≤ 3 * f.sz := by
  induction f with
  | va s => intro x; simp [trP, Pt.sz, Fm.sz]
  | fa => intro x; simp [trP, Pt.sz, Fm.sz]
  | bi k a b iha ihb => intro x; have := iha x; have := ihb x; simp only [trP, Pt.sz, Fm.sz]; omega
  | un k a ih => intro x; have := ih (1 - x); simp only [trP, Pt.sz, Fm.sz]; omega

theorem l10One_any (k f s : Int) (w : World) : Calls Try.prog 79 #[.int .i64 k, .int .i64 f, .int .i64 s] w fun e w' => ∃ v, e = .returned v ∧ OwnP w' w.heap.size v [(k, f, s)] ∧ Below w.heap.size w w' := by
  go_enter Try.func79, Try.ntmps79
  go_wp2
  go_ret
  exact ⟨_, rfl, litP w _ k f s (Nat.le_refl _), (Below.refl _ _).alloc (Nat.le_refl _) _⟩
theorem l10False_any (w : World) : Calls Try.prog 80 #[] w fun e w' => ∃ v, e = .returned v ∧ OwnP w' w.heap.size v [(3, 0, 0)] ∧ Below w.heap.size w w' := by
  go_enter Try.func80, Try.ntmps80
  go_wp2
  go_ret
  exact ⟨_, rfl, litP w _ 3 0 0 (Nat.le_refl _), (Below.refl _ _).alloc (Nat.le_refl _) _⟩
set_option maxHeartbeats 1000000 in
theorem l10Bind_any (k x : Int) (ys : List Pd) (a : Option Addr) (len cap : Nat) (w : World) (hl : len ≤ 1048576) (hp : 0 < len) (h : AtP w a len ys) :
    Calls Try.prog 81 #[.int .i64 k, .int .i64 x, .slice a len cap] w fun e w' => ∃ v, e = .returned v ∧ OwnP w' w.heap.size v ((k, x, 0) :: ys) ∧ Below w.heap.size w w' := by
  have BA := Lib.hid ((Below.refl w.heap.size w).alloc (Nat.le_refl _) (.cells #[.int .i64 k, .int .i64 x, .int .i64 0] 61))
  have HA := Lib.hid (h.keep BA.out (Nat.le_refl _))
  have OL := Lib.hid (litP w w.heap.size k x 0 (Nat.le_refl _))
  clear h
  go_enter Try.func81, Try.ntmps81
  go_wp2_with (at_builtin; refine list_appPt rfl _ _ rfl w.heap.size _ [(k, x, 0)] rfl OL.out ys a _ cap rfl HA.out hp (by simp; omega) BA.out.size ?_)
  intro v1 w1 ho1 hg1
  have B1 := Lib.hid (below_appPt BA.out (Below.refl _ _) BA.out.size OL.out hg1)
  have O1 := Lib.hid ho1
  clear ho1 hg1
  go_wp2
  go_ret
  exact ⟨_, rfl, O1.out, B1.out⟩
set_option maxHeartbeats 1000000 in
theorem l10Pair_any (k : Int) (xs ys : List Pd) (a a' : Option Addr) (len cap len' cap' : Nat) (w : World) (hl : len + len' ≤ 1048576) (hp : 0 < len) (hp' : 0 < len') (h : AtP w a len xs) (h' : AtP w a' len' ys) :
    Calls Try.prog 82 #[.int .i64 k, .slice a len cap, .slice a' len' cap'] w fun e w' => ∃ v, e = .returned v ∧ OwnP w' w.heap.size v ((k, 0, 0) :: (xs ++ ys)) ∧ Below w.heap.size w w' := by
  have BA := Lib.hid ((Below.refl w.heap.size w).alloc (Nat.le_refl _) (.cells #[.int .i64 k, .int .i64 0, .int .i64 0] 61))
  have HA := Lib.hid (h.keep BA.out (Nat.le_refl _))
  have HB := Lib.hid h'
  have hx := h.1
  have OL := Lib.hid (litP w w.heap.size k 0 0 (Nat.le_refl _))
  have HX := Lib.hid hx
  clear h h' hx
  go_enter Try.func82, Try.ntmps82
  go_wp2_with (at_builtin; refine list_appPt rfl _ _ rfl w.heap.size _ [(k, 0, 0)] rfl OL.out xs a _ cap rfl HA.out hp (by simp; omega) BA.out.size ?_)
  intro v1 w1 ho1 hg1
  have B1 := Lib.hid (below_appPt BA.out (Below.refl _ _) BA.out.size OL.out hg1)
  have O1 := Lib.hid ho1
  have HC := Lib.hid (HB.out.keep B1.out (Nat.le_refl _))
  clear ho1 hg1
  go_wp2_with (at_builtin; refine list_appPt rfl _ _ rfl w.heap.size _ _ rfl O1.out ys a' _ cap' rfl HC.out hp' (by have := HX.out; simp; omega) B1.out.size ?_)
  intro v2 w2 ho2 hg2
  have B2 := Lib.hid (below_appPt B1.out (Below.refl _ _) B1.out.size O1.out hg2)
  have O2 := Lib.hid ho2
  clear ho2 hg2
  go_wp2
  go_ret
  exact ⟨_, rfl, by simpa using O2.out, B2.out⟩

end Go.Proofs.Ytfkdefmafhlmnaa
