/- 2 texts in one: MoD, EqM. -/
import Derived.Test.YtbfnagmjnaacoaaIsMo
import Derived.Test.YtbfnagmjnaacoaaRm
import Derived.Test.YtbfnagmjnaacoaaMo
/- A model's parts at their places. Conditions: those in the theorems. -/
namespace Go.Proofs.Ytbfnagmjnaacoaa
open Go.RowKit

/-- A model's parts at their places. -/
def Mo (w : World) (n : Int) (a : Option Addr) (a' : Option Addr) (xs ys : List Int) : Prop := n = xs.length ∧ xs.length ≤ 8 ∧ (mksTo xs.length xs xs.length = true ∧ mksTo xs.length ys ys.length = true) ∧ ys.length = 6 ∧ At w a xs.length xs ∧ At w a' ys.length ys
theorem Mo.keep {w w' : World} {n : Int} {a a' : Option Addr} {xs ys : List Int} (h : Mo w n a a' xs ys) (hb : Below w.heap.size w w') : Mo w' n a a' xs ys := ⟨h.1, h.2.1, h.2.2.1, h.2.2.2.1, h.2.2.2.2.1.keep hb (Nat.le_refl _), h.2.2.2.2.2.keep hb (Nat.le_refl _)⟩
theorem Mo.drw {w : World} {n : Int} {a a' : Option Addr} {xs ys : List Int} (h : Mo w n a a' xs ys) : Mo w.drew n a a' xs ys := h
theorem Mo.of {w : World} {n : Int} {xs ys : List Int} {a a' : Option Addr} (h : isM n xs ys = true) (h1 : At w a xs.length xs) (h2 : At w a' ys.length ys) : Mo w n a a' xs ys := by
  obtain ⟨-, e1, e2, e3, e4, e5⟩ := isM_ok h
  exact ⟨e1, e2, ⟨e3, e5⟩, e4, h1, h2⟩

theorem isM_rel {n : Int} {xs ys : List Int} (h : isM n xs ys = true) : n = xs.length ∧ xs.length ≤ 8 ∧ Rel xs.length (nth xs) ∧ ∀ i, InMk xs.length (nth ys i) := by
  obtain ⟨h1, h2, h3, h4, h5, h6⟩ := isM_ok h
  refine ⟨h2, h3, (frB_ok h1).2.2.2, fun i => ?_⟩
  by_cases hi : i < ys.length
  · exact (mksTo_iff (by omega) ys ys.length).1 h6 i hi
  · rw [nth_high (by omega)]; exact InMk.zero _

end Go.Proofs.Ytbfnagmjnaacoaa

/- Comparing models and lists, where a seat has no marks. Conditions: those in the theorems. -/
namespace Go.Proofs.Ytbfnagmjnaacoaa
open Go.RowKit

theorem eqL_ownP (xs : List Int) (v v' : Value) (lo hi lo' hi' : Nat) (w : World) (hl : xs.length ≤ 1048576) (h : OwnIn w lo hi v xs) (h' : OwnIn w lo' hi' v' xs) :
    Calls Try.prog 21 #[v, v'] w fun e w' => e = .returned (.bool true) ∧ Below w.heap.size w w' := by
  refine (eq_own xs v v' lo hi lo' hi' w hl h h').mono ?_
  rintro e w1 ⟨rfl, q, rfl⟩
  exact ⟨rfl, below_drewN (Below.refl _ _) q⟩

set_option maxHeartbeats 400000 in
theorem eqM_inP (n : Int) (xs ys : List Int) (v v' : Value) (lo hi lo' hi' : Nat) (w : World) (hl : xs.length ≤ 1048576) (hm : ys.length ≤ 1048576) (h : InM w lo hi v n xs ys) (h' : InM w lo' hi' v' n xs ys) :
    Calls Try.prog 20 #[v, v'] w fun e w' => e = .returned (.bool true) ∧ Below w.heap.size w w' := by
  obtain ⟨a, cap, b, d, rfl, -⟩ := h.at
  obtain ⟨a', cap', b', d', rfl, -⟩ := h'.at
  obtain ⟨W, hW, HB, X, X', hWs⟩ : ∃ W, W = (w.alloc (.cells #[.int .i64 n, .slice a xs.length cap, .slice b ys.length d] 40)).alloc (.cells #[.int .i64 n, .slice a' xs.length cap', .slice b' ys.length d'] 40) ∧ Hid (Below w.heap.size w W) ∧ Hid (Bm W w.heap.size n a xs.length cap b ys.length d) ∧ Hid (Bm W (w.heap.size + 1) n a' xs.length cap' b' ys.length d') ∧ w.heap.size ≤ W.heap.size := by
    refine ⟨_, rfl, Lib.hid (((Below.refl w.heap.size w).alloc (Nat.le_refl _) _).alloc (by simp) _), Lib.hid ((Bm.new w n a xs.length cap b ys.length d _).keep (alloc_keep _ _).1), ?_, by simp; omega⟩
    have := Bm.new (w.alloc (.cells #[.int .i64 n, .slice a xs.length cap, .slice b ys.length d] 40)) n a' xs.length cap' b' ys.length d' 40
    exact Lib.hid (by simpa using this)
  have I := Lib.hid (h.below HB.out h.hi)
  have I' := Lib.hid (h'.below HB.out h'.hi)
  have HW := Lib.hid hW
  clear h h' hW
  go_enter Try.func20, Try.ntmps20
  go_wp2_with fail
  rw [← HW.out]
  refine (eqF_in n xs _ _ lo hi lo' hi' _ hl ⟨rfl, I.out.2.1, I.out.2.2.2.1⟩ ⟨rfl, I'.out.2.1, I'.out.2.2.2.1⟩).mono ?_
  rintro e w1 ⟨rfl, hb⟩
  have B1 := Lib.hid (HB.out.trans (hb.mono HB.out.size))
  have I1 := Lib.hid (I.out.below hb I.out.hi)
  have I1' := Lib.hid (I'.out.below hb I'.out.hi)
  obtain ⟨lt0, x0, x1, x2⟩ := X.out.keep hb
  obtain ⟨lt1, x0', x1', x2'⟩ := X'.out.keep hb
  clear hb
  go_wp2_with fail
  refine (eqL_ownP ys _ _ lo hi lo' hi' _ hm I1.out.2.2.1 I1'.out.2.2.1).mono ?_
  rintro e w2 ⟨rfl, hb⟩
  have B2 := Lib.hid (B1.out.trans (hb.mono B1.out.size))
  clear hb x0 x1 x2 x0' x1' x2'
  go_wp2
  go_ret
  exact ⟨rfl, B2.out⟩

end Go.Proofs.Ytbfnagmjnaacoaa
