/- Contracts of SumFrames, of the model and of the program. Conditions: those in the theorems. -/
import Derived.Test.YtomldealpmohhaaJn03
namespace Go.Proofs.Ytomldealpmohhaa
open Go.RowKit

theorem boxFF (w : World) (n0 n1 : Int) (a0 a1 : Option Addr) (l0 c0 l1 c1 : Nat) : ∃ W : World, W = ((w.alloc (.cells #[.int .i64 n0, .slice a0 l0 c0] 32)).alloc (.cells #[.int .i64 n1, .slice a1 l1 c1] 32)).alloc (.cells #[.int .i64 0, .slice none 0 0] 32) ∧
    Hid (Below w.heap.size w W) ∧ Hid (Bx W w.heap.size n0 a0 l0 c0) ∧ Hid (Bx W (w.heap.size + 1) n1 a1 l1 c1) ∧ Hid (Bz W (w.heap.size + 1 + 1)) ∧ W.heap.size = w.heap.size + 1 + 1 + 1 := by
  refine ⟨_, rfl, Lib.hid ((((Below.refl w.heap.size w).alloc (Nat.le_refl _) _).alloc (by simp) _).alloc (by simp; omega) _), Lib.hid (((Bx.new w n0 a0 l0 c0 _).keep (alloc_keep _ _).1).keep (alloc_keep _ _).1), ?_, ?_, by simp⟩
  · have := (Bx.new (w.alloc (.cells #[.int .i64 n0, .slice a0 l0 c0] 32)) n1 a1 l1 c1 32).keep (alloc_keep _ (.cells #[.int .i64 0, .slice none 0 0] 32)).1
    exact Lib.hid (by simpa using this)
  · have := Bz.new ((w.alloc (.cells #[.int .i64 n0, .slice a0 l0 c0] 32)).alloc (.cells #[.int .i64 n1, .slice a1 l1 c1] 32))
    exact Lib.hid (by simpa using this)

def smTo (xs ys : List Int) (k : Int) : Nat → List Int
  | 0 => xs
  | j + 1 => smTo xs ys k j ++ [wrap64 (nth ys j * 2 ^ k.toNat)]
theorem smTo_len (xs ys : List Int) (k : Int) (j : Nat) : (smTo xs ys k j).length = xs.length + j := by
  induction j with
  | zero => rfl
  | succ j ih => simp [smTo, ih]; omega

theorem shl_spell {n : Int} (h0 : 0 ≤ n) (h1 : n ≤ 8) (y : Int) : IntKind.i64.wrap (y * 2 ^ min (IntKind.u64.wrap n).toNat 64) = wrap64 (y * 2 ^ n.toNat) := by
  rw [IntWalk.u64_in n (by omega), Nat.min_eq_left (by omega)]
  unfold wrap64
  exact IntKind.wrap_i64 _
theorem own_sm {w : World} {B k : Nat} {v : Value} {xs ys : List Int} {n : Int} (h : w.ownsRow B 2 1 v (xs.length + k) ((smTo xs ys n k).map (Value.int .i64))) : Own w B v (smTo xs ys n k) := by
  unfold Own; rw [smTo_len]; exact h
theorem sm_next {w : World} {B m : Nat} {v : Value} {xs ys : List Int} {n z : Int} {k : Nat} (hz : z = wrap64 (nth ys k * 2 ^ n.toNat)) (h : w.ownsRow B 2 1 v (m + k + 1) ((smTo xs ys n k).map (Value.int .i64) ++ [.int .i64 z])) :
    w.ownsRow B 2 1 v (m + (k + 1)) ((smTo xs ys n (k + 1)).map (Value.int .i64)) := by
  rw [smTo, List.map_append, ← hz, ← Nat.add_assoc]; exact h

def smC (n0 : Int) (x0 : List Int) (n1 : Int) (x1 : List Int) : Int := if frB n0 x0 && frB n1 x1 then (if 8 < n0 + n1 then 3 else 0) else 1
def smL (n0 : Int) (x0 : List Int) (n1 : Int) (x1 : List Int) : List Int := if smC n0 x0 n1 x1 = 0 then smTo x0 x1 n0 x1.length else []
theorem smC_1 {n0 n1 : Int} {x0 x1 : List Int} (h : (frB n0 x0 && frB n1 x1) = false) : smC n0 x0 n1 x1 = 1 := by rw [smC, h]; rfl
theorem smC_3 {n0 n1 : Int} {x0 x1 : List Int} (h : (frB n0 x0 && frB n1 x1) = true) (h2 : 8 < n0 + n1) : smC n0 x0 n1 x1 = 3 := by rw [smC, h, if_pos rfl, if_pos h2]
theorem smC_0 {n0 n1 : Int} {x0 x1 : List Int} (h : (frB n0 x0 && frB n1 x1) = true) (h2 : ¬ 8 < n0 + n1) : smC n0 x0 n1 x1 = 0 := by rw [smC, h, if_pos rfl, if_neg h2]
/-- A result that is a frame and a code. -/
def RF (w : World) (B : Nat) (n c : Int) (xs : List Int) (e : Ending) : Prop := ∃ v, e = .returned (.tuple #[v, .int .i64 c]) ∧ OwnF w B v n xs
theorem RF.bad {w : World} {B : Nat} {c c' n : Int} {xs : List Int} (h : c = c') (hn : n = 0) (hx : xs = []) : RF w B n c xs (.returned (.tuple #[.agg #[.int .i64 0, .slice none 0 0], .int .i64 c'])) := by
  subst h hn hx
  exact ⟨_, rfl, OwnF.mk (World.ownsRow_nil _ _ _ _)⟩
theorem RF.good {w : World} {B B' : Nat} {c n n' : Int} {v : Value} {xs xs' : List Int} (h : c = 0) (hn : n = n') (hx : xs = xs') (ho : OwnF w B' v n' xs') (hB : B ≤ B') : RF w B n c xs (.returned (.tuple #[v, .int .i64 0])) := by
  subst h hn hx
  exact ⟨_, rfl, ho.mono hB⟩

set_option maxHeartbeats 1000000 in
theorem areFrames2_any (n0 n1 : Int) (xs ys : List Int) (a0 a1 : Option Addr) (l0 c0 l1 c1 b : Nat) (w : World) (hl0 : l0 ≤ 1048576) (hl1 : l1 ≤ 1048576) (h0 : At w a0 l0 xs) (h1 : At w a1 l1 ys) (hb0 : b < w.heap.size)
    (d0 : w.cell? ⟨b, 0, none⟩ = some (.int .i64 n0)) (d1 : w.cell? ⟨b, 1, none⟩ = some (.slice a0 l0 c0)) (d2 : w.cell? ⟨b, 2, none⟩ = some (.int .i64 n1)) (d3 : w.cell? ⟨b, 3, none⟩ = some (.slice a1 l1 c1)) :
    Calls Try.prog 117 #[.slice (some ⟨b, 0, none⟩) 2 2] w fun e w' => e = .returned (.bool (frB n0 xs && frB n1 ys)) ∧ Below w.heap.size w w' := by
  have HB := Lib.hid (boxF (w := w) n0 a0 l0 c0)
  have H0 := Lib.hid (h0.keep HB.out (Nat.le_refl _))
  have H1 := Lib.hid (h1.keep HB.out (Nat.le_refl _))
  have E2 := Lib.hid ((HB.out.cell (p := ⟨b, 2, none⟩) hb0).trans d2)
  have E3 := Lib.hid ((HB.out.cell (p := ⟨b, 3, none⟩) hb0).trans d3)
  have hsz := HB.out.size
  cases hf0 : frB n0 xs
  · have F0 := Lib.hid hf0
    go_enter Try.func117, Try.ntmps117
    go_wp2
    refine wp_loop_rounds 3 ?_
    rw [rounds_succ]
    go_wp2_with fail
    refine (implIsFrame_any n0 xs _ _ _ _ hl0 H0.out).mono ?_
    rw [F0.out]
    rintro e w1 ⟨rfl, hb⟩
    have B1 := Lib.hid (HB.out.trans (hb.mono HB.out.size))
    clear hb
    go_wp2
    go_ret
    exact ⟨rfl, B1.out⟩
  · have F0 := Lib.hid hf0
    cases hf1 : frB n1 ys
    all_goals
      have F1 := Lib.hid hf1
      clear hf0 hf1
      go_enter Try.func117, Try.ntmps117
      go_wp2
      refine wp_loop_rounds 3 ?_
      rw [rounds_succ]
      go_wp2_with fail
      refine (implIsFrame_any n0 xs _ _ _ _ hl0 H0.out).mono ?_
      rw [F0.out]
      rintro e w1 ⟨rfl, hb⟩
      have B1 := Lib.hid (HB.out.trans (hb.mono HB.out.size))
      have e2 := (hb.cell (p := ⟨b, 2, none⟩) (Nat.lt_of_lt_of_le hb0 hsz)).trans E2.out
      have e3 := (hb.cell (p := ⟨b, 3, none⟩) (Nat.lt_of_lt_of_le hb0 hsz)).trans E3.out
      have H11 := Lib.hid ((H1.out.keep hb (Nat.le_refl _)).keep (boxF (w := w1) n1 a1 l1 c1) (Nat.le_refl _))
      have B1' := Lib.hid (B1.out.trans ((boxF (w := w1) n1 a1 l1 c1).mono B1.out.size))
      clear hb d0 d1 d2 d3
      go_wp2
      rw [rounds_succ]
      go_wp2_with fail
      clear e2 e3
      refine (implIsFrame_any n1 ys _ _ _ _ hl1 H11.out).mono ?_
      rw [F1.out]
      rintro e w2 ⟨rfl, hb⟩
      have B2 := Lib.hid (B1'.out.trans (hb.mono B1'.out.size))
      clear hb
      go_wp2
      first | (rw [rounds_succ]; go_wp2; go_ret; exact ⟨rfl, B2.out⟩) | (go_ret; exact ⟨rfl, B2.out⟩)

theorem cells4 (W : World) (n0 n1 : Int) (a0 a1 : Option Addr) (l0 c0 l1 c1 : Nat) : ∃ W' : World, W' = W.alloc (.cells #[.int .i64 n0, .slice a0 l0 c0, .int .i64 n1, .slice a1 l1 c1] 32) ∧ Below W.heap.size W W' ∧ W.heap.size < W'.heap.size ∧
    W'.cell? ⟨W.heap.size, 0, none⟩ = some (.int .i64 n0) ∧ W'.cell? ⟨W.heap.size, 1, none⟩ = some (.slice a0 l0 c0) ∧ W'.cell? ⟨W.heap.size, 2, none⟩ = some (.int .i64 n1) ∧ W'.cell? ⟨W.heap.size, 3, none⟩ = some (.slice a1 l1 c1) :=
  ⟨_, rfl, (alloc_keep _ _).1, by simp, World.cell?_alloc_at _ _ _ _ rfl, World.cell?_alloc_at _ _ _ _ rfl, World.cell?_alloc_at _ _ _ _ rfl, World.cell?_alloc_at _ _ _ _ rfl⟩

end Go.Proofs.Ytomldealpmohhaa
