/- Two models: their boxes; the same variables at two worlds, asked by the model. Conditions: those in the theorems. -/
import Derived.Test.YtomldealpmohhaaMoD
namespace Go.Proofs.Ytomldealpmohhaa
open Go.RowKit

theorem boxTw (w : World) (n0 : Int) (a0 : Option Addr) (l0 c0 : Nat) (b0 : Option Addr) (m0 d0 : Nat) (n1 : Int) (a1 : Option Addr) (l1 c1 : Nat) (b1 : Option Addr) (m1 d1 : Nat) : ∃ W : World, W = (w.alloc (.cells #[.int .i64 n0, .slice a0 l0 c0, .slice b0 m0 d0] 34)).alloc (.cells #[.int .i64 n1, .slice a1 l1 c1, .slice b1 m1 d1] 34) ∧
    Hid (Below w.heap.size w W) ∧ Hid (Bm W w.heap.size n0 a0 l0 c0 b0 m0 d0) ∧ Hid (Bm W (w.heap.size + 1) n1 a1 l1 c1 b1 m1 d1) ∧ W.heap.size = w.heap.size + 1 + 1 := by
  refine ⟨_, rfl, Lib.hid (((Below.refl w.heap.size w).alloc (Nat.le_refl _) _).alloc (by simp) _), Lib.hid ((Bm.new w n0 a0 l0 c0 b0 m0 d0 _).keep (alloc_keep _ _).1), ?_, by simp⟩
  have := Bm.new (w.alloc (.cells #[.int .i64 n0, .slice a0 l0 c0, .slice b0 m0 d0] 34)) n1 a1 l1 c1 b1 m1 d1 34
  exact Lib.hid (by simpa using this)

def atB (ys zs : List Int) (x y : Int) : Nat → Bool
  | 0 => true
  | v + 1 => atB ys zs x y v && (bitB (nth ys v) x == bitB (nth zs v) y)
theorem atB_false {ys zs : List Int} {x y : Int} {k l : Nat} (hk : k ≤ l) (h : atB ys zs x y k = false) : atB ys zs x y l = false := by
  induction l with
  | zero => simp at hk; subst hk; exact h
  | succ l ih =>
    by_cases e : k = l + 1
    · subst e; exact h
    · rw [atB, ih (by omega)]; rfl

set_option maxHeartbeats 2000000 in
theorem l07Atoms_any (n0 n1 : Int) (xs ys ps zs : List Int) (x y : Int) (a0 : Option Addr) (c0 : Nat) (b0 : Option Addr) (d0 : Nat) (a1 : Option Addr) (c1 : Nat) (b1 : Option Addr) (d1 : Nat) (w : World) (hx0 : 0 ≤ x) (hx1 : x ≤ 30) (hy0 : 0 ≤ y) (hy1 : y ≤ 30) (h0 : Mo w n0 a0 b0 xs ys) (h1 : Mo w n1 a1 b1 ps zs) :
    Calls Try.prog 86 #[.agg #[.int .i64 n0, .slice a0 xs.length c0, .slice b0 ys.length d0], .agg #[.int .i64 n1, .slice a1 ps.length c1, .slice b1 zs.length d1], .int .i64 x, .int .i64 y] w fun e w' => e = .returned (.bool (atB ys zs x y ys.length)) ∧ Below w.heap.size w w' := by
  obtain ⟨W, hW, HB, X0, X1, hWs⟩ := boxTw w n0 a0 xs.length c0 b0 ys.length d0 n1 a1 ps.length c1 b1 zs.length d1
  have M0 := Lib.hid (h0.keep HB.out)
  have M1 := Lib.hid (h1.keep HB.out)
  have HW := Lib.hid hW
  clear h0 h1 hW hWs
  go_enter Try.func86, Try.ntmps86
  go_wp2
  rw [← HW.out]
  go_loopw [9] (fun i wr => ∃ k q : Nat, k ≤ ys.length ∧ i = .int .i64 k ∧ atB ys zs x y k = true ∧ wr = W.drewN q) (fun i _ => ys.length - (intOf i).toNat)
  case atStart => exact ⟨0, 0, Nat.zero_le _, rfl, rfl, rfl⟩
  case round =>
    obtain ⟨k, q, hk, rfl, hm, rfl⟩ := hrel
    have HM := Lib.hid hm
    clear hm
    obtain ⟨-, -, -, y6, -, hy⟩ := M0.out
    obtain ⟨-, -, -, z6, -, hz⟩ := M1.out
    have hyl : ys.length ≤ 6 := by omega
    have Y6 := Lib.hid y6
    have Z6 := Lib.hid z6
    clear y6 z6
    obtain ⟨lt0, x0, x1, x2⟩ := X0.out
    obtain ⟨lt1, y0, y1, y2⟩ := X1.out
    by_cases hlt : k < ys.length
    · obtain ⟨b, off, rfl, hb, hc⟩ := hy.2.resolve_left (by omega)
      have hcell := hc k hlt
      have hlt2 : k < zs.length := by have := Y6.out; have := Z6.out; omega
      obtain ⟨b', off', rfl, hb', hc'⟩ := hz.2.resolve_left (by omega)
      have hcell2 := hc' k hlt2
      clear hc hc'
      cases hA : bitB (nth ys k) x
      all_goals
        cases hB : bitB (nth zs k) y
        all_goals
          have HA := Lib.hid hA
          have HC := Lib.hid hB
          go_wp2
          go_quiet ((first | (go_at_call_of 52 x; exact q_same (l01Bit_any _ x _ hx0 hx1) rfl) | (go_at_call_of 52 y; exact q_same (l01Bit_any _ y _ hy0 hy1) rfl)))
          go_wp2
          first
          | (go_ret
             exact ⟨ret_bool (atB_false (k := k + 1) hlt (by rw [atB, HM.out, HA.out, HC.out]; rfl)).symm, below_drewN (below_drewN HB.out _) _⟩)
          | (go_roundw
             case rel => exact ⟨k + 1, _, hlt, by go_num, by rw [atB, HM.out, HA.out, HC.out]; rfl, rfl⟩
             case measure => simp [intOf]; omega)
    · obtain rfl : k = ys.length := by omega
      go_wp2
      go_ret
      exact ⟨ret_bool HM.out.symm, below_drewN HB.out _⟩

end Go.Proofs.Ytomldealpmohhaa
