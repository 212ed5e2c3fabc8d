/- When worlds are told apart: the first round that differs; the contest's search. Conditions: those in the theorems. -/
import Derived.Test.YtecjmibnoldpgabBbI
import Derived.Test.YtecjmibnoldpgabFrV
namespace Go.Proofs.Ytecjmibnoldpgab
open Go.RowKit

set_option maxHeartbeats 1000000 in
theorem rtt1_any (cs : List Int) (x y R R' : Nat) (a : Option Addr) (c : Nat) (w : World) (hx : x < cs.length) (hy : y < cs.length) (h : At w a cs.length cs) (hcx : w.cell? ⟨R, 0, none⟩ = some (.int .i64 x)) (hcy : w.cell? ⟨R', 0, none⟩ = some (.int .i64 y)) :
    Calls Try.prog 80 #[.slice a cs.length c, .pointer (some ⟨R, 0, none⟩), .pointer (some ⟨R', 0, none⟩)] w fun e w' => e = .returned (.bool (!(nth cs x == nth cs y))) ∧ Below w.heap.size w w' := by
  obtain ⟨b, off, rfl, hb, hc⟩ := h.2.resolve_left (by omega)
  have g1 := hc x hx
  have g2 := hc y hy
  obtain ⟨n, hn⟩ : ∃ n, n = cs.length := ⟨_, rfl⟩
  rw [← hn] at hx hy ⊢
  have hx' : (x : Int) < (n : Int) := by omega
  have hy' : (y : Int) < (n : Int) := by omega
  obtain ⟨p, hp⟩ : ∃ p, p = nth cs x := ⟨_, rfl⟩
  obtain ⟨q, hq⟩ : ∃ q, q = nth cs y := ⟨_, rfl⟩
  rw [← hp] at g1 ⊢
  rw [← hq] at g2 ⊢
  clear hc h hp hq hn
  go_enter Try.func80, Try.ntmps80
  go_wp2
  go_region
  all_goals
    go_wp2
    go_ret
    refine ⟨?_, (Below.refl _ _).drew⟩
    cases e : (p == q) <;> simp_all

set_option maxHeartbeats 1000000 in
theorem idxF_any (cs : Nat → List Int) (L n x y R R' g cap : Nat) (w : World) (hx : x < L) (hy : y < L) (hn : n ≤ 4096) (hcs : ∀ j, (cs j).length = L) (hg : ∀ j, j < n → ∃ a c, w.cell? ⟨g, j, none⟩ = some (.slice a L c) ∧ At w a L (cs j)) (hcx : w.cell? ⟨R, 0, none⟩ = some (.int .i64 x)) (hcy : w.cell? ⟨R', 0, none⟩ = some (.int .i64 y)) :
    Calls Try.prog 79 #[.slice (some ⟨g, 0, none⟩) n cap, .func (.func 80) #[] #[.pointer (some ⟨R, 0, none⟩), .pointer (some ⟨R', 0, none⟩)]] w fun e w' => e = .returned (.int .i64 (frV (fun j => nth (cs j) x == nth (cs j) y) n)) ∧ Below w.heap.size w w' := by
  have G := Lib.hid hg
  have CX := Lib.hid hcx
  have CY := Lib.hid hcy
  have CS := Lib.hid hcs
  clear hg hcx hcy hcs
  obtain ⟨f, hf⟩ : ∃ f : Nat → Bool, f = fun j => nth (cs j) x == nth (cs j) y := ⟨_, rfl⟩
  have F := Lib.hid hf
  rw [← hf]
  clear hf
  go_enter Try.func79, Try.ntmps79
  go_wp2
  go_loopw [8] (fun i wr => ∃ k : Nat, k ≤ n ∧ i = .int .i64 k ∧ Hid (∀ j, j < k → f j = true) ∧ Hid (Below w.heap.size w wr)) (fun i _ => n - (intOf i).toNat)
  case atStart => exact ⟨0, Nat.zero_le _, rfl, Lib.hid (fun j h => absurd h (by omega)), Lib.hid (Below.refl _ _)⟩
  case round =>
    obtain ⟨k, hk, rfl, P, B⟩ := hrel
    by_cases hlt : k < n
    · obtain ⟨a, c, hgc, hat⟩ := G.out k hlt
      have hgk := (B.out.cell (p := ⟨g, k, none⟩) (World.block_lt_of_cell? _ _ hgc)).trans hgc
      have RT := Lib.hid (show Calls Try.prog 80 #[.slice a L c, .pointer (some ⟨R, 0, none⟩), .pointer (some ⟨R', 0, none⟩)] wr fun e w' => e = .returned (.bool (!(f k))) ∧ Below wr.heap.size wr w' by
        have q := rtt1_any (cs k) x y R R' a c wr (by rw [CS.out]; exact hx) (by rw [CS.out]; exact hy) (by rw [CS.out]; exact hat.keep B.out (Nat.le_refl _)) ((B.out.cell (p := ⟨R, 0, none⟩) (World.block_lt_of_cell? _ _ CX.out)).trans CX.out) ((B.out.cell (p := ⟨R', 0, none⟩) (World.block_lt_of_cell? _ _ CY.out)).trans CY.out)
        rw [CS.out] at q
        rw [F.out]
        exact q)
      clear hgc hat
      go_wp2_with fail
      refine RT.out.mono ?_
      cases hfk : f k
      · have FK := Lib.hid (fr_at P.out hfk hlt)
        rintro e w1 ⟨rfl, hb⟩
        have B1 := Lib.hid (B.out.trans (hb.mono B.out.size))
        clear hb hfk
        go_wp2
        go_ret
        exact ⟨ret_int FK.out.symm, B1.out⟩
      · have PK := Lib.hid (show ∀ j, j < k + 1 → f j = true from fun j hj => by
          by_cases e : j = k
          · rw [e]; exact hfk
          · exact P.out j (by omega))
        rintro e w1 ⟨rfl, hb⟩
        have B1 := Lib.hid (B.out.trans (hb.mono B.out.size))
        clear hb hfk
        go_wp2
        go_roundw
        case rel => exact ⟨k + 1, hlt, by go_num, PK, B1⟩
        case measure => simp [intOf]; omega
    · obtain rfl : k = n := by omega
      have FK := Lib.hid (fr_no P.out)
      go_wp2
      go_ret
      exact ⟨ret_int FK.out.symm, B.out⟩

set_option maxHeartbeats 1000000 in
theorem rtt_any (cs : Nat → List Int) (L K x y g cap : Nat) (m : Int) (a : Option Addr) (l c : Nat) (b : Option Addr) (v d : Nat) (w : World) (hx : x < L) (hy : y < L) (hn : K + 1 ≤ 4096) (hcs : ∀ j, (cs j).length = L) (hg : ∀ j, j < K + 1 → ∃ a c, w.cell? ⟨g, j, none⟩ = some (.slice a L c) ∧ At w a L (cs j)) :
    Calls Try.prog 51 #[.agg #[.int .i64 m, .slice a l c, .slice b v d, .slice (some ⟨g, 0, none⟩) (K + 1) cap], .int .i64 x, .int .i64 y] w fun e w' => e = .returned (.tuple #[.int .i64 (if frV (fun j => nth (cs j) x == nth (cs j) y) (K + 1) = -1 then 0 else frV (fun j => nth (cs j) x == nth (cs j) y) (K + 1)), .bool (!(frV (fun j => nth (cs j) x == nth (cs j) y) (K + 1) == -1))]) ∧ Below w.heap.size w w' := by
  have hmf : ∀ (fn : Fn) (first cap : Array Value) (w : World), (Instr.makeFunc fn first cap).run Try.prog w = .ok (.func fn first cap) w := fun _ _ _ _ => rfl
  obtain ⟨W, hW, hb, hC, hX, hY⟩ : ∃ W, W = ((w.alloc (.cells #[.int .i64 m, .slice a l c, .slice b v d, .slice (some ⟨g, 0, none⟩) (K + 1) cap] 59)).alloc (.cells #[.int .i64 x] 3)).alloc (.cells #[.int .i64 y] 3) ∧ Below w.heap.size w W ∧ Cn W w.heap.size m a l c b v d (.slice (some ⟨g, 0, none⟩) (K + 1) cap) ∧ W.cell? ⟨w.heap.size + 1, 0, none⟩ = some (.int .i64 x) ∧ W.cell? ⟨w.heap.size + 1 + 1, 0, none⟩ = some (.int .i64 y) := by
    refine ⟨_, rfl, (((Below.refl _ _).alloc (Nat.le_refl _) _).alloc (by simp) _).alloc (by simp <;> omega) _, ?_, ?_, ?_⟩
    · exact rowIs_below (rowIs_below (Cn.new w m a l c b v d _) (alloc_keep _ _).1 (by simp)) (alloc_keep _ _).1 (by simp <;> omega)
    · have := (alloc_keep ((w.alloc (.cells #[.int .i64 m, .slice a l c, .slice b v d, .slice (some ⟨g, 0, none⟩) (K + 1) cap] 59)).alloc (.cells #[.int .i64 x] 3)) (.cells #[.int .i64 y] 3)).1.cell (p := ⟨w.heap.size + 1, 0, none⟩) (by simp)
      rw [this]
      exact World.cell?_alloc_at _ _ _ _ (by simp)
    · exact World.cell?_alloc_at _ _ _ _ (by simp)
  have HB := Lib.hid hb
  have HW := Lib.hid hW
  obtain ⟨q0, q1, q2, q3, -⟩ := hC.lit
  have IX := Lib.hid (idxF_any cs L (K + 1) x y (w.heap.size + 1) (w.heap.size + 1 + 1) g cap W hx hy hn hcs (fun j hj => by
    obtain ⟨a, c, h1, h2⟩ := hg j hj
    exact ⟨a, c, (hb.cell (p := ⟨g, j, none⟩) (World.block_lt_of_cell? _ _ h1)).trans h1, h2.keep hb (Nat.le_refl _)⟩) hX hY)
  obtain ⟨z, hz⟩ : ∃ z, z = frV (fun j => nth (cs j) x == nth (cs j) y) (K + 1) := ⟨_, rfl⟩
  have ZZ : z = -1 ∨ 0 ≤ z := by
    rcases fr_split (fun j => nth (cs j) x == nth (cs j) y) (K + 1) with h | ⟨k, h1, h2, h3⟩
    · exact .inl (hz.trans (fr_no h))
    · right; rw [hz, fr_at h2 h3 h1]; omega
  rw [← hz] at IX ⊢
  clear hW hb hC hg hcs hX hY hz
  go_enter Try.func51, Try.ntmps51
  go_wp2_with fail
  rw [← HW.out]
  clear q0 q1 q2 q3
  refine IX.out.mono ?_
  rintro e w1 ⟨rfl, hb1⟩
  have B1 := Lib.hid (HB.out.trans (hb1.mono HB.out.size))
  clear hb1
  rcases ZZ with rfl | hz0
  · go_wp2
    go_ret2
    exact ⟨rfl, B1.out⟩
  · have hzn : ¬ z = -1 := by omega
    go_wp2
    go_ret2
    exact ⟨by simp [hzn], B1.out⟩

end Go.Proofs.Ytecjmibnoldpgab
