/- What asks whether two models are ones. Conditions: those in the theorems. -/
import Derived.Test.YtomldealpmohhaaMoD
namespace Go.Proofs.Ytomldealpmohhaa
open Go.RowKit

set_option maxHeartbeats 1000000 in
theorem areModels2_any (n0 n1 : Int) (xs0 ys0 xs1 ys1 : List Int) (a0 : Option Addr) (l0 c0 : Nat) (b0 : Option Addr) (m0 d0 : Nat) (a1 : Option Addr) (l1 c1 : Nat) (b1 : Option Addr) (m1 d1 : Nat) (b : Nat) (w : World) (hl0 : l0 ≤ 1048576) (hm0 : m0 ≤ 1048576) (hl1 : l1 ≤ 1048576) (hm1 : m1 ≤ 1048576) (h0 : At w a0 l0 xs0) (h0' : At w b0 m0 ys0) (h1 : At w a1 l1 xs1) (h1' : At w b1 m1 ys1) (hb0 : b < w.heap.size)
    (e0 : w.cell? ⟨b, 0, none⟩ = some (.int .i64 n0)) (e1 : w.cell? ⟨b, 1, none⟩ = some (.slice a0 l0 c0)) (e2 : w.cell? ⟨b, 2, none⟩ = some (.slice b0 m0 d0)) (e3 : w.cell? ⟨b, 3, none⟩ = some (.int .i64 n1)) (e4 : w.cell? ⟨b, 4, none⟩ = some (.slice a1 l1 c1)) (e5 : w.cell? ⟨b, 5, none⟩ = some (.slice b1 m1 d1)) :
    Calls Try.prog 87 #[.slice (some ⟨b, 0, none⟩) 2 2] w fun e w' => e = .returned (.bool (isM n0 xs0 ys0 && isM n1 xs1 ys1)) ∧ Below w.heap.size w w' := by
  obtain ⟨W, hW, hb, -, hWs⟩ := boxM (w := w) n0 a0 l0 c0 b0 m0 d0 34
  have HB := Lib.hid hb
  have H0 := Lib.hid (h0.keep hb (Nat.le_refl _))
  have H0' := Lib.hid (h0'.keep hb (Nat.le_refl _))
  have H1 := Lib.hid (h1.keep hb (Nat.le_refl _))
  have H1' := Lib.hid (h1'.keep hb (Nat.le_refl _))
  have E3 := Lib.hid ((hb.cell (p := ⟨b, 3, none⟩) hb0).trans e3)
  have E4 := Lib.hid ((hb.cell (p := ⟨b, 4, none⟩) hb0).trans e4)
  have E5 := Lib.hid ((hb.cell (p := ⟨b, 5, none⟩) hb0).trans e5)
  have hsz := hb.size
  have HW := Lib.hid hW
  clear h0 h0' h1 h1' hb hW e3 e4 e5
  cases hf0 : isM n0 xs0 ys0
  · have F0 := Lib.hid hf0
    clear hf0
    go_enter Try.func87, Try.ntmps87
    go_wp2
    refine wp_loop_rounds 3 ?_
    rw [rounds_succ]
    go_wp2_with fail
    rw [← HW.out]
    refine (implIsModel_any n0 xs0 ys0 _ _ _ _ _ _ _ hl0 hm0 H0.out H0'.out).mono ?_
    rw [F0.out]
    rintro e w1 ⟨rfl, hb⟩
    have B1 := Lib.hid (HB.out.trans (hb.mono HB.out.size))
    clear hb
    go_wp2
    go_ret
    exact ⟨rfl, B1.out⟩
  · have F0 := Lib.hid hf0
    cases hf1 : isM n1 xs1 ys1
    all_goals
      have F1 := Lib.hid hf1
      clear hf0 hf1
      go_enter Try.func87, Try.ntmps87
      go_wp2
      refine wp_loop_rounds 3 ?_
      rw [rounds_succ]
      go_wp2_with fail
      rw [← HW.out]
      refine (implIsModel_any n0 xs0 ys0 _ _ _ _ _ _ _ hl0 hm0 H0.out H0'.out).mono ?_
      rw [F0.out]
      rintro e w1 ⟨rfl, hb⟩
      have B1 := Lib.hid (HB.out.trans (hb.mono HB.out.size))
      have f3 := (hb.cell (p := ⟨b, 3, none⟩) (Nat.lt_of_lt_of_le hb0 hsz)).trans E3.out
      have f4 := (hb.cell (p := ⟨b, 4, none⟩) (Nat.lt_of_lt_of_le hb0 hsz)).trans E4.out
      have f5 := (hb.cell (p := ⟨b, 5, none⟩) (Nat.lt_of_lt_of_le hb0 hsz)).trans E5.out
      obtain ⟨V, hV, hbV, -, hVs⟩ := boxM (w := w1) n1 a1 l1 c1 b1 m1 d1 34
      have H11 := Lib.hid ((H1.out.keep hb (Nat.le_refl _)).keep hbV (Nat.le_refl _))
      have H11' := Lib.hid ((H1'.out.keep hb (Nat.le_refl _)).keep hbV (Nat.le_refl _))
      have B1' := Lib.hid (B1.out.trans (hbV.mono B1.out.size))
      have HV := Lib.hid hV
      clear hb e0 e1 e2 hbV hV hVs
      go_wp2
      rw [rounds_succ]
      go_wp2_with fail
      clear f3 f4 f5
      rw [← HV.out]
      refine (implIsModel_any n1 xs1 ys1 _ _ _ _ _ _ _ hl1 hm1 H11.out H11'.out).mono ?_
      rw [F1.out]
      rintro e w2 ⟨rfl, hb⟩
      have B2 := Lib.hid (B1'.out.trans (hb.mono B1'.out.size))
      clear hb
      go_wp2
      first | (rw [rounds_succ]; go_wp2; go_ret; exact ⟨rfl, B2.out⟩) | (go_ret; exact ⟨rfl, B2.out⟩)

theorem cells6 (W : World) (n0 n1 : Int) (a0 : Option Addr) (l0 c0 : Nat) (b0 : Option Addr) (m0 d0 : Nat) (a1 : Option Addr) (l1 c1 : Nat) (b1 : Option Addr) (m1 d1 : Nat) : ∃ W' : World, W' = W.alloc (.cells #[.int .i64 n0, .slice a0 l0 c0, .slice b0 m0 d0, .int .i64 n1, .slice a1 l1 c1, .slice b1 m1 d1] 34) ∧ Below W.heap.size W W' ∧ W.heap.size < W'.heap.size ∧
    W'.cell? ⟨W.heap.size, 0, none⟩ = some (.int .i64 n0) ∧ W'.cell? ⟨W.heap.size, 1, none⟩ = some (.slice a0 l0 c0) ∧ W'.cell? ⟨W.heap.size, 2, none⟩ = some (.slice b0 m0 d0) ∧ W'.cell? ⟨W.heap.size, 3, none⟩ = some (.int .i64 n1) ∧ W'.cell? ⟨W.heap.size, 4, none⟩ = some (.slice a1 l1 c1) ∧ W'.cell? ⟨W.heap.size, 5, none⟩ = some (.slice b1 m1 d1) :=
  ⟨_, rfl, (alloc_keep _ _).1, by simp, World.cell?_alloc_at _ _ _ _ rfl, World.cell?_alloc_at _ _ _ _ rfl, World.cell?_alloc_at _ _ _ _ rfl, World.cell?_alloc_at _ _ _ _ rfl, World.cell?_alloc_at _ _ _ _ rfl, World.cell?_alloc_at _ _ _ _ rfl⟩

/-- The call of areModels on two models, as its callers make it. -/
theorem areM2_made (n0 n1 : Int) (xs0 ys0 xs1 ys1 : List Int) (a0 : Option Addr) (l0 c0 : Nat) (b0 : Option Addr) (m0 d0 : Nat) (a1 : Option Addr) (l1 c1 : Nat) (b1 : Option Addr) (m1 d1 : Nat) (W : World) (hl0 : l0 ≤ 1048576) (hm0 : m0 ≤ 1048576) (hl1 : l1 ≤ 1048576) (hm1 : m1 ≤ 1048576) (h0 : At W a0 l0 xs0) (h0' : At W b0 m0 ys0) (h1 : At W a1 l1 xs1) (h1' : At W b1 m1 ys1) {k : Nat} (hk : W.heap.size = k) :
    Calls Try.prog 87 #[.slice (some ⟨k, 0, none⟩) 2 2] (W.alloc (.cells #[.int .i64 n0, .slice a0 l0 c0, .slice b0 m0 d0, .int .i64 n1, .slice a1 l1 c1, .slice b1 m1 d1] 34)) fun e w' => e = .returned (.bool (isM n0 xs0 ys0 && isM n1 xs1 ys1)) ∧ Below W.heap.size W w' := by
  subst hk
  obtain ⟨V, hV, bV, hVs, d0, d1, d2, d3, d4, d5⟩ := cells6 W n0 n1 a0 l0 c0 b0 m0 d0 a1 l1 c1 b1 m1 d1
  rw [← hV]
  exact (areModels2_any n0 n1 xs0 ys0 xs1 ys1 a0 l0 c0 b0 m0 _ a1 l1 c1 b1 m1 _ _ V hl0 hm0 hl1 hm1 (h0.keep bV (Nat.le_refl _)) (h0'.keep bV (Nat.le_refl _)) (h1.keep bV (Nat.le_refl _)) (h1'.keep bV (Nat.le_refl _)) hVs d0 d1 d2 d3 d4 d5).mono fun e w' ⟨e1, hb⟩ => ⟨e1, bV.trans (hb.mono bV.size)⟩

end Go.Proofs.Ytomldealpmohhaa
