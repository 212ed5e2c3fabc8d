/- 3 texts in one: SiP, SiQ, SiR. -/
import Derived.Test.YthopleeehbkjaaaJn15
import Derived.Test.YthopleeehbkjaaaJn16
/- Contracts of the program's functions of chapter 7 over two models and a link: what checks them; what is kept of a link. Conditions: those in the theorems. -/
namespace Go.Proofs.Ythopleeehbkjaaa
open Go.RowKit

set_option maxHeartbeats 1000000 in
theorem areModels2_any (n0 n1 : Int) (xs0 ys0 xs1 ys1 : List Int) (a0 : Option Addr) (l0 c0 : Nat) (b0 : Option Addr) (m0 d0 : Nat) (a1 : Option Addr) (l1 c1 : Nat) (b1 : Option Addr) (m1 d1 : Nat) (b : Nat) (w : World) (hl0 : l0 ≤ 1048576) (hm0 : m0 ≤ 1048576) (hl1 : l1 ≤ 1048576) (hm1 : m1 ≤ 1048576) (h0 : At w a0 l0 xs0) (h0' : At w b0 m0 ys0) (h1 : At w a1 l1 xs1) (h1' : At w b1 m1 ys1) (hb0 : b < w.heap.size)
    (e0 : w.cell? ⟨b, 0, none⟩ = some (.int .i64 n0)) (e1 : w.cell? ⟨b, 1, none⟩ = some (.slice a0 l0 c0)) (e2 : w.cell? ⟨b, 2, none⟩ = some (.slice b0 m0 d0)) (e3 : w.cell? ⟨b, 3, none⟩ = some (.int .i64 n1)) (e4 : w.cell? ⟨b, 4, none⟩ = some (.slice a1 l1 c1)) (e5 : w.cell? ⟨b, 5, none⟩ = some (.slice b1 m1 d1)) :
    Calls Try.prog 67 #[.slice (some ⟨b, 0, none⟩) 2 2] w fun e w' => e = .returned (.bool (isM n0 xs0 ys0 && isM n1 xs1 ys1)) ∧ Below w.heap.size w w' := by
  obtain ⟨W, hW, hb, -, hWs⟩ := boxM (w := w) n0 a0 l0 c0 b0 m0 d0 32
  have HB := Lib.hid hb
  have H0 := Lib.hid (h0.keep hb (Nat.le_refl _))
  have H0' := Lib.hid (h0'.keep hb (Nat.le_refl _))
  have H1 := Lib.hid (h1.keep hb (Nat.le_refl _))
  have H1' := Lib.hid (h1'.keep hb (Nat.le_refl _))
  have E3 := Lib.hid ((hb.cell (p := ⟨b, 3, none⟩) hb0).trans e3)
  have E4 := Lib.hid ((hb.cell (p := ⟨b, 4, none⟩) hb0).trans e4)
  have E5 := Lib.hid ((hb.cell (p := ⟨b, 5, none⟩) hb0).trans e5)
  have hsz := hb.size
  have HW := Lib.hid hW
  clear h0 h0' h1 h1' hb hW e3 e4 e5
  cases hf0 : isM n0 xs0 ys0
  · have F0 := Lib.hid hf0
    clear hf0
    go_enter Try.func67, Try.ntmps67
    go_wp2
    refine wp_loop_rounds 3 ?_
    rw [rounds_succ]
    go_wp2_with fail
    rw [← HW.out]
    refine (implIsModel_any n0 xs0 ys0 _ _ _ _ _ _ _ hl0 hm0 H0.out H0'.out).mono ?_
    rw [F0.out]
    rintro e w1 ⟨rfl, hb⟩
    have B1 := Lib.hid (HB.out.trans (hb.mono HB.out.size))
    clear hb
    go_wp2
    go_ret
    exact ⟨rfl, B1.out⟩
  · have F0 := Lib.hid hf0
    cases hf1 : isM n1 xs1 ys1
    all_goals
      have F1 := Lib.hid hf1
      clear hf0 hf1
      go_enter Try.func67, Try.ntmps67
      go_wp2
      refine wp_loop_rounds 3 ?_
      rw [rounds_succ]
      go_wp2_with fail
      rw [← HW.out]
      refine (implIsModel_any n0 xs0 ys0 _ _ _ _ _ _ _ hl0 hm0 H0.out H0'.out).mono ?_
      rw [F0.out]
      rintro e w1 ⟨rfl, hb⟩
      have B1 := Lib.hid (HB.out.trans (hb.mono HB.out.size))
      have f3 := (hb.cell (p := ⟨b, 3, none⟩) (Nat.lt_of_lt_of_le hb0 hsz)).trans E3.out
      have f4 := (hb.cell (p := ⟨b, 4, none⟩) (Nat.lt_of_lt_of_le hb0 hsz)).trans E4.out
      have f5 := (hb.cell (p := ⟨b, 5, none⟩) (Nat.lt_of_lt_of_le hb0 hsz)).trans E5.out
      obtain ⟨V, hV, hbV, -, hVs⟩ := boxM (w := w1) n1 a1 l1 c1 b1 m1 d1 32
      have H11 := Lib.hid ((H1.out.keep hb (Nat.le_refl _)).keep hbV (Nat.le_refl _))
      have H11' := Lib.hid ((H1'.out.keep hb (Nat.le_refl _)).keep hbV (Nat.le_refl _))
      have B1' := Lib.hid (B1.out.trans (hbV.mono B1.out.size))
      have HV := Lib.hid hV
      clear hb e0 e1 e2 hbV hV hVs
      go_wp2
      rw [rounds_succ]
      go_wp2_with fail
      clear f3 f4 f5
      rw [← HV.out]
      refine (implIsModel_any n1 xs1 ys1 _ _ _ _ _ _ _ hl1 hm1 H11.out H11'.out).mono ?_
      rw [F1.out]
      rintro e w2 ⟨rfl, hb⟩
      have B2 := Lib.hid (B1'.out.trans (hb.mono B1'.out.size))
      clear hb
      go_wp2
      first | (rw [rounds_succ]; go_wp2; go_ret; exact ⟨rfl, B2.out⟩) | (go_ret; exact ⟨rfl, B2.out⟩)

theorem cells6 (W : World) (n0 n1 : Int) (a0 : Option Addr) (l0 c0 : Nat) (b0 : Option Addr) (m0 d0 : Nat) (a1 : Option Addr) (l1 c1 : Nat) (b1 : Option Addr) (m1 d1 : Nat) : ∃ W' : World, W' = W.alloc (.cells #[.int .i64 n0, .slice a0 l0 c0, .slice b0 m0 d0, .int .i64 n1, .slice a1 l1 c1, .slice b1 m1 d1] 32) ∧ Below W.heap.size W W' ∧ W.heap.size < W'.heap.size ∧
    W'.cell? ⟨W.heap.size, 0, none⟩ = some (.int .i64 n0) ∧ W'.cell? ⟨W.heap.size, 1, none⟩ = some (.slice a0 l0 c0) ∧ W'.cell? ⟨W.heap.size, 2, none⟩ = some (.slice b0 m0 d0) ∧ W'.cell? ⟨W.heap.size, 3, none⟩ = some (.int .i64 n1) ∧ W'.cell? ⟨W.heap.size, 4, none⟩ = some (.slice a1 l1 c1) ∧ W'.cell? ⟨W.heap.size, 5, none⟩ = some (.slice b1 m1 d1) :=
  ⟨_, rfl, (alloc_keep _ _).1, by simp, World.cell?_alloc_at _ _ _ _ rfl, World.cell?_alloc_at _ _ _ _ rfl, World.cell?_alloc_at _ _ _ _ rfl, World.cell?_alloc_at _ _ _ _ rfl, World.cell?_alloc_at _ _ _ _ rfl, World.cell?_alloc_at _ _ _ _ rfl⟩

/-- The call of areModels on two models, as its callers make it. -/
theorem areM2_made (n0 n1 : Int) (xs0 ys0 xs1 ys1 : List Int) (a0 : Option Addr) (l0 c0 : Nat) (b0 : Option Addr) (m0 d0 : Nat) (a1 : Option Addr) (l1 c1 : Nat) (b1 : Option Addr) (m1 d1 : Nat) (W : World) (hl0 : l0 ≤ 1048576) (hm0 : m0 ≤ 1048576) (hl1 : l1 ≤ 1048576) (hm1 : m1 ≤ 1048576) (h0 : At W a0 l0 xs0) (h0' : At W b0 m0 ys0) (h1 : At W a1 l1 xs1) (h1' : At W b1 m1 ys1) {k : Nat} (hk : W.heap.size = k) :
    Calls Try.prog 67 #[.slice (some ⟨k, 0, none⟩) 2 2] (W.alloc (.cells #[.int .i64 n0, .slice a0 l0 c0, .slice b0 m0 d0, .int .i64 n1, .slice a1 l1 c1, .slice b1 m1 d1] 32)) fun e w' => e = .returned (.bool (isM n0 xs0 ys0 && isM n1 xs1 ys1)) ∧ Below W.heap.size W w' := by
  subst hk
  obtain ⟨V, hV, bV, hVs, d0, d1, d2, d3, d4, d5⟩ := cells6 W n0 n1 a0 l0 c0 b0 m0 d0 a1 l1 c1 b1 m1 d1
  rw [← hV]
  exact (areModels2_any n0 n1 xs0 ys0 xs1 ys1 a0 l0 c0 b0 m0 _ a1 l1 c1 b1 m1 _ _ V hl0 hm0 hl1 hm1 (h0.keep bV (Nat.le_refl _)) (h0'.keep bV (Nat.le_refl _)) (h1.keep bV (Nat.le_refl _)) (h1'.keep bV (Nat.le_refl _)) hVs d0 d1 d2 d3 d4 d5).mono fun e w' ⟨e1, hb⟩ => ⟨e1, bV.trans (hb.mono bV.size)⟩

end Go.Proofs.Ythopleeehbkjaaa

/- Contracts of checkLink, simulated and isSimulation of the program. Conditions: those in the theorems. -/
namespace Go.Proofs.Ythopleeehbkjaaa
open Go.RowKit

def lkC (n0 : Int) (xs0 ys0 : List Int) (n1 : Int) (xs1 ys1 ls : List Int) : Int := if isM n0 xs0 ys0 && isM n1 xs1 ys1 then (if (ls.length : Int) = n0 then (if mksTo n1 ls ls.length then 0 else 1) else 1) else 1

set_option maxHeartbeats 2000000 in
theorem checkLink_any (n0 n1 : Int) (xs0 ys0 xs1 ys1 ls : List Int) (a0 : Option Addr) (l0 c0 : Nat) (b0 : Option Addr) (m0 d0 : Nat) (a1 : Option Addr) (l1 c1 : Nat) (b1 : Option Addr) (m1 d1 : Nat) (al : Option Addr) (cl : Nat) (w : World) (hl0 : l0 ≤ 1048576) (hm0 : m0 ≤ 1048576) (hl1 : l1 ≤ 1048576) (hm1 : m1 ≤ 1048576) (hll : ls.length ≤ 1048576) (h0 : At w a0 l0 xs0) (h0' : At w b0 m0 ys0) (h1 : At w a1 l1 xs1) (h1' : At w b1 m1 ys1) (hL : At w al ls.length ls) :
    Calls Try.prog 61 #[.agg #[.int .i64 n0, .slice a0 l0 c0, .slice b0 m0 d0], .agg #[.int .i64 n1, .slice a1 l1 c1, .slice b1 m1 d1], .slice al ls.length cl] w fun e w' => e = .returned (.int .i64 (lkC n0 xs0 ys0 n1 xs1 ys1 ls)) ∧ Below w.heap.size w w' := by
  obtain ⟨W, hW, HB, X0, X1, hWs⟩ := boxTw w n0 a0 l0 c0 b0 m0 d0 n1 a1 l1 c1 b1 m1 d1
  have H0 := Lib.hid (h0.keep HB.out (Nat.le_refl _))
  have H0' := Lib.hid (h0'.keep HB.out (Nat.le_refl _))
  have H1 := Lib.hid (h1.keep HB.out (Nat.le_refl _))
  have H1' := Lib.hid (h1'.keep HB.out (Nat.le_refl _))
  have HL := Lib.hid (hL.keep HB.out (Nat.le_refl _))
  have HW := Lib.hid hW
  have CM := Lib.hid (areM2_made n0 n1 xs0 ys0 xs1 ys1 a0 l0 c0 b0 m0 d0 a1 l1 c1 b1 m1 d1 W hl0 hm0 hl1 hm1 H0.out H0'.out H1.out H1'.out hWs)
  clear h0 h0' h1 h1' hL hW hWs
  obtain ⟨lt0, x0, x1, x2⟩ := X0.out
  obtain ⟨lt1, y0, y1, y2⟩ := X1.out
  cases hf : (isM n0 xs0 ys0 && isM n1 xs1 ys1)
  · have F := Lib.hid hf
    have C := Lib.hid (show lkC n0 xs0 ys0 n1 xs1 ys1 ls = 1 by rw [lkC, hf]; rfl)
    clear hf
    go_enter Try.func61, Try.ntmps61
    go_wp2_with fail
    rw [← HW.out]
    refine CM.out.mono ?_
    rw [F.out]
    rintro e w1 ⟨rfl, hb⟩
    have B1 := Lib.hid (HB.out.trans (hb.mono HB.out.size))
    clear hb
    go_wp2
    go_ret
    exact ⟨ret_int C.out.symm, B1.out⟩
  · have F := Lib.hid hf
    by_cases hln : (ls.length : Int) = n0
    · have LN := Lib.hid hln
      have hn1 : 0 ≤ n1 := by rw [Bool.and_eq_true] at hf; obtain ⟨-, e, -⟩ := isM_ok hf.2; omega
      have hn1' : n1 ≤ 30 := by rw [Bool.and_eq_true] at hf; obtain ⟨-, e, e8, -⟩ := isM_ok hf.2; omega
      have C := Lib.hid (show lkC n0 xs0 ys0 n1 xs1 ys1 ls = if mksTo n1 ls ls.length then 0 else 1 by rw [lkC, hf, if_pos rfl, if_pos hln])
      clear hf
      subst hln
      go_enter Try.func61, Try.ntmps61
      go_wp2_with fail
      rw [← HW.out]
      refine CM.out.mono ?_
      rw [F.out]
      rintro e w1 ⟨rfl, hb⟩
      have B1 := Lib.hid (HB.out.trans (hb.mono HB.out.size))
      have L1 := Lib.hid (HL.out.keep hb (Nat.le_refl _))
      clear x0 x1 x2 y0 y1 y2
      obtain ⟨lt0, x0, x1, x2⟩ := X0.out.keep hb
      obtain ⟨lt1, y0, y1, y2⟩ := X1.out.keep hb
      clear hb
      go_wp2
      go_loop [24] (fun i => ∃ k : Nat, k ≤ ls.length ∧ i = .int .i64 k ∧ mksTo n1 ls k = true) (fun i => ls.length - (intOf i).toNat)
      case atStart => exact ⟨0, Nat.zero_le _, rfl, rfl⟩
      case round =>
        obtain ⟨k, hk, rfl, hm⟩ := hrel
        have HM := Lib.hid hm
        clear hm
        by_cases hlt : k < ls.length
        · obtain ⟨b, off, rfl, hb, hc⟩ := L1.out.2.resolve_left (by omega)
          have hcell := hc k hlt
          clear hc
          cases hbb : mskB n1 (nth ls k)
          · have HX := Lib.hid hbb
            go_wp2_with (go_at_call 103; refine (isMaskWithin_any _ _ _ hn1 hn1').mono ?_; rintro e w' ⟨rfl, rfl⟩)
            go_ret
            exact ⟨ret_int (by rw [C.out, mksTo_false (k := k + 1) hlt (by rw [mksTo, HX.out, Bool.and_false])]; rfl), B1.out⟩
          · have HX := Lib.hid hbb
            go_wp2_with (go_at_call 103; refine (isMaskWithin_any _ _ _ hn1 hn1').mono ?_; rintro e w' ⟨rfl, rfl⟩)
            go_round
            case rel => exact ⟨k + 1, hlt, by go_num, by rw [mksTo, HM.out, HX.out]; rfl⟩
            case measure => simp [intOf]; omega
        · obtain rfl : k = ls.length := by omega
          go_wp2
          go_ret
          exact ⟨ret_int (by rw [C.out, HM.out]; rfl), B1.out⟩
    · have C := Lib.hid (show lkC n0 xs0 ys0 n1 xs1 ys1 ls = 1 by rw [lkC, hf, if_pos rfl, if_neg hln])
      clear hf
      go_enter Try.func61, Try.ntmps61
      go_wp2_with fail
      rw [← HW.out]
      refine CM.out.mono ?_
      rw [F.out]
      rintro e w1 ⟨rfl, hb⟩
      have B1 := Lib.hid (HB.out.trans (hb.mono HB.out.size))
      clear x0 x1 x2 y0 y1 y2
      obtain ⟨lt0, x0, x1, x2⟩ := X0.out.keep hb
      clear hb
      go_wp2
      go_ret
      exact ⟨ret_int C.out.symm, B1.out⟩

theorem own_zero {w : World} {B : Nat} {v : Value} {xs : List Int} (h : Own w B v xs) (h0 : 0 < xs.length) : ∃ g c, v = .slice (some ⟨g, 0, none⟩) xs.length c ∧ B ≤ g := by
  obtain ⟨-, ⟨-, e⟩ | ⟨g, c, cur, e, hB, -⟩⟩ := h
  · omega
  · exact ⟨g, c, e, hB⟩
theorem own_cell {w : World} {B g c n : Nat} {F : Nat → Int} (h : Own w B (.slice (some ⟨g, 0, none⟩) n c) (tab n F)) {j : Nat} (hj : j < n) : w.cell? ⟨g, j, none⟩ = some (.int .i64 (F j)) ∧ w.frozen? ⟨g, j, none⟩ = false := by
  unfold Own at h
  rw [tab_len] at h
  exact ⟨(World.ownsRow.cellAt h j (by omega)).trans (tab_get hj), World.ownsRow.frozenAt h j⟩
theorem own_set {w : World} {B g c n : Nat} {F G : Nat → Int} {z : Int} {j : Nat} (h : Own w B (.slice (some ⟨g, 0, none⟩) n c) (tab n F)) (e : ∀ t, (if t = j then z else F t) = G t) : Own (w.setCell ⟨g, j, none⟩ (.int .i64 z)) B (.slice (some ⟨g, 0, none⟩) n c) (tab n G) := by
  unfold Own at h ⊢
  rw [tab_len] at h ⊢
  rw [← tab_set e]
  exact (World.ownsRow.stored h j _).1
theorem own_blk {w : World} {B g c n : Nat} {xs : List Int} (h : Own w B (.slice (some ⟨g, 0, none⟩) n c) xs) : B ≤ g ∧ g < w.heap.size := by
  obtain ⟨-, ⟨e, -⟩ | ⟨g', c', cur, e, hB, hh, -⟩⟩ := h
  · cases e
  · cases e; exact ⟨hB, (Array.getElem?_eq_some_iff.1 hh).1⟩

/-- A row of which the entries below x are done, that at x is s, the others are as they were. -/
def ktF (F G : Nat → Int) (x : Nat) (s : Int) (t : Nat) : Int := if t < x then F t else if t = x then s else G t
theorem kt_at (F G : Nat → Int) (x : Nat) (s : Int) : ktF F G x s x = s := by unfold ktF; rw [if_neg (by omega), if_pos rfl]
theorem kt_set {F G : Nat → Int} {x : Nat} {s z s' : Int} (h : z = s') (t : Nat) : (if t = x then z else ktF F G x s t) = ktF F G x s' t := by
  subst h
  unfold ktF
  by_cases e : t = x
  · subst e; rw [if_pos rfl, if_neg (by omega), if_pos rfl]
  · rw [if_neg e, if_neg e, if_neg e]
theorem kt_next {F G : Nat → Int} {x : Nat} : ktF F G x (F x) = ktF F G (x + 1) (G (x + 1)) := by
  funext t
  unfold ktF
  by_cases h : t < x
  · rw [if_pos h, if_pos (by omega)]
  · by_cases e : t = x
    · subst e; rw [if_neg h, if_pos rfl, if_pos (by omega)]
    · rw [if_neg h, if_neg e, if_neg (by omega)]
      split
      · rename_i e2; rw [e2]
      · rfl
theorem kt_start {F G : Nat → Int} : ktF F G 0 (G 0) = G := by
  funext t
  unfold ktF
  rw [if_neg (by omega)]
  split
  · rename_i e; rw [e]
  · rfl
theorem kt_all {F G : Nat → Int} {n : Nat} : tab n (ktF F G n (G n)) = tab n F := by
  unfold tab
  refine List.map_congr_left fun t ht => ?_
  have := List.mem_range.1 ht
  unfold ktF
  rw [if_pos this]

end Go.Proofs.Ythopleeehbkjaaa

/- Contracts of simulated and isSimulation of the program. Conditions: those in the theorems. -/
namespace Go.Proofs.Ythopleeehbkjaaa
open Go.RowKit

set_option maxHeartbeats 4000000 in
set_option maxRecDepth 100000 in
theorem simulated_any (n0 n1 : Int) (xs ys ps zs ls : List Int) (a0 : Option Addr) (c0 : Nat) (b0 : Option Addr) (d0 : Nat) (a1 : Option Addr) (c1 : Nat) (b1 : Option Addr) (d1 : Nat) (al : Option Addr) (cl : Nat) (w : World) (h0 : Mo w n0 a0 b0 xs ys) (h1 : Mo w n1 a1 b1 ps zs) (hl : At w al ls.length ls) (hl8 : ls.length = xs.length) :
    Calls Try.prog 70 #[.agg #[.int .i64 n0, .slice a0 xs.length c0, .slice b0 ys.length d0], .agg #[.int .i64 n1, .slice a1 ps.length c1, .slice b1 zs.length d1], .slice al ls.length cl] w fun e w' => ∃ v, e = .returned v ∧ Own w' w.heap.size v (simL xs ys ps zs ls) ∧ Below w.heap.size w w' := by
  obtain ⟨W, hW, HB, X0, X1, hWs⟩ := boxTw w n0 a0 xs.length c0 b0 ys.length d0 n1 a1 ps.length c1 b1 zs.length d1
  have M0 := Lib.hid (h0.keep HB.out)
  have M1 := Lib.hid (h1.keep HB.out)
  have HL := Lib.hid (hl.keep HB.out (Nat.le_refl _))
  have HW := Lib.hid hW
  have x8 := h0.2.1
  have p8 := h1.2.1
  have Y6 := Lib.hid h0.2.2.2.1
  have Z6 := Lib.hid h1.2.2.2.1
  have hyl : ys.length ≤ 6 := by rw [h0.2.2.2.1]; exact Nat.le_refl _
  have hws : w.heap.size ≤ W.heap.size := by omega
  have hll : ls.length ≤ 8 := by omega
  have LL := Lib.hid hl8
  obtain rfl := h0.1
  obtain rfl := h1.1
  clear h0 h1 hl hW hWs hl8
  go_enter Try.func70, Try.ntmps70
  go_wp2_with fail
  rw [← HW.out]
  refine (slCloneI_any ls _ _ _ _ (by omega) HL.out).mono ?_
  rintro e w2 ⟨v2, rfl, ho, hb⟩
  have B2 := Lib.hid hb
  have O2 := Lib.hid (show Own w2 W.heap.size v2 (tab ls.length (ktF (simV xs ys ps zs ls) (nth ls) 0 (nth ls 0))) by rw [kt_start, tab_self]; exact ho)
  obtain ⟨a2, k2, rfl, -, -, -, -⟩ := ho.at
  clear ho hb
  go_wp2
  go_loopw [17] (fun i wr => ∃ x : Nat, x ≤ ls.length ∧ i = .int .i64 x ∧ Hid (Own wr W.heap.size (.slice a2 ls.length k2) (tab ls.length (ktF (simV xs ys ps zs ls) (nth ls) x (nth ls x)))) ∧ Hid (Below W.heap.size W wr)) (fun i _ => ls.length - (intOf i).toNat)
  case atStart => exact ⟨0, Nat.zero_le _, rfl, O2, B2⟩
  case round =>
    clear O2 B2
    obtain ⟨x, hx, rfl, O, B⟩ := hrel
    obtain ⟨lt0, x0, x1, x2⟩ := X0.out.keep B.out
    by_cases hlt : x < ls.length
    · obtain ⟨g, k2', e2, hg⟩ := own_zero O.out (by rw [tab_len]; omega)
      rw [tab_len] at e2
      cases e2
      have NB := Lib.hid (own_blk O.out)
      obtain ⟨-, -, -, -, hxx, hy⟩ := M0.out.keep B.out
      go_wp2
      clear x0 x1 x2 hxx hy
      go_loopw [23] (fun i wr => ∃ v : Nat, v ≤ ys.length ∧ i = .int .i64 v ∧ Hid (Own wr W.heap.size (.slice (some ⟨g, 0, none⟩) ls.length k2) (tab ls.length (ktF (simV xs ys ps zs ls) (nth ls) x (kvT ys zs x (nth ls x) v)))) ∧ Hid (Below W.heap.size W wr)) (fun i _ => ys.length - (intOf i).toNat)
      case atStart => exact ⟨0, Nat.zero_le _, rfl, O, B⟩
      case round =>
        clear O B
        obtain ⟨v, hv, rfl, O, B⟩ := hrel
        obtain ⟨lt0, x0, x1, x2⟩ := X0.out.keep B.out
        obtain ⟨lt1, y0, y1, y2⟩ := X1.out.keep B.out
        by_cases hlv : v < ys.length
        · obtain ⟨-, -, -, -, -, hy⟩ := M0.out.keep B.out
          obtain ⟨-, -, -, -, -, hz⟩ := M1.out.keep B.out
          obtain ⟨yb, yo, rfl, hyb, hyc⟩ := hy.2.resolve_left (by omega)
          have hcy := hyc v hlv
          have hlv2 : v < zs.length := by have := Y6.out; have := Z6.out; omega
          obtain ⟨zb, zo, rfl, hzb, hzc⟩ := hz.2.resolve_left (by omega)
          have hcz := hzc v hlv2
          clear hyc hzc hy hz
          obtain ⟨hck, hfk⟩ := own_cell O.out hlt
          rw [kt_at] at hck
          cases hbit : bitB (nth ys v) x
          · have HX := Lib.hid hbit
            go_wp2_with (go_at_call 95; refine (hasMember_any _ _ _ (by omega) (by omega)).mono ?_; rintro e w' ⟨rfl, rfl⟩)
            go_roundw
            case rel => exact ⟨v + 1, hlv, by go_num, Lib.hid (by rw [kvT, HX.out]; exact O.out), B⟩
            case measure => simp [intOf]; omega
          · have HX := Lib.hid hbit
            go_wp2_with (go_at_call 95; refine (hasMember_any _ _ _ (by omega) (by omega)).mono ?_; rintro e w' ⟨rfl, rfl⟩)
            go_region
            all_goals
              go_wp2
              go_roundw
              case rel => exact ⟨v + 1, hlv, by go_num, Lib.hid (own_set (show Own (World.drew _) _ _ _ from O.out) (fun t => kt_set (by rw [kvT, HX.out]; rfl) t)), Lib.hid ((B.out.drew).setCell (p := ⟨g, x, none⟩) NB.out.1 _)⟩
              case measure => simp [intOf]; omega
        · obtain rfl : v = ys.length := by omega
          obtain ⟨s0, hs0⟩ : ∃ s, s = kvT ys zs x (nth ls x) ys.length := ⟨_, rfl⟩
          rw [← hs0] at O
          have S0 := Lib.hid hs0
          clear hs0
          go_wp2
          clear x0 x1 x2 y0 y1 y2
          go_loopw [45] (fun i wr => ∃ j : Nat, j ≤ ls.length ∧ i = .int .i64 j ∧ Hid (Own wr W.heap.size (.slice (some ⟨g, 0, none⟩) ls.length k2) (tab ls.length (ktF (simV xs ys ps zs ls) (nth ls) x (knT xs ps ls x s0 j)))) ∧ Hid (Below W.heap.size W wr)) (fun i _ => ls.length - (intOf i).toNat)
          case atStart => exact ⟨0, Nat.zero_le _, rfl, O, B⟩
          case round =>
            clear O B
            obtain ⟨j, hj, rfl, O, B⟩ := hrel
            by_cases hlj : j < ls.length
            · obtain ⟨lt0, x0, x1, x2⟩ := X0.out.keep B.out
              obtain ⟨lt1, y0, y1, y2⟩ := X1.out.keep B.out
              obtain ⟨-, -, -, -, hxx, -⟩ := M0.out.keep B.out
              have hlx : x < xs.length := by have := LL.out; omega
              obtain ⟨xb, xo, rfl, hxb, hxc⟩ := hxx.2.resolve_left (by omega)
              have hcx := hxc x hlx
              obtain ⟨lb, lo, rfl, hlb, hlc⟩ := (HL.out.keep B.out (Nat.le_refl _)).2.resolve_left (by omega)
              have hcl := hlc j hlj
              clear hlc hxc hxx
              obtain ⟨hck, hfk⟩ := own_cell O.out hlt
              rw [kt_at] at hck
              cases hbit : bitB (nth xs x) j
              · have HX := Lib.hid hbit
                go_wp2_with (go_at_call 95; refine (hasMember_any _ _ _ (by omega) (by omega)).mono ?_; rintro e w' ⟨rfl, rfl⟩)
                go_roundw
                case rel => exact ⟨j + 1, hlj, by go_num, Lib.hid (by rw [knT, HX.out]; exact O.out), B⟩
                case measure => simp [intOf]; omega
              · have HX := Lib.hid hbit
                have PX := Lib.hid (show ∀ (w1 : World), Below W.heap.size W w1 → Calls Try.prog 110 #[.slice a1 ps.length c1, .int .i64 (nth ls j)] w1 fun e w' => e = .returned (.int .i64 (piTo ps (nth ls j) ps.length)) ∧ w1 = w' from
                  fun w1 hw => preimage_any ps _ a1 _ c1 w1 (by omega) (M1.out.keep hw).2.2.2.2.1)
                have NG := Lib.hid (own_blk O.out)
                go_wp2_with (go_at_call 95; refine (hasMember_any _ _ _ (by omega) (by omega)).mono ?_; rintro e w' ⟨rfl, rfl⟩)
                clear hcx hcl x0 x1 x2
                rename_i wr
                go_region_with (first | (go_at_call 109; refine (frRel_any _ _ _ _ _).mono ?_; rintro e w2 ⟨rfl, hb⟩; have T1 := Lib.hid (below_of_drew hb); clear hb; have T2 := Lib.hid (B.out.trans (T1.out.mono B.out.size)); have hck2 := (T1.out.cell (p := ⟨g, x, none⟩) NG.out.2).trans hck; have hfk2 := (T1.out.frozen (p := ⟨g, x, none⟩) NG.out.2).trans hfk) | (go_at_call 110; refine (PX.out _ T2.out).mono ?_; rintro e w3 ⟨rfl, rfl⟩))
                all_goals
                  go_wp2
                  go_roundw
                  case rel => exact ⟨j + 1, hlj, by go_num, Lib.hid (own_set (Own.keep (w' := w2) O.out T1.out (Nat.le_refl _)) (fun t => kt_set (by rw [knT, HX.out]; rfl) t)), Lib.hid (T2.out.setCell (p := ⟨g, x, none⟩) NG.out.1 _)⟩
                  case measure => simp [intOf]; omega
            · obtain rfl : j = ls.length := by omega
              go_wp2
              go_roundw
              case rel => exact ⟨x + 1, hlt, by go_num, Lib.hid (by rw [← kt_next]; have q := O.out; rw [S0.out] at q; exact q), B⟩
              case measure => simp [intOf]; omega
    · obtain rfl : x = ls.length := by omega
      go_wp2
      go_ret
      exact ⟨_, rfl, by have q := O.out; rw [kt_all] at q; exact q.mono hws, HB.out.trans (B.out.mono HB.out.size)⟩

end Go.Proofs.Ythopleeehbkjaaa
