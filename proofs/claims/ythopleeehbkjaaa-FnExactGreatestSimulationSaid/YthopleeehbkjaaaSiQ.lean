/- Contracts of checkLink, simulated and isSimulation of the program. Conditions: those in the theorems. -/
import Derived.Test.YthopleeehbkjaaaSiP
namespace Go.Proofs.Ythopleeehbkjaaa
open Go.RowKit

def lkC (n0 : Int) (xs0 ys0 : List Int) (n1 : Int) (xs1 ys1 ls : List Int) : Int := if isM n0 xs0 ys0 && isM n1 xs1 ys1 then (if (ls.length : Int) = n0 then (if mksTo n1 ls ls.length then 0 else 1) else 1) else 1

set_option maxHeartbeats 2000000 in
theorem checkLink_any (n0 n1 : Int) (xs0 ys0 xs1 ys1 ls : List Int) (a0 : Option Addr) (l0 c0 : Nat) (b0 : Option Addr) (m0 d0 : Nat) (a1 : Option Addr) (l1 c1 : Nat) (b1 : Option Addr) (m1 d1 : Nat) (al : Option Addr) (cl : Nat) (w : World) (hl0 : l0 ≤ 1048576) (hm0 : m0 ≤ 1048576) (hl1 : l1 ≤ 1048576) (hm1 : m1 ≤ 1048576) (hll : ls.length ≤ 1048576) (h0 : At w a0 l0 xs0) (h0' : At w b0 m0 ys0) (h1 : At w a1 l1 xs1) (h1' : At w b1 m1 ys1) (hL : At w al ls.length ls) :
    Calls Try.prog 61 #[.agg #[.int .i64 n0, .slice a0 l0 c0, .slice b0 m0 d0], .agg #[.int .i64 n1, .slice a1 l1 c1, .slice b1 m1 d1], .slice al ls.length cl] w fun e w' => e = .returned (.int .i64 (lkC n0 xs0 ys0 n1 xs1 ys1 ls)) ∧ Below w.heap.size w w' := by
  obtain ⟨W, hW, HB, X0, X1, hWs⟩ := boxTw w n0 a0 l0 c0 b0 m0 d0 n1 a1 l1 c1 b1 m1 d1
  have H0 := Lib.hid (h0.keep HB.out (Nat.le_refl _))
  have H0' := Lib.hid (h0'.keep HB.out (Nat.le_refl _))
  have H1 := Lib.hid (h1.keep HB.out (Nat.le_refl _))
  have H1' := Lib.hid (h1'.keep HB.out (Nat.le_refl _))
  have HL := Lib.hid (hL.keep HB.out (Nat.le_refl _))
  have HW := Lib.hid hW
  have CM := Lib.hid (areM2_made n0 n1 xs0 ys0 xs1 ys1 a0 l0 c0 b0 m0 d0 a1 l1 c1 b1 m1 d1 W hl0 hm0 hl1 hm1 H0.out H0'.out H1.out H1'.out hWs)
  clear h0 h0' h1 h1' hL hW hWs
  obtain ⟨lt0, x0, x1, x2⟩ := X0.out
  obtain ⟨lt1, y0, y1, y2⟩ := X1.out
  cases hf : (isM n0 xs0 ys0 && isM n1 xs1 ys1)
  · have F := Lib.hid hf
    have C := Lib.hid (show lkC n0 xs0 ys0 n1 xs1 ys1 ls = 1 by rw [lkC, hf]; rfl)
    clear hf
    go_enter Try.func61, Try.ntmps61
    go_wp2_with fail
    rw [← HW.out]
    refine CM.out.mono ?_
    rw [F.out]
    rintro e w1 ⟨rfl, hb⟩
    have B1 := Lib.hid (HB.out.trans (hb.mono HB.out.size))
    clear hb
    go_wp2
    go_ret
    exact ⟨ret_int C.out.symm, B1.out⟩
  · have F := Lib.hid hf
    by_cases hln : (ls.length : Int) = n0
    · have LN := Lib.hid hln
      have hn1 : 0 ≤ n1 := by rw [Bool.and_eq_true] at hf; obtain ⟨-, e, -⟩ := isM_ok hf.2; omega
      have hn1' : n1 ≤ 30 := by rw [Bool.and_eq_true] at hf; obtain ⟨-, e, e8, -⟩ := isM_ok hf.2; omega
      have C := Lib.hid (show lkC n0 xs0 ys0 n1 xs1 ys1 ls = if mksTo n1 ls ls.length then 0 else 1 by rw [lkC, hf, if_pos rfl, if_pos hln])
      clear hf
      subst hln
      go_enter Try.func61, Try.ntmps61
      go_wp2_with fail
      rw [← HW.out]
      refine CM.out.mono ?_
      rw [F.out]
      rintro e w1 ⟨rfl, hb⟩
      have B1 := Lib.hid (HB.out.trans (hb.mono HB.out.size))
      have L1 := Lib.hid (HL.out.keep hb (Nat.le_refl _))
      clear x0 x1 x2 y0 y1 y2
      obtain ⟨lt0, x0, x1, x2⟩ := X0.out.keep hb
      obtain ⟨lt1, y0, y1, y2⟩ := X1.out.keep hb
      clear hb
      go_wp2
      go_loop [24] (fun i => ∃ k : Nat, k ≤ ls.length ∧ i = .int .i64 k ∧ mksTo n1 ls k = true) (fun i => ls.length - (intOf i).toNat)
      case atStart => exact ⟨0, Nat.zero_le _, rfl, rfl⟩
      case round =>
        obtain ⟨k, hk, rfl, hm⟩ := hrel
        have HM := Lib.hid hm
        clear hm
        by_cases hlt : k < ls.length
        · obtain ⟨b, off, rfl, hb, hc⟩ := L1.out.2.resolve_left (by omega)
          have hcell := hc k hlt
          clear hc
          cases hbb : mskB n1 (nth ls k)
          · have HX := Lib.hid hbb
            go_wp2_with (go_at_call 103; refine (isMaskWithin_any _ _ _ hn1 hn1').mono ?_; rintro e w' ⟨rfl, rfl⟩)
            go_ret
            exact ⟨ret_int (by rw [C.out, mksTo_false (k := k + 1) hlt (by rw [mksTo, HX.out, Bool.and_false])]; rfl), B1.out⟩
          · have HX := Lib.hid hbb
            go_wp2_with (go_at_call 103; refine (isMaskWithin_any _ _ _ hn1 hn1').mono ?_; rintro e w' ⟨rfl, rfl⟩)
            go_round
            case rel => exact ⟨k + 1, hlt, by go_num, by rw [mksTo, HM.out, HX.out]; rfl⟩
            case measure => simp [intOf]; omega
        · obtain rfl : k = ls.length := by omega
          go_wp2
          go_ret
          exact ⟨ret_int (by rw [C.out, HM.out]; rfl), B1.out⟩
    · have C := Lib.hid (show lkC n0 xs0 ys0 n1 xs1 ys1 ls = 1 by rw [lkC, hf, if_pos rfl, if_neg hln])
      clear hf
      go_enter Try.func61, Try.ntmps61
      go_wp2_with fail
      rw [← HW.out]
      refine CM.out.mono ?_
      rw [F.out]
      rintro e w1 ⟨rfl, hb⟩
      have B1 := Lib.hid (HB.out.trans (hb.mono HB.out.size))
      clear x0 x1 x2 y0 y1 y2
      obtain ⟨lt0, x0, x1, x2⟩ := X0.out.keep hb
      clear hb
      go_wp2
      go_ret
      exact ⟨ret_int C.out.symm, B1.out⟩

theorem own_zero {w : World} {B : Nat} {v : Value} {xs : List Int} (h : Own w B v xs) (h0 : 0 < xs.length) : ∃ g c, v = .slice (some ⟨g, 0, none⟩) xs.length c ∧ B ≤ g := by
  obtain ⟨-, ⟨-, e⟩ | ⟨g, c, cur, e, hB, -⟩⟩ := h
  · omega
  · exact ⟨g, c, e, hB⟩
theorem own_cell {w : World} {B g c n : Nat} {F : Nat → Int} (h : Own w B (.slice (some ⟨g, 0, none⟩) n c) (tab n F)) {j : Nat} (hj : j < n) : w.cell? ⟨g, j, none⟩ = some (.int .i64 (F j)) ∧ w.frozen? ⟨g, j, none⟩ = false := by
  unfold Own at h
  rw [tab_len] at h
  exact ⟨(World.ownsRow.cellAt h j (by omega)).trans (tab_get hj), World.ownsRow.frozenAt h j⟩
theorem own_set {w : World} {B g c n : Nat} {F G : Nat → Int} {z : Int} {j : Nat} (h : Own w B (.slice (some ⟨g, 0, none⟩) n c) (tab n F)) (e : ∀ t, (if t = j then z else F t) = G t) : Own (w.setCell ⟨g, j, none⟩ (.int .i64 z)) B (.slice (some ⟨g, 0, none⟩) n c) (tab n G) := by
  unfold Own at h ⊢
  rw [tab_len] at h ⊢
  rw [← tab_set e]
  exact (World.ownsRow.stored h j _).1
theorem own_blk {w : World} {B g c n : Nat} {xs : List Int} (h : Own w B (.slice (some ⟨g, 0, none⟩) n c) xs) : B ≤ g ∧ g < w.heap.size := by
  obtain ⟨-, ⟨e, -⟩ | ⟨g', c', cur, e, hB, hh, -⟩⟩ := h
  · cases e
  · cases e; exact ⟨hB, (Array.getElem?_eq_some_iff.1 hh).1⟩

/-- A row of which the entries below x are done, that at x is s, the others are as they were. -/
def ktF (F G : Nat → Int) (x : Nat) (s : Int) (t : Nat) : Int := if t < x then F t else if t = x then s else G t
theorem kt_at (F G : Nat → Int) (x : Nat) (s : Int) : ktF F G x s x = s := by unfold ktF; rw [if_neg (by omega), if_pos rfl]
theorem kt_set {F G : Nat → Int} {x : Nat} {s z s' : Int} (h : z = s') (t : Nat) : (if t = x then z else ktF F G x s t) = ktF F G x s' t := by
  subst h
  unfold ktF
  by_cases e : t = x
  · subst e; rw [if_pos rfl, if_neg (by omega), if_pos rfl]
  · rw [if_neg e, if_neg e, if_neg e]
theorem kt_next {F G : Nat → Int} {x : Nat} : ktF F G x (F x) = ktF F G (x + 1) (G (x + 1)) := by
  funext t
  unfold ktF
  by_cases h : t < x
  · rw [if_pos h, if_pos (by omega)]
  · by_cases e : t = x
    · subst e; rw [if_neg h, if_pos rfl, if_pos (by omega)]
    · rw [if_neg h, if_neg e, if_neg (by omega)]
      split
      · rename_i e2; rw [e2]
      · rfl
theorem kt_start {F G : Nat → Int} : ktF F G 0 (G 0) = G := by
  funext t
  unfold ktF
  rw [if_neg (by omega)]
  split
  · rename_i e; rw [e]
  · rfl
theorem kt_all {F G : Nat → Int} {n : Nat} : tab n (ktF F G n (G n)) = tab n F := by
  unfold tab
  refine List.map_congr_left fun t ht => ?_
  have := List.mem_range.1 ht
  unfold ktF
  rw [if_pos this]

end Go.Proofs.Ythopleeehbkjaaa
