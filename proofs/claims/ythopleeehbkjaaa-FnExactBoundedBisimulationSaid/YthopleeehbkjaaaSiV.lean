/- Contracts of IsSimulation and IsBisimulation of the model and of the program. Conditions: those in the theorems. -/
import Derived.Test.YthopleeehbkjaaaJn17
import Derived.Test.YthopleeehbkjaaaJn15
namespace Go.Proofs.Ythopleeehbkjaaa
open Go.RowKit

theorem Mo.lk {n0 n1 : Int} {xs ys ps zs ls : List Int} (h0 : isM n0 xs ys = true) (h1 : isM n1 ps zs = true) (hl : (ls.length : Int) = n0) (hm : mksTo n1 ls ls.length = true) : Lk xs ys ps zs ls := by
  obtain ⟨e1, e2, e3, e4⟩ := isM_rel h0
  obtain ⟨f1, f2, f3, f4⟩ := isM_rel h1
  obtain ⟨-, -, -, -, y6, -⟩ := isM_ok h0
  obtain ⟨-, -, -, -, z6, -⟩ := isM_ok h1
  subst f1
  refine ⟨e2, f2, e3, f3, e4, f4, by omega, by omega, fun i => ?_⟩
  by_cases hi : i < ls.length
  · exact (mksTo_iff (by omega) ls ls.length).1 hm i hi
  · rw [nth_high (by omega)]; exact InMk.zero _

set_option maxHeartbeats 400000 in
theorem isSimulation_any (n0 n1 : Int) (xs ys ps zs ls : List Int) (a0 : Option Addr) (c0 : Nat) (b0 : Option Addr) (d0 : Nat) (a1 : Option Addr) (c1 : Nat) (b1 : Option Addr) (d1 : Nat) (al : Option Addr) (cl : Nat) (w : World) (h0 : Mo w n0 a0 b0 xs ys) (h1 : Mo w n1 a1 b1 ps zs) (hl : At w al ls.length ls) (hl8 : ls.length = xs.length) :
    Calls Try.prog 62 #[.agg #[.int .i64 n0, .slice a0 xs.length c0, .slice b0 ys.length d0], .agg #[.int .i64 n1, .slice a1 ps.length c1, .slice b1 zs.length d1], .slice al ls.length cl] w fun e w' => e = .returned (.bool (decide (simL xs ys ps zs ls = ls))) ∧ Below w.heap.size w w' := by
  obtain ⟨W, hW, HB, X0, X1, hWs⟩ := boxTw w n0 a0 xs.length c0 b0 ys.length d0 n1 a1 ps.length c1 b1 zs.length d1
  have C := Lib.hid (simulated_any n0 n1 xs ys ps zs ls a0 c0 b0 d0 a1 c1 b1 d1 al cl W (h0.keep HB.out) (h1.keep HB.out) (hl.keep HB.out (Nat.le_refl _)) hl8)
  have HL := Lib.hid (hl.keep HB.out (Nat.le_refl _))
  have HW := Lib.hid hW
  have hll : ls.length ≤ 1048576 := by have := h0.2.1; omega
  have SL := Lib.hid (show (simL xs ys ps zs ls).length = ls.length from tab_len _ _)
  obtain ⟨lt0, x0, x1, x2⟩ := X0.out
  obtain ⟨lt1, y0, y1, y2⟩ := X1.out
  clear h0 h1 hl hW hWs hl8
  go_enter Try.func62, Try.ntmps62
  go_wp2_with fail
  clear x0 x1 x2 y0 y1 y2
  rw [← HW.out]
  refine C.out.mono ?_
  rintro e w1 ⟨v, rfl, ho, hb⟩
  obtain ⟨a, c, rfl, hat, -, -, -⟩ := ho.at
  have A := Lib.hid hat
  have B := Lib.hid (HB.out.trans (hb.mono HB.out.size))
  have L := Lib.hid (HL.out.keep hb (Nat.le_refl _))
  have hsl : (simL xs ys ps zs ls).length ≤ 1048576 := by rw [SL.out]; exact hll
  clear ho hb hat
  go_wp2_with fail
  refine (slEqualI_any _ ls _ _ _ _ _ _ _ hsl hll A.out L.out).mono ?_
  rintro e w2 ⟨rfl, hb⟩
  go_wp2
  go_ret
  exact ⟨rfl, B.out.trans (hb.mono B.out.size)⟩

def lnkB (n0 n1 : Int) (ls : List Int) : Bool := decide ((ls.length : Int) = n0) && mksTo n1 ls ls.length
theorem lkC_of (n0 : Int) (xs0 ys0 : List Int) (n1 : Int) (xs1 ys1 ls : List Int) : lkC n0 xs0 ys0 n1 xs1 ys1 ls = if isM n0 xs0 ys0 && isM n1 xs1 ys1 && lnkB n0 n1 ls then 0 else 1 := by
  unfold lkC lnkB
  cases (isM n0 xs0 ys0 && isM n1 xs1 ys1)
  · rfl
  · by_cases h : (ls.length : Int) = n0
    · simp [h]
    · simp [h]

set_option maxHeartbeats 1000000 in
theorem l07Link_any (n0 n1 : Int) (ls : List Int) (a0 : Option Addr) (l0 c0 : Nat) (b0 : Option Addr) (m0 d0 : Nat) (a1 : Option Addr) (l1 c1 : Nat) (b1 : Option Addr) (m1 d1 : Nat) (al : Option Addr) (cl : Nat) (w : World) (hn1 : 0 ≤ n1) (hn1' : n1 ≤ 30) (hll : ls.length ≤ 1048576) (hL : At w al ls.length ls) :
    Calls Try.prog 58 #[.agg #[.int .i64 n0, .slice a0 l0 c0, .slice b0 m0 d0], .agg #[.int .i64 n1, .slice a1 l1 c1, .slice b1 m1 d1], .slice al ls.length cl] w fun e w' => e = .returned (.bool (lnkB n0 n1 ls)) ∧ Below w.heap.size w w' := by
  obtain ⟨W, hW, HB, X0, X1, hWs⟩ := boxTw w n0 a0 l0 c0 b0 m0 d0 n1 a1 l1 c1 b1 m1 d1
  have HL := Lib.hid (hL.keep HB.out (Nat.le_refl _))
  have HW := Lib.hid hW
  clear hL hW hWs
  obtain ⟨lt0, x0, x1, x2⟩ := X0.out
  obtain ⟨lt1, y0, y1, y2⟩ := X1.out
  by_cases h : (ls.length : Int) = n0
  · have LB := Lib.hid (show lnkB n0 n1 ls = mksTo n1 ls ls.length by unfold lnkB; simp [h])
    subst h
    go_enter Try.func58, Try.ntmps58
    go_wp2_with fail
    rw [← HW.out]
    refine (l01Masks_any n1 ls _ _ _ _ hn1 hn1' hll HL.out).mono ?_
    rintro e w1 ⟨rfl, q, rfl⟩
    clear x0 x1 x2 y0 y1 y2
    go_wp2
    go_ret
    exact ⟨ret_bool LB.out.symm, below_drewN HB.out q⟩
  · have LB := Lib.hid (show lnkB n0 n1 ls = false by unfold lnkB; simp [h])
    go_enter Try.func58, Try.ntmps58
    go_wp2
    go_ret
    exact ⟨ret_bool LB.out.symm, by rw [← HW.out]; exact HB.out⟩

def siB (b : Bool) (n0 : Int) (xs ys : List Int) (n1 : Int) (ps zs ls : List Int) : Bool := isM n0 xs ys && isM n1 ps zs && lnkB n0 n1 ls && (if b then insB ls (tab xs.length (stV xs ys ps zs ls)) ls.length else insB ls (tab xs.length (belV xs ys ps zs ls)) ls.length)
theorem si_bad {b : Bool} {n0 n1 : Int} {xs ys ps zs ls : List Int} (h : (isM n0 xs ys && isM n1 ps zs && lnkB n0 n1 ls) = false) : Ending.returned (.tuple #[.bool false, .int .i64 1]) = .returned (.tuple #[.bool (siB b n0 xs ys n1 ps zs ls), .int .i64 (lkC n0 xs ys n1 ps zs ls)]) := by
  rw [siB, lkC_of, h]; rfl
theorem si_ok {b : Bool} {n0 n1 : Int} {xs ys ps zs ls : List Int} {z : Bool} (h : (isM n0 xs ys && isM n1 ps zs && lnkB n0 n1 ls) = true) (hz : z = if b then insB ls (tab xs.length (stV xs ys ps zs ls)) ls.length else insB ls (tab xs.length (belV xs ys ps zs ls)) ls.length) : Ending.returned (.tuple #[.bool z, .int .i64 0]) = .returned (.tuple #[.bool (siB b n0 xs ys n1 ps zs ls), .int .i64 (lkC n0 xs ys n1 ps zs ls)]) := by
  rw [siB, lkC_of, h, hz]; rfl

end Go.Proofs.Ythopleeehbkjaaa
