/- 2 texts in one: SiR, SiV. -/
import Derived.Test.YthopleeehbkjaaaJn17
/- Contracts of simulated and isSimulation of the program. Conditions: those in the theorems. -/
namespace Go.Proofs.Ythopleeehbkjaaa
open Go.RowKit

set_option maxHeartbeats 4000000 in
set_option maxRecDepth 100000 in
theorem simulated_any (n0 n1 : Int) (xs ys ps zs ls : List Int) (a0 : Option Addr) (c0 : Nat) (b0 : Option Addr) (d0 : Nat) (a1 : Option Addr) (c1 : Nat) (b1 : Option Addr) (d1 : Nat) (al : Option Addr) (cl : Nat) (w : World) (h0 : Mo w n0 a0 b0 xs ys) (h1 : Mo w n1 a1 b1 ps zs) (hl : At w al ls.length ls) (hl8 : ls.length = xs.length) :
    Calls Try.prog 70 #[.agg #[.int .i64 n0, .slice a0 xs.length c0, .slice b0 ys.length d0], .agg #[.int .i64 n1, .slice a1 ps.length c1, .slice b1 zs.length d1], .slice al ls.length cl] w fun e w' => ∃ v, e = .returned v ∧ Own w' w.heap.size v (simL xs ys ps zs ls) ∧ Below w.heap.size w w' := by
  obtain ⟨W, hW, HB, X0, X1, hWs⟩ := boxTw w n0 a0 xs.length c0 b0 ys.length d0 n1 a1 ps.length c1 b1 zs.length d1
  have M0 := Lib.hid (h0.keep HB.out)
  have M1 := Lib.hid (h1.keep HB.out)
  have HL := Lib.hid (hl.keep HB.out (Nat.le_refl _))
  have HW := Lib.hid hW
  have x8 := h0.2.1
  have p8 := h1.2.1
  have Y6 := Lib.hid h0.2.2.2.1
  have Z6 := Lib.hid h1.2.2.2.1
  have hyl : ys.length ≤ 6 := by rw [h0.2.2.2.1]; exact Nat.le_refl _
  have hws : w.heap.size ≤ W.heap.size := by omega
  have hll : ls.length ≤ 8 := by omega
  have LL := Lib.hid hl8
  obtain rfl := h0.1
  obtain rfl := h1.1
  clear h0 h1 hl hW hWs hl8
  go_enter Try.func70, Try.ntmps70
  go_wp2_with fail
  rw [← HW.out]
  refine (slCloneI_any ls _ _ _ _ (by omega) HL.out).mono ?_
  rintro e w2 ⟨v2, rfl, ho, hb⟩
  have B2 := Lib.hid hb
  have O2 := Lib.hid (show Own w2 W.heap.size v2 (tab ls.length (ktF (simV xs ys ps zs ls) (nth ls) 0 (nth ls 0))) by rw [kt_start, tab_self]; exact ho)
  obtain ⟨a2, k2, rfl, -, -, -, -⟩ := ho.at
  clear ho hb
  go_wp2
  go_loopw [17] (fun i wr => ∃ x : Nat, x ≤ ls.length ∧ i = .int .i64 x ∧ Hid (Own wr W.heap.size (.slice a2 ls.length k2) (tab ls.length (ktF (simV xs ys ps zs ls) (nth ls) x (nth ls x)))) ∧ Hid (Below W.heap.size W wr)) (fun i _ => ls.length - (intOf i).toNat)
  case atStart => exact ⟨0, Nat.zero_le _, rfl, O2, B2⟩
  case round =>
    clear O2 B2
    obtain ⟨x, hx, rfl, O, B⟩ := hrel
    obtain ⟨lt0, x0, x1, x2⟩ := X0.out.keep B.out
    by_cases hlt : x < ls.length
    · obtain ⟨g, k2', e2, hg⟩ := own_zero O.out (by rw [tab_len]; omega)
      rw [tab_len] at e2
      cases e2
      have NB := Lib.hid (own_blk O.out)
      obtain ⟨-, -, -, -, hxx, hy⟩ := M0.out.keep B.out
      go_wp2
      clear x0 x1 x2 hxx hy
      go_loopw [23] (fun i wr => ∃ v : Nat, v ≤ ys.length ∧ i = .int .i64 v ∧ Hid (Own wr W.heap.size (.slice (some ⟨g, 0, none⟩) ls.length k2) (tab ls.length (ktF (simV xs ys ps zs ls) (nth ls) x (kvT ys zs x (nth ls x) v)))) ∧ Hid (Below W.heap.size W wr)) (fun i _ => ys.length - (intOf i).toNat)
      case atStart => exact ⟨0, Nat.zero_le _, rfl, O, B⟩
      case round =>
        clear O B
        obtain ⟨v, hv, rfl, O, B⟩ := hrel
        obtain ⟨lt0, x0, x1, x2⟩ := X0.out.keep B.out
        obtain ⟨lt1, y0, y1, y2⟩ := X1.out.keep B.out
        by_cases hlv : v < ys.length
        · obtain ⟨-, -, -, -, -, hy⟩ := M0.out.keep B.out
          obtain ⟨-, -, -, -, -, hz⟩ := M1.out.keep B.out
          obtain ⟨yb, yo, rfl, hyb, hyc⟩ := hy.2.resolve_left (by omega)
          have hcy := hyc v hlv
          have hlv2 : v < zs.length := by have := Y6.out; have := Z6.out; omega
          obtain ⟨zb, zo, rfl, hzb, hzc⟩ := hz.2.resolve_left (by omega)
          have hcz := hzc v hlv2
          clear hyc hzc hy hz
          obtain ⟨hck, hfk⟩ := own_cell O.out hlt
          rw [kt_at] at hck
          cases hbit : bitB (nth ys v) x
          · have HX := Lib.hid hbit
            go_wp2_with (go_at_call 95; refine (hasMember_any _ _ _ (by omega) (by omega)).mono ?_; rintro e w' ⟨rfl, rfl⟩)
            go_roundw
            case rel => exact ⟨v + 1, hlv, by go_num, Lib.hid (by rw [kvT, HX.out]; exact O.out), B⟩
            case measure => simp [intOf]; omega
          · have HX := Lib.hid hbit
            go_wp2_with (go_at_call 95; refine (hasMember_any _ _ _ (by omega) (by omega)).mono ?_; rintro e w' ⟨rfl, rfl⟩)
            go_region
            all_goals
              go_wp2
              go_roundw
              case rel => exact ⟨v + 1, hlv, by go_num, Lib.hid (own_set (show Own (World.drew _) _ _ _ from O.out) (fun t => kt_set (by rw [kvT, HX.out]; rfl) t)), Lib.hid ((B.out.drew).setCell (p := ⟨g, x, none⟩) NB.out.1 _)⟩
              case measure => simp [intOf]; omega
        · obtain rfl : v = ys.length := by omega
          obtain ⟨s0, hs0⟩ : ∃ s, s = kvT ys zs x (nth ls x) ys.length := ⟨_, rfl⟩
          rw [← hs0] at O
          have S0 := Lib.hid hs0
          clear hs0
          go_wp2
          clear x0 x1 x2 y0 y1 y2
          go_loopw [45] (fun i wr => ∃ j : Nat, j ≤ ls.length ∧ i = .int .i64 j ∧ Hid (Own wr W.heap.size (.slice (some ⟨g, 0, none⟩) ls.length k2) (tab ls.length (ktF (simV xs ys ps zs ls) (nth ls) x (knT xs ps ls x s0 j)))) ∧ Hid (Below W.heap.size W wr)) (fun i _ => ls.length - (intOf i).toNat)
          case atStart => exact ⟨0, Nat.zero_le _, rfl, O, B⟩
          case round =>
            clear O B
            obtain ⟨j, hj, rfl, O, B⟩ := hrel
            by_cases hlj : j < ls.length
            · obtain ⟨lt0, x0, x1, x2⟩ := X0.out.keep B.out
              obtain ⟨lt1, y0, y1, y2⟩ := X1.out.keep B.out
              obtain ⟨-, -, -, -, hxx, -⟩ := M0.out.keep B.out
              have hlx : x < xs.length := by have := LL.out; omega
              obtain ⟨xb, xo, rfl, hxb, hxc⟩ := hxx.2.resolve_left (by omega)
              have hcx := hxc x hlx
              obtain ⟨lb, lo, rfl, hlb, hlc⟩ := (HL.out.keep B.out (Nat.le_refl _)).2.resolve_left (by omega)
              have hcl := hlc j hlj
              clear hlc hxc hxx
              obtain ⟨hck, hfk⟩ := own_cell O.out hlt
              rw [kt_at] at hck
              cases hbit : bitB (nth xs x) j
              · have HX := Lib.hid hbit
                go_wp2_with (go_at_call 95; refine (hasMember_any _ _ _ (by omega) (by omega)).mono ?_; rintro e w' ⟨rfl, rfl⟩)
                go_roundw
                case rel => exact ⟨j + 1, hlj, by go_num, Lib.hid (by rw [knT, HX.out]; exact O.out), B⟩
                case measure => simp [intOf]; omega
              · have HX := Lib.hid hbit
                have PX := Lib.hid (show ∀ (w1 : World), Below W.heap.size W w1 → Calls Try.prog 110 #[.slice a1 ps.length c1, .int .i64 (nth ls j)] w1 fun e w' => e = .returned (.int .i64 (piTo ps (nth ls j) ps.length)) ∧ w1 = w' from
                  fun w1 hw => preimage_any ps _ a1 _ c1 w1 (by omega) (M1.out.keep hw).2.2.2.2.1)
                have NG := Lib.hid (own_blk O.out)
                go_wp2_with (go_at_call 95; refine (hasMember_any _ _ _ (by omega) (by omega)).mono ?_; rintro e w' ⟨rfl, rfl⟩)
                clear hcx hcl x0 x1 x2
                rename_i wr
                go_region_with (first | (go_at_call 109; refine (frRel_any _ _ _ _ _).mono ?_; rintro e w2 ⟨rfl, hb⟩; have T1 := Lib.hid (below_of_drew hb); clear hb; have T2 := Lib.hid (B.out.trans (T1.out.mono B.out.size)); have hck2 := (T1.out.cell (p := ⟨g, x, none⟩) NG.out.2).trans hck; have hfk2 := (T1.out.frozen (p := ⟨g, x, none⟩) NG.out.2).trans hfk) | (go_at_call 110; refine (PX.out _ T2.out).mono ?_; rintro e w3 ⟨rfl, rfl⟩))
                all_goals
                  go_wp2
                  go_roundw
                  case rel => exact ⟨j + 1, hlj, by go_num, Lib.hid (own_set (Own.keep (w' := w2) O.out T1.out (Nat.le_refl _)) (fun t => kt_set (by rw [knT, HX.out]; rfl) t)), Lib.hid (T2.out.setCell (p := ⟨g, x, none⟩) NG.out.1 _)⟩
                  case measure => simp [intOf]; omega
            · obtain rfl : j = ls.length := by omega
              go_wp2
              go_roundw
              case rel => exact ⟨x + 1, hlt, by go_num, Lib.hid (by rw [← kt_next]; have q := O.out; rw [S0.out] at q; exact q), B⟩
              case measure => simp [intOf]; omega
    · obtain rfl : x = ls.length := by omega
      go_wp2
      go_ret
      exact ⟨_, rfl, by have q := O.out; rw [kt_all] at q; exact q.mono hws, HB.out.trans (B.out.mono HB.out.size)⟩

end Go.Proofs.Ythopleeehbkjaaa

/- Contracts of IsSimulation and IsBisimulation of the model and of the program. Conditions: those in the theorems. -/
namespace Go.Proofs.Ythopleeehbkjaaa
open Go.RowKit

theorem Mo.lk {n0 n1 : Int} {xs ys ps zs ls : List Int} (h0 : isM n0 xs ys = true) (h1 : isM n1 ps zs = true) (hl : (ls.length : Int) = n0) (hm : mksTo n1 ls ls.length = true) : Lk xs ys ps zs ls := by
  obtain ⟨e1, e2, e3, e4⟩ := isM_rel h0
  obtain ⟨f1, f2, f3, f4⟩ := isM_rel h1
  obtain ⟨-, -, -, -, y6, -⟩ := isM_ok h0
  obtain ⟨-, -, -, -, z6, -⟩ := isM_ok h1
  subst f1
  refine ⟨e2, f2, e3, f3, e4, f4, by omega, by omega, fun i => ?_⟩
  by_cases hi : i < ls.length
  · exact (mksTo_iff (by omega) ls ls.length).1 hm i hi
  · rw [nth_high (by omega)]; exact InMk.zero _

set_option maxHeartbeats 400000 in
theorem isSimulation_any (n0 n1 : Int) (xs ys ps zs ls : List Int) (a0 : Option Addr) (c0 : Nat) (b0 : Option Addr) (d0 : Nat) (a1 : Option Addr) (c1 : Nat) (b1 : Option Addr) (d1 : Nat) (al : Option Addr) (cl : Nat) (w : World) (h0 : Mo w n0 a0 b0 xs ys) (h1 : Mo w n1 a1 b1 ps zs) (hl : At w al ls.length ls) (hl8 : ls.length = xs.length) :
    Calls Try.prog 62 #[.agg #[.int .i64 n0, .slice a0 xs.length c0, .slice b0 ys.length d0], .agg #[.int .i64 n1, .slice a1 ps.length c1, .slice b1 zs.length d1], .slice al ls.length cl] w fun e w' => e = .returned (.bool (decide (simL xs ys ps zs ls = ls))) ∧ Below w.heap.size w w' := by
  obtain ⟨W, hW, HB, X0, X1, hWs⟩ := boxTw w n0 a0 xs.length c0 b0 ys.length d0 n1 a1 ps.length c1 b1 zs.length d1
  have C := Lib.hid (simulated_any n0 n1 xs ys ps zs ls a0 c0 b0 d0 a1 c1 b1 d1 al cl W (h0.keep HB.out) (h1.keep HB.out) (hl.keep HB.out (Nat.le_refl _)) hl8)
  have HL := Lib.hid (hl.keep HB.out (Nat.le_refl _))
  have HW := Lib.hid hW
  have hll : ls.length ≤ 1048576 := by have := h0.2.1; omega
  have SL := Lib.hid (show (simL xs ys ps zs ls).length = ls.length from tab_len _ _)
  obtain ⟨lt0, x0, x1, x2⟩ := X0.out
  obtain ⟨lt1, y0, y1, y2⟩ := X1.out
  clear h0 h1 hl hW hWs hl8
  go_enter Try.func62, Try.ntmps62
  go_wp2_with fail
  clear x0 x1 x2 y0 y1 y2
  rw [← HW.out]
  refine C.out.mono ?_
  rintro e w1 ⟨v, rfl, ho, hb⟩
  obtain ⟨a, c, rfl, hat, -, -, -⟩ := ho.at
  have A := Lib.hid hat
  have B := Lib.hid (HB.out.trans (hb.mono HB.out.size))
  have L := Lib.hid (HL.out.keep hb (Nat.le_refl _))
  have hsl : (simL xs ys ps zs ls).length ≤ 1048576 := by rw [SL.out]; exact hll
  clear ho hb hat
  go_wp2_with fail
  refine (slEqualI_any _ ls _ _ _ _ _ _ _ hsl hll A.out L.out).mono ?_
  rintro e w2 ⟨rfl, hb⟩
  go_wp2
  go_ret
  exact ⟨rfl, B.out.trans (hb.mono B.out.size)⟩

def lnkB (n0 n1 : Int) (ls : List Int) : Bool := decide ((ls.length : Int) = n0) && mksTo n1 ls ls.length
theorem lkC_of (n0 : Int) (xs0 ys0 : List Int) (n1 : Int) (xs1 ys1 ls : List Int) : lkC n0 xs0 ys0 n1 xs1 ys1 ls = if isM n0 xs0 ys0 && isM n1 xs1 ys1 && lnkB n0 n1 ls then 0 else 1 := by
  unfold lkC lnkB
  cases (isM n0 xs0 ys0 && isM n1 xs1 ys1)
  · rfl
  · by_cases h : (ls.length : Int) = n0
    · simp [h]
    · simp [h]

set_option maxHeartbeats 1000000 in
theorem l07Link_any (n0 n1 : Int) (ls : List Int) (a0 : Option Addr) (l0 c0 : Nat) (b0 : Option Addr) (m0 d0 : Nat) (a1 : Option Addr) (l1 c1 : Nat) (b1 : Option Addr) (m1 d1 : Nat) (al : Option Addr) (cl : Nat) (w : World) (hn1 : 0 ≤ n1) (hn1' : n1 ≤ 30) (hll : ls.length ≤ 1048576) (hL : At w al ls.length ls) :
    Calls Try.prog 58 #[.agg #[.int .i64 n0, .slice a0 l0 c0, .slice b0 m0 d0], .agg #[.int .i64 n1, .slice a1 l1 c1, .slice b1 m1 d1], .slice al ls.length cl] w fun e w' => e = .returned (.bool (lnkB n0 n1 ls)) ∧ Below w.heap.size w w' := by
  obtain ⟨W, hW, HB, X0, X1, hWs⟩ := boxTw w n0 a0 l0 c0 b0 m0 d0 n1 a1 l1 c1 b1 m1 d1
  have HL := Lib.hid (hL.keep HB.out (Nat.le_refl _))
  have HW := Lib.hid hW
  clear hL hW hWs
  obtain ⟨lt0, x0, x1, x2⟩ := X0.out
  obtain ⟨lt1, y0, y1, y2⟩ := X1.out
  by_cases h : (ls.length : Int) = n0
  · have LB := Lib.hid (show lnkB n0 n1 ls = mksTo n1 ls ls.length by unfold lnkB; simp [h])
    subst h
    go_enter Try.func58, Try.ntmps58
    go_wp2_with fail
    rw [← HW.out]
    refine (l01Masks_any n1 ls _ _ _ _ hn1 hn1' hll HL.out).mono ?_
    rintro e w1 ⟨rfl, q, rfl⟩
    clear x0 x1 x2 y0 y1 y2
    go_wp2
    go_ret
    exact ⟨ret_bool LB.out.symm, below_drewN HB.out q⟩
  · have LB := Lib.hid (show lnkB n0 n1 ls = false by unfold lnkB; simp [h])
    go_enter Try.func58, Try.ntmps58
    go_wp2
    go_ret
    exact ⟨ret_bool LB.out.symm, by rw [← HW.out]; exact HB.out⟩

def siB (b : Bool) (n0 : Int) (xs ys : List Int) (n1 : Int) (ps zs ls : List Int) : Bool := isM n0 xs ys && isM n1 ps zs && lnkB n0 n1 ls && (if b then insB ls (tab xs.length (stV xs ys ps zs ls)) ls.length else insB ls (tab xs.length (belV xs ys ps zs ls)) ls.length)
theorem si_bad {b : Bool} {n0 n1 : Int} {xs ys ps zs ls : List Int} (h : (isM n0 xs ys && isM n1 ps zs && lnkB n0 n1 ls) = false) : Ending.returned (.tuple #[.bool false, .int .i64 1]) = .returned (.tuple #[.bool (siB b n0 xs ys n1 ps zs ls), .int .i64 (lkC n0 xs ys n1 ps zs ls)]) := by
  rw [siB, lkC_of, h]; rfl
theorem si_ok {b : Bool} {n0 n1 : Int} {xs ys ps zs ls : List Int} {z : Bool} (h : (isM n0 xs ys && isM n1 ps zs && lnkB n0 n1 ls) = true) (hz : z = if b then insB ls (tab xs.length (stV xs ys ps zs ls)) ls.length else insB ls (tab xs.length (belV xs ys ps zs ls)) ls.length) : Ending.returned (.tuple #[.bool z, .int .i64 0]) = .returned (.tuple #[.bool (siB b n0 xs ys n1 ps zs ls), .int .i64 (lkC n0 xs ys n1 ps zs ls)]) := by
  rw [siB, lkC_of, h, hz]; rfl

end Go.Proofs.Ythopleeehbkjaaa
