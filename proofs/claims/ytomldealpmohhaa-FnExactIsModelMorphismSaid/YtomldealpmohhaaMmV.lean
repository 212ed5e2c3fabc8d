/- Contracts of IsModelMorphism of the model and of the program, told by values. Conditions: those in the theorems. -/
import Derived.Test.YtomldealpmohhaaMmM
import Derived.Test.YtomldealpmohhaaAm2
import Derived.Test.YtomldealpmohhaaPvV
namespace Go.Proofs.Ytomldealpmohhaa
open Go.RowKit

set_option maxHeartbeats 4000000 in
set_option maxRecDepth 100000 in
theorem specIsModelMorphism_v (n0 : Int) (xs ys : List Int) (n1 : Int) (ps zs ls : List Int) (v0 : Value) (lo0 hi0 : Nat) (v1 : Value) (lo1 hi1 : Nat) (v2 : Value) (lo2 hi2 : Nat) (w : World) (hl0 : xs.length ≤ 1048576) (hm0 : ys.length ≤ 1048576) (hl1 : ps.length ≤ 1048576) (hm1 : zs.length ≤ 1048576) (hll : ls.length ≤ 1048576) (h0 : InM w lo0 hi0 v0 n0 xs ys) (h1 : InM w lo1 hi1 v1 n1 ps zs) (h2 : OwnIn w lo2 hi2 v2 ls) :
    Calls Try.prog 41 #[v0, v1, v2] w fun e w' => e = .returned (.tuple #[.bool (mmV n0 xs ys n1 ps zs ls), .int .i64 (mmC n0 xs ys n1 ps zs ls)]) ∧ Below w.heap.size w w' := by
  obtain ⟨a0, c0, b0, d0, rfl, hat0, hat0', -⟩ := h0.at
  obtain ⟨a1, c1, b1, d1, rfl, hat1, hat1', -⟩ := h1.at
  obtain ⟨al, cl, rfl, hatl⟩ := own_lst h2
  obtain ⟨W, hW, HB, X0, X1, hWs⟩ := boxTw w n0 a0 xs.length c0 b0 ys.length d0 n1 a1 ps.length c1 b1 zs.length d1
  have H0 := Lib.hid (hat0.keep HB.out (Nat.le_refl _))
  have H0' := Lib.hid (hat0'.keep HB.out (Nat.le_refl _))
  have H1 := Lib.hid (hat1.keep HB.out (Nat.le_refl _))
  have H1' := Lib.hid (hat1'.keep HB.out (Nat.le_refl _))
  have HL := Lib.hid (hatl.keep HB.out (Nat.le_refl _))
  have HW := Lib.hid hW
  clear h0 h1 h2 hat0 hat0' hat1 hat1' hatl hW hWs
  obtain ⟨lt0, x0, x1, x2⟩ := X0.out
  have I0 := Lib.hid (l06Is_any n0 xs ys a0 xs.length c0 b0 ys.length d0 W hl0 hm0 H0.out H0'.out)
  cases k0 : isM n0 xs ys
  · have F0 := Lib.hid k0
    have R := Lib.hid (mm_bad (show mmK n0 xs ys n1 ps zs ls = false by rw [mmK, k0]; rfl))
    clear k0
    go_enter Try.func41, Try.ntmps41
    go_wp2_with fail
    rw [← HW.out]
    refine I0.out.mono ?_
    rw [F0.out]
    rintro e w1 ⟨rfl, hb⟩
    have T1 := Lib.hid hb
    clear hb lt0 x0 x1 x2
    go_wp2
    go_ret2
    exact ⟨R.out, HB.out.trans (T1.out.mono HB.out.size)⟩
  · cases k1 : isM n1 ps zs
    · have F0 := Lib.hid k0
      have F1 := Lib.hid k1
      have R := Lib.hid (mm_bad (show mmK n0 xs ys n1 ps zs ls = false by rw [mmK, k0, k1]; rfl))
      clear k0 k1
      go_enter Try.func41, Try.ntmps41
      go_wp2_with fail
      rw [← HW.out]
      refine I0.out.mono ?_
      rw [F0.out]
      rintro e w1 ⟨rfl, hb⟩
      have T1 := Lib.hid hb
      clear hb lt0 x0 x1 x2
      obtain ⟨lt1, y0, y1, y2⟩ := X1.out.keep T1.out
      go_wp2_with fail
      refine (l06Is_any n1 ps zs _ _ _ _ _ _ _ hl1 hm1 (H1.out.keep T1.out (Nat.le_refl _)) (H1'.out.keep T1.out (Nat.le_refl _))).mono ?_
      rw [F1.out]
      rintro e w2 ⟨rfl, hb⟩
      have T2 := Lib.hid (T1.out.trans (hb.mono T1.out.size))
      clear hb lt1 y0 y1 y2
      go_wp2
      go_ret2
      exact ⟨R.out, HB.out.trans (T2.out.mono HB.out.size)⟩
    · obtain ⟨-, hn1, h8, -⟩ := isM_ok k1
      have hn10 : 0 ≤ n1 := by omega
      have hn11 : n1 ≤ 30 := by omega
      cases k2 : mpB n0 n1 ls
      · have F0 := Lib.hid k0
        have F1 := Lib.hid k1
        have F2 := Lib.hid k2
        have R := Lib.hid (mm_bad (show mmK n0 xs ys n1 ps zs ls = false by rw [mmK, k0, k1, k2]; rfl))
        clear k0 k1 k2 hn1
        go_enter Try.func41, Try.ntmps41
        go_wp2_with fail
        rw [← HW.out]
        refine I0.out.mono ?_
        rw [F0.out]
        rintro e w1 ⟨rfl, hb⟩
        have T1 := Lib.hid hb
        clear hb lt0 x0 x1 x2
        obtain ⟨lt1, y0, y1, y2⟩ := X1.out.keep T1.out
        go_wp2_with fail
        refine (l06Is_any n1 ps zs _ _ _ _ _ _ _ hl1 hm1 (H1.out.keep T1.out (Nat.le_refl _)) (H1'.out.keep T1.out (Nat.le_refl _))).mono ?_
        rw [F1.out]
        rintro e w2 ⟨rfl, hb⟩
        have T2 := Lib.hid (T1.out.trans (hb.mono T1.out.size))
        clear hb lt1 y0 y1 y2
        obtain ⟨lt0, x0, x1, x2⟩ := X0.out.keep T2.out
        obtain ⟨lt1, y0, y1, y2⟩ := X1.out.keep T2.out
        go_wp2_with fail
        refine (l08Map_any n0 n1 ls _ _ _ _ _ _ _ _ _ hn10 hn11 hll (HL.out.keep T2.out (Nat.le_refl _))).mono ?_
        rw [F2.out]
        rintro e w3 ⟨rfl, hb⟩
        have T3 := Lib.hid (T2.out.trans (hb.mono T2.out.size))
        clear hb lt0 x0 x1 x2 lt1 y0 y1 y2
        go_wp2
        go_ret2
        exact ⟨R.out, HB.out.trans (T3.out.mono HB.out.size)⟩
      · obtain ⟨hm, -, -⟩ := mmK_of k0 k1 k2
        have M := Lib.hid hm
        have M0 := Lib.hid (Mo.of k0 H0.out H0'.out)
        have M1 := Lib.hid (Mo.of k1 H1.out H1'.out)
        have F0 := Lib.hid k0
        have F1 := Lib.hid k1
        have F2 := Lib.hid k2
        have R := Lib.hid (fun z hz => mm_ok (z := z) (show mmK n0 xs ys n1 ps zs ls = true by rw [mmK, k0, k1, k2]; rfl) hz)
        have l30 : ls.length ≤ 30 := by have := hm.ll; have := hm.x8; omega
        clear k0 k1 k2 hm hn1
        go_enter Try.func41, Try.ntmps41
        go_wp2_with fail
        rw [← HW.out]
        refine I0.out.mono ?_
        rw [F0.out]
        rintro e w1 ⟨rfl, hb⟩
        have T1 := Lib.hid hb
        clear hb lt0 x0 x1 x2
        obtain ⟨lt1, y0, y1, y2⟩ := X1.out.keep T1.out
        go_wp2_with fail
        refine (l06Is_any n1 ps zs _ _ _ _ _ _ _ hl1 hm1 (H1.out.keep T1.out (Nat.le_refl _)) (H1'.out.keep T1.out (Nat.le_refl _))).mono ?_
        rw [F1.out]
        rintro e w2 ⟨rfl, hb⟩
        have T2 := Lib.hid (T1.out.trans (hb.mono T1.out.size))
        clear hb lt1 y0 y1 y2
        obtain ⟨lt0, x0, x1, x2⟩ := X0.out.keep T2.out
        obtain ⟨lt1, y0, y1, y2⟩ := X1.out.keep T2.out
        go_wp2_with fail
        refine (l08Map_any n0 n1 ls _ _ _ _ _ _ _ _ _ hn10 hn11 hll (HL.out.keep T2.out (Nat.le_refl _))).mono ?_
        rw [F2.out]
        rintro e w3 ⟨rfl, hb⟩
        have T3 := Lib.hid (T2.out.trans (hb.mono T2.out.size))
        clear hb lt0 x0 x1 x2 lt1 y0 y1 y2
        go_wp2
        go_loopw [8] (fun i wr => ∃ k : Nat, k ≤ ls.length ∧ i = .int .i64 k ∧ vaB ys zs ls k = true ∧ Hid (Below W.heap.size W wr)) (fun i _ => ls.length - (intOf i).toNat)
        case atStart => exact ⟨0, Nat.zero_le _, rfl, rfl, T3⟩
        case round =>
          obtain ⟨k, hk, rfl, hv, B⟩ := hrel
          have HV := Lib.hid hv
          clear hv
          obtain ⟨lt0, x0, x1, x2⟩ := X0.out.keep B.out
          obtain ⟨lt1, y0, y1, y2⟩ := X1.out.keep B.out
          by_cases hlt : k < ls.length
          · obtain ⟨b, off, rfl, hb, hc⟩ := (HL.out.keep B.out (Nat.le_refl _)).2.resolve_left (by omega)
            have hcell := hc k hlt
            obtain ⟨q, hq, hqe⟩ := M.out.lb k hlt
            rw [hqe] at hcell
            have q8 : (q : Int) ≤ 30 := by have := M.out.p8; omega
            have k30 : (k : Int) ≤ 30 := by omega
            have MB := Lib.hid (show ∀ z, atB ys zs k q ys.length = z → vaB ys zs ls (k + 1) = z from fun z e => by rw [vaB, HV.out, hqe, e]; rfl)
            have AT := Lib.hid (fun w' (hw : Below W.heap.size W w') => l07Atoms_any n0 n1 xs ys ps zs k q a0 c0 b0 d0 a1 c1 b1 d1 w' (by omega) k30 (by omega) q8 (M0.out.keep hw) (M1.out.keep hw))
            clear hc hqe
            cases hz : atB ys zs k q ys.length
            all_goals
              have HZ := Lib.hid (MB.out _ hz)
              have HZZ := Lib.hid hz
              clear hz
              go_wp2
              go_region_with (go_at_call 86; refine (AT.out _ (by first | exact B.out | exact B.out.drew)).mono ?_; rw [HZZ.out]; rintro e w4 ⟨rfl, hb4⟩)
              all_goals
                have B4 := Lib.hid (B.out.trans ((below_of_drew hb4).mono B.out.size))
                clear hb4
                go_wp2
                first
                | (go_ret2
                   exact ⟨R.out _ (by rw [vaB_false (k := k + 1) hlt HZ.out]; rfl), HB.out.trans (B4.out.mono HB.out.size)⟩)
                | (go_roundw
                   case rel => exact ⟨k + 1, hlt, by go_num, HZ.out, B4⟩
                   case measure => simp [intOf]; omega)
          · obtain rfl : k = ls.length := by omega
            go_wp2_with fail
            clear lt0 x0 x1 x2 lt1 y0 y1 y2
            refine (l08Is_any n0 n1 xs ps ls _ _ _ _ _ _ _ M.out (H0.out.keep B.out (Nat.le_refl _)) (H1.out.keep B.out (Nat.le_refl _)) (HL.out.keep B.out (Nat.le_refl _))).mono ?_
            rintro e w4 ⟨rfl, hb⟩
            have B4 := Lib.hid (B.out.trans (hb.mono B.out.size))
            clear hb
            go_wp2
            go_ret2
            exact ⟨R.out _ (by rw [HV.out]; rfl), HB.out.trans (B4.out.mono HB.out.size)⟩

set_option maxHeartbeats 4000000 in
set_option maxRecDepth 100000 in
theorem implIsModelMorphism_v (n0 : Int) (xs ys : List Int) (n1 : Int) (ps zs ls : List Int) (v0 : Value) (lo0 hi0 : Nat) (v1 : Value) (lo1 hi1 : Nat) (v2 : Value) (lo2 hi2 : Nat) (w : World) (hl0 : xs.length ≤ 1048576) (hm0 : ys.length ≤ 1048576) (hl1 : ps.length ≤ 1048576) (hm1 : zs.length ≤ 1048576) (hll : ls.length ≤ 1048576) (h0 : InM w lo0 hi0 v0 n0 xs ys) (h1 : InM w lo1 hi1 v1 n1 ps zs) (h2 : OwnIn w lo2 hi2 v2 ls) :
    Calls Try.prog 42 #[v0, v1, v2] w fun e w' => e = .returned (.tuple #[.bool (mmV n0 xs ys n1 ps zs ls), .int .i64 (mmC n0 xs ys n1 ps zs ls)]) ∧ Below w.heap.size w w' := by
  obtain ⟨a0, c0, b0, d0, rfl, hat0, hat0', -⟩ := h0.at
  obtain ⟨a1, c1, b1, d1, rfl, hat1, hat1', -⟩ := h1.at
  obtain ⟨al, cl, rfl, hatl⟩ := own_lst h2
  obtain ⟨W, hW, HB, X0, X1, hWs⟩ := boxTw w n0 a0 xs.length c0 b0 ys.length d0 n1 a1 ps.length c1 b1 zs.length d1
  have H0 := Lib.hid (hat0.keep HB.out (Nat.le_refl _))
  have H0' := Lib.hid (hat0'.keep HB.out (Nat.le_refl _))
  have H1 := Lib.hid (hat1.keep HB.out (Nat.le_refl _))
  have H1' := Lib.hid (hat1'.keep HB.out (Nat.le_refl _))
  have HL := Lib.hid (hatl.keep HB.out (Nat.le_refl _))
  have AM := Lib.hid (fun k hk => areM2_made n0 n1 xs ys ps zs a0 xs.length c0 b0 ys.length d0 a1 ps.length c1 b1 zs.length d1 W hl0 hm0 hl1 hm1 H0.out H0'.out H1.out H1'.out (k := k) hk)
  have HW := Lib.hid hW
  have HWs := Lib.hid hWs
  clear h0 h1 h2 hat0 hat0' hat1 hat1' hatl hW hWs
  obtain ⟨lt0, x0, x1, x2⟩ := X0.out
  obtain ⟨lt1, y0, y1, y2⟩ := X1.out
  cases k0 : (isM n0 xs ys && isM n1 ps zs)
  · have F0 := Lib.hid k0
    have R := Lib.hid (mm_bad (show mmK n0 xs ys n1 ps zs ls = false by rw [mmK, k0]; rfl))
    clear k0
    go_enter Try.func42, Try.ntmps42
    go_wp2_with fail
    rw [← HW.out]
    refine (AM.out _ HWs.out).mono ?_
    rw [F0.out]
    rintro e w1 ⟨rfl, hb⟩
    have T1 := Lib.hid hb
    clear hb lt0 x0 x1 x2 lt1 y0 y1 y2
    go_wp2
    go_ret2
    exact ⟨R.out, HB.out.trans (T1.out.mono HB.out.size)⟩
  · have k01 := k0
    rw [Bool.and_eq_true] at k01
    obtain ⟨ka, kb⟩ := k01
    have fa := (isM_ok ka).1
    have fb := (isM_ok kb).1
    cases k2 : mpB n0 n1 ls
    · have F0 := Lib.hid k0
      have F2 := Lib.hid (show imK n0 xs n1 ps ls = false by rw [imK, fa, fb, k2]; rfl)
      have R := Lib.hid (mm_bad (show mmK n0 xs ys n1 ps zs ls = false by rw [mmK, k0, k2]; rfl))
      clear k0 k2 ka kb fa fb
      go_enter Try.func42, Try.ntmps42
      go_wp2_with fail
      rw [← HW.out]
      refine (AM.out _ HWs.out).mono ?_
      rw [F0.out]
      rintro e w1 ⟨rfl, hb⟩
      have T1 := Lib.hid hb
      clear hb lt0 x0 x1 x2 lt1 y0 y1 y2
      obtain ⟨lt0, x0, x1, x2⟩ := X0.out.keep T1.out
      obtain ⟨lt1, y0, y1, y2⟩ := X1.out.keep T1.out
      go_wp2_with fail
      refine (isMap_any n0 n1 xs ps ls _ _ _ _ _ _ _ hl0 hl1 hll (H0.out.keep T1.out (Nat.le_refl _)) (H1.out.keep T1.out (Nat.le_refl _)) (HL.out.keep T1.out (Nat.le_refl _))).mono ?_
      rw [F2.out]
      rintro e w2 ⟨rfl, hb⟩
      have T2 := Lib.hid (T1.out.trans (hb.mono T1.out.size))
      clear hb lt0 x0 x1 x2 lt1 y0 y1 y2
      go_wp2
      go_ret2
      exact ⟨R.out, HB.out.trans (T2.out.mono HB.out.size)⟩
    · obtain ⟨hm, hk, hva⟩ := mmK_of ka kb k2
      have M := Lib.hid hm
      have F0 := Lib.hid k0
      have F2 := Lib.hid hk
      have R := Lib.hid (fun z hz => mm_ok (z := z) (show mmK n0 xs ys n1 ps zs ls = true by rw [mmK, k0, k2]; rfl) hz)
      have l30 : ls.length ≤ 30 := by have := hm.ll; have := hm.x8; omega
      have p30 : ps.length ≤ 30 := by have := hm.p8; omega
      cases hz : decide (plL ls zs = ys)
      all_goals
        have DZ := Lib.hid hz
        have VA := Lib.hid (hva.trans hz)
        clear hz k0 k2 ka kb fa fb hm hk hva
        go_enter Try.func42, Try.ntmps42
        go_wp2_with fail
        rw [← HW.out]
        refine (AM.out _ HWs.out).mono ?_
        rw [F0.out]
        rintro e w1 ⟨rfl, hb⟩
        have T1 := Lib.hid hb
        clear hb lt0 x0 x1 x2 lt1 y0 y1 y2
        obtain ⟨lt0, x0, x1, x2⟩ := X0.out.keep T1.out
        obtain ⟨lt1, y0, y1, y2⟩ := X1.out.keep T1.out
        go_wp2_with fail
        refine (isMap_any n0 n1 xs ps ls _ _ _ _ _ _ _ hl0 hl1 hll (H0.out.keep T1.out (Nat.le_refl _)) (H1.out.keep T1.out (Nat.le_refl _)) (HL.out.keep T1.out (Nat.le_refl _))).mono ?_
        rw [F2.out]
        rintro e w2 ⟨rfl, hb⟩
        have T2 := Lib.hid (T1.out.trans (hb.mono T1.out.size))
        clear hb lt0 x0 x1 x2 lt1 y0 y1 y2
        have PU := Lib.hid (fun w' (hw : Below W.heap.size W w') => pulled_any ls zs ps.length al cl b1 d1 w' l30 p30 M.out.ok hm1 (HL.out.keep hw (Nat.le_refl _)) (H1'.out.keep hw (Nat.le_refl _)))
        obtain ⟨lt0, x0, x1, x2⟩ := X0.out.keep T2.out
        obtain ⟨lt1, y0, y1, y2⟩ := X1.out.keep T2.out
        have PL := Lib.hid (show (plL ls zs).length = zs.length from plL_len _ _)
        go_wp2
        go_region_with (first | (go_at_call 84; refine (PU.out _ (by first | exact T2.out | exact T2.out.drew)).mono ?_; rintro e w3 ⟨v3, rfl, ho, hb3⟩; obtain ⟨a3, k3, rfl, hat3, -, -, -⟩ := ho.at; have A3 := Lib.hid hat3; have T3 := Lib.hid (T2.out.trans ((below_of_drew hb3).mono T2.out.size)); clear ho hb3 hat3; obtain ⟨lz0, z0, z1, z2⟩ := X0.out.keep T3.out) | (go_at_call 88; refine (slEqualI_any (plL ls zs) ys _ _ _ _ _ _ _ (by rw [PL.out]; exact hm1) hm0 A3.out (H0'.out.keep T3.out (Nat.le_refl _))).mono ?_; rw [DZ.out]; rintro e w4 ⟨rfl, hb4⟩))
        all_goals
          have T4 := Lib.hid (T3.out.trans (hb4.mono T3.out.size))
          clear hb4
          obtain ⟨lu0, u0, u1, u2⟩ := X0.out.keep T4.out
          obtain ⟨lu1, t0, t1, t2⟩ := X1.out.keep T4.out
          go_wp2_with fail
          first
          | (go_ret2
             exact ⟨R.out _ (by rw [VA.out]; rfl), HB.out.trans (T4.out.mono HB.out.size)⟩)
          | (refine (isMorphism_any n0 n1 xs ps ls _ _ _ _ _ _ _ M.out.ll (by have := M.out.x8; omega) M.out.lb M.out.b30 (H0.out.keep T4.out (Nat.le_refl _)) (H1.out.keep T4.out (Nat.le_refl _)) (HL.out.keep T4.out (Nat.le_refl _))).mono ?_
             rintro e w5 ⟨rfl, hb⟩
             have T5 := Lib.hid (T4.out.trans (hb.mono T4.out.size))
             clear hb
             go_wp2
             go_ret2
             exact ⟨R.out _ (by rw [VA.out]; rfl), HB.out.trans (T5.out.mono HB.out.size)⟩)

end Go.Proofs.Ytomldealpmohhaa
