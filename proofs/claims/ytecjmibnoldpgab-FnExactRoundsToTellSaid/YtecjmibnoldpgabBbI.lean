/- Contracts of BoundedBisimulation and GreatestBisimulation of the program. Conditions: those in the theorems. -/
import Derived.Test.YtecjmibnoldpgabBbS
import Derived.Test.YtecjmibnoldpgabJn19
import Derived.Test.YtecjmibnoldpgabCtP
namespace Go.Proofs.Ytecjmibnoldpgab
open Go.RowKit

set_option maxHeartbeats 4000000 in
set_option maxRecDepth 100000 in
theorem implBoundedBisimulation_v (n0 : Int) (xs ys : List Int) (n1 : Int) (ps zs : List Int) (k : Int) (v0 : Value) (lo0 hi0 : Nat) (v1 : Value) (lo1 hi1 : Nat) (w : World) (hl0 : xs.length ≤ 1048576) (hm0 : ys.length ≤ 1048576) (hl1 : ps.length ≤ 1048576) (hm1 : zs.length ≤ 1048576) (h0 : InM w lo0 hi0 v0 n0 xs ys) (h1 : InM w lo1 hi1 v1 n1 ps zs) :
    Calls Try.prog 19 #[v0, v1, .int .i64 k] w fun e w' => ∃ v, e = .returned (.tuple #[v, .int .i64 (bbC n0 xs ys n1 ps zs k)]) ∧ Own w' w.heap.size v (bbL n0 xs ys n1 ps zs k) ∧ Below w.heap.size w w' := by
  obtain ⟨a0, c0, b0, d0, rfl, hat0, hat0', -⟩ := h0.at
  obtain ⟨a1, c1, b1, d1, rfl, hat1, hat1', -⟩ := h1.at
  obtain ⟨W, hW, HB, X0, X1, hWs⟩ := boxTw w n0 a0 xs.length c0 b0 ys.length d0 n1 a1 ps.length c1 b1 zs.length d1
  have H0 := Lib.hid (hat0.keep HB.out (Nat.le_refl _))
  have H0' := Lib.hid (hat0'.keep HB.out (Nat.le_refl _))
  have H1 := Lib.hid (hat1.keep HB.out (Nat.le_refl _))
  have H1' := Lib.hid (hat1'.keep HB.out (Nat.le_refl _))
  have CM := Lib.hid (areM2_made n0 n1 xs ys ps zs a0 _ c0 b0 _ d0 a1 _ c1 b1 _ d1 W hl0 hm0 hl1 hm1 H0.out H0'.out H1.out H1'.out hWs)
  have HW := Lib.hid hW
  clear h0 h1 hat0 hat0' hat1 hat1' hW
  have hws : w.heap.size ≤ W.heap.size := by omega
  clear hWs
  obtain ⟨lt0, x0, x1, x2⟩ := X0.out
  obtain ⟨lt1, y0, y1, y2⟩ := X1.out
  cases hf : (isM n0 xs ys && isM n1 ps zs)
  · have F := Lib.hid hf
    have R := Lib.hid (bb_bad (k := k) hf)
    clear hf
    go_enter Try.func19, Try.ntmps19
    go_wp2_with fail
    rw [← HW.out]
    refine CM.out.mono ?_
    rw [F.out]
    rintro e w1 ⟨rfl, hb⟩
    have B1 := Lib.hid (HB.out.trans (hb.mono HB.out.size))
    clear hb x0 x1 x2 y0 y1 y2
    go_wp2
    go_ret2
    exact ⟨_, out_c R.out.1, by rw [R.out.2]; exact World.ownsRow_nil _ _ _ _, B1.out⟩
  · have F := Lib.hid hf
    cases hk : inB k 0 16
    · have R := Lib.hid (bb_far hf hk)
      have HK := Lib.hid (show wlB 17 k = false from wl_far hk)
      clear hf hk
      go_enter Try.func19, Try.ntmps19
      go_wp2_with fail
      rw [← HW.out]
      refine CM.out.mono ?_
      rw [F.out]
      rintro e w1 ⟨rfl, hb⟩
      have B1 := Lib.hid (HB.out.trans (hb.mono HB.out.size))
      clear hb x0 x1 x2 y0 y1 y2
      go_wp2_with (go_at_call 44; refine (isBelow_any _ _ _).mono ?_; rw [HK.out]; rintro e w' ⟨rfl, rfl⟩)
      go_ret2
      exact ⟨_, out_c R.out.1, by rw [R.out.2]; exact World.ownsRow_nil _ _ _ _, B1.out⟩
    · have R := Lib.hid (bb_ok hf hk)
      have HK := Lib.hid (show wlB 17 k = true from wl_near hk)
      obtain ⟨hk0, hk1⟩ := inB_16 hk
      obtain ⟨q, rfl⟩ := Int.eq_ofNat_of_zero_le hk0
      rw [Int.toNat_natCast] at R
      have hq : q < 17 := by omega
      have hff := hf
      rw [Bool.and_eq_true] at hff
      have TW := Lib.hid (Two.of hff.1 hff.2)
      have hnx : n0 = xs.length := (isM_ok hff.1).2.1
      have hnp : n1 = ps.length := (isM_ok hff.2).2.1
      have x8 := TW.out.x8
      have p8 := TW.out.p8
      subst hnx
      subst hnp
      clear hf hk hff
      go_enter Try.func19, Try.ntmps19
      go_wp2_with fail
      rw [← HW.out]
      refine CM.out.mono ?_
      rw [F.out]
      rintro e w1 ⟨rfl, hb⟩
      have T1 := Lib.hid hb
      clear hb x0 x1 x2 y0 y1 y2
      obtain ⟨lt0, x0, x1, x2⟩ := X0.out.keep T1.out
      obtain ⟨lt1, y0, y1, y2⟩ := X1.out.keep T1.out
      have PL := Lib.hid (plusM_any xs.length ps.length xs ys ps zs a0 c0 b0 d0 a1 c1 b1 d1 w1 (by omega) (by omega) x8 p8 TW.out.y6 TW.out.z6 (H0.out.keep T1.out (Nat.le_refl _)) (H0'.out.keep T1.out (Nat.le_refl _)) (H1.out.keep T1.out (Nat.le_refl _)) (H1'.out.keep T1.out (Nat.le_refl _)))
      go_wp2_with (go_at_call 44; refine (isBelow_any _ _ _).mono ?_; rw [HK.out]; rintro e w' ⟨rfl, rfl⟩)
      clear x0 x1 x2 y0 y1 y2
      refine PL.out.mono ?_
      rintro e w2 ⟨v2, rfl, ho, hb⟩
      have T2 := Lib.hid (T1.out.trans (hb.mono T1.out.size))
      obtain ⟨a2, c2, b2, d2, rfl, hs1, hs2, -⟩ := (ho.inM hb.size).at
      have CT := Lib.hid (show Calls Try.prog 36 #[.agg #[.int .i64 (xs.length + ps.length : Nat), .slice a2 (xs.length + ps.length) c2, .slice b2 ys.length d2]] w2 fun e w' => ∃ (K : Nat) (vR : Value) (us : List Value), e = .returned (.agg #[.int .i64 (xs.length + ps.length : Nat), .slice a2 (xs.length + ps.length) c2, .slice b2 ys.length d2, vR]) ∧ Rn w' w2.heap.size vR us (cLs (xs.length + ps.length) (sXs xs ps) (sYs xs ys zs)) (K + 1) ∧ cLs (xs.length + ps.length) (sXs xs ps) (sYs xs ys zs) K = cLs (xs.length + ps.length) (sXs xs ps) (sYs xs ys zs) (K + 1) ∧ (∀ j, j < K → cLs (xs.length + ps.length) (sXs xs ps) (sYs xs ys zs) j ≠ cLs (xs.length + ps.length) (sXs xs ps) (sYs xs ys zs) (j + 1)) ∧ Below w2.heap.size w2 w' by
        have q := contestIn_any (sXs xs ps).length (sXs xs ps) (sYs xs ys zs) a2 c2 b2 d2 w2 TW.out.sum rfl (by rw [sYs, tab_len]; exact TW.out.y6) hs1 hs2
        rw [sXs_len, sYs, tab_len] at q
        exact q)
      clear ho hb hs1 hs2
      rw [show (smTo xs ps (xs.length : Int) ps.length).length = xs.length + ps.length from smTo_len _ _ _ _, tab_len]
      go_wp2_with fail
      refine CT.out.mono ?_
      rintro e w3 ⟨K, vR, us, rfl, hr, hst, hne, hb⟩
      have T3 := Lib.hid (T2.out.trans (hb.mono T2.out.size))
      obtain ⟨aR, cR, rfl, hg⟩ := hr.form
      obtain ⟨g, rfl, hg1, hg2, hgc⟩ := hg.resolve_left (by omega)
      have hK := stop_le TW.out.sum (by rw [sXs_len]; exact hne)
      rw [sXs_len] at hK
      have RJ := Lib.hid (show ∀ j, j < K + 1 → ∃ a c, w3.cell? ⟨g, j, none⟩ = some (.slice a (xs.length + ps.length) c) ∧ ∀ w4 : World, Below w3.heap.size w3 w4 → Calls Try.prog 46 #[.slice a (xs.length + ps.length) c, .int .i64 xs.length] w4 fun e w' => ∃ v, e = .returned v ∧ Own w' w4.heap.size v (lkN xs ys ps zs j) ∧ Below w4.heap.size w4 w' from fun j hj => by
        obtain ⟨a, c, eu, ho⟩ := hr.2 j hj
        have hu := (hgc j hj).trans eu
        obtain ⟨a', c', e', hat, hcap, -, -⟩ := ho.at
        cases e'
        have hlen := cLs_len (xs.length + ps.length) (sXs xs ps) (sYs xs ys zs) j
        refine ⟨a, c, by rw [hlen] at hu; exact hu, fun w4 h4 => ?_⟩
        have q := linkIn_any (cLs (xs.length + ps.length) (sXs xs ps) (sYs xs ys zs) j) xs.length ps.length a c w4 (by omega) (by omega) hlen (by rw [hlen] at hcap; exact hcap) (hat.keep h4 (Nat.le_refl _))
        rw [TW.out.link j, hlen] at q
        exact q)
      have FAR := Lib.hid (show ∀ j, K ≤ j → lkN xs ys ps zs j = lkN xs ys ps zs K from fun j hj => by rw [← TW.out.link j, ← TW.out.link K, cLs_far hst hj])
      clear hr hst hne hgc hb
      obtain ⟨W4, hW4, hb4, hC4⟩ : ∃ W4, W4 = w3.alloc (.cells #[.int .i64 (xs.length + ps.length), .slice a2 (xs.length + ps.length) c2, .slice b2 ys.length d2, .slice (some ⟨g, 0, none⟩) (K + 1) cR] 59) ∧ Below w3.heap.size w3 W4 ∧ Cn W4 w3.heap.size (xs.length + ps.length) a2 (xs.length + ps.length) c2 b2 ys.length d2 (.slice (some ⟨g, 0, none⟩) (K + 1) cR) := ⟨_, rfl, (alloc_keep _ _).1, Cn.new _ _ _ _ _ _ _ _ _⟩
      obtain ⟨q0, q1, q2, q3, -⟩ := hC4.lit
      have T4 := Lib.hid (T3.out.trans (hb4.mono T3.out.size))
      have D4 := Lib.hid hb4
      obtain ⟨lt0, x0, x1, x2⟩ := X0.out.keep T4.out
      have HE := Lib.hid hW4
      clear hC4 hb4 hW4
      by_cases hqK : q < K + 1
      · have hqK' : (q : Int) < (K : Int) + 1 := by omega
        obtain ⟨aj, cj, hu3, LI⟩ := RJ.out q hqK
        have hu := (D4.out.cell (p := ⟨g, q, none⟩) hg2).trans hu3
        have LJ := Lib.hid LI
        clear LI hu3
        go_wp2_with fail
        rw [← HE.out]
        go_region_held3 (fun w' => w'.cell? ⟨w3.heap.size, 3, none⟩ = some (.slice (some ⟨g, 0, none⟩) (K + 1) cR) ∧ w'.cell? ⟨g, q, none⟩ = some (.slice aj (xs.length + ps.length) cj) ∧ w'.cell? ⟨w.heap.size, 0, none⟩ = some (.int .i64 xs.length)) (first | exact ⟨p3, pu, p0⟩ | exact ⟨q3, hu, x0⟩ | go_keep) (first | (go_at_call 46; refine (LJ.out _ (by first | exact D4.out.drew | exact below_drewN D4.out _ | exact D4.out)).mono ?_; rintro e w5 ⟨v5, rfl, ho, hb⟩; have T5 := Lib.hid (show Below W4.heap.size W4 w5 from below_of_drew hb); have O5 := Lib.hid (show Own w5 W4.heap.size v5 (lkN xs ys ps zs q) from ho); clear ho hb; have p3 := (T5.out.cell (p := ⟨w3.heap.size, 3, none⟩) (World.block_lt_of_cell? _ _ q3)).trans q3; have pu := (T5.out.cell (p := ⟨g, q, none⟩) (World.block_lt_of_cell? _ _ hu)).trans hu; have p0 := (T5.out.cell (p := ⟨w.heap.size, 0, none⟩) lt0).trans x0))
        all_goals
          go_wp2
          go_ret2
          exact ⟨_, out_c R.out.1, by rw [R.out.2]; exact O5.out.mono (Nat.le_trans hws T4.out.size), HB.out.trans ((T4.out.trans (T5.out.mono T4.out.size)).mono HB.out.size)⟩
      · have hqK' : ¬ (q : Int) < (K : Int) + 1 := by omega
        obtain ⟨aj, cj, hu3, LI⟩ := RJ.out K (by omega)
        have hu := (D4.out.cell (p := ⟨g, K, none⟩) hg2).trans hu3
        have LJ := Lib.hid LI
        have hK2 : K ≤ 1048576 := by omega
        have LA := Lib.hid (show ∀ w4 : World, Below W4.heap.size W4 w4 → Calls Try.prog 37 #[.agg #[.int .i64 (xs.length + ps.length), .slice a2 (xs.length + ps.length) c2, .slice b2 ys.length d2, .slice (some ⟨g, 0, none⟩) (K + 1) cR]] w4 fun e w' => e = .returned (.slice aj (xs.length + ps.length) cj) ∧ Below w4.heap.size w4 w' from
          fun w4 hw => last_any _ _ _ _ _ _ _ g K cR _ w4 hK2 (Nat.lt_of_lt_of_le (World.block_lt_of_cell? _ _ hu) hw.size) ((hw.cell (p := ⟨g, K, none⟩) (World.block_lt_of_cell? _ _ hu)).trans hu))
        have FQ := Lib.hid (FAR.out q (by omega))
        have QX := Lib.hid (show ∀ w5, Below W4.heap.size W4 w5 → w5.cell? ⟨w3.heap.size, 0, none⟩ = some (.int .i64 (xs.length + ps.length)) ∧ w5.cell? ⟨w3.heap.size, 1, none⟩ = some (.slice a2 (xs.length + ps.length) c2) ∧ w5.cell? ⟨w3.heap.size, 2, none⟩ = some (.slice b2 ys.length d2) ∧ w5.cell? ⟨w3.heap.size, 3, none⟩ = some (.slice (some ⟨g, 0, none⟩) (K + 1) cR) ∧ w5.cell? ⟨w.heap.size, 0, none⟩ = some (.int .i64 xs.length) from
          fun w5 h5 => ⟨(h5.cell (p := ⟨w3.heap.size, 0, none⟩) (World.block_lt_of_cell? _ _ q0)).trans q0, (h5.cell (p := ⟨w3.heap.size, 1, none⟩) (World.block_lt_of_cell? _ _ q1)).trans q1, (h5.cell (p := ⟨w3.heap.size, 2, none⟩) (World.block_lt_of_cell? _ _ q2)).trans q2, (h5.cell (p := ⟨w3.heap.size, 3, none⟩) (World.block_lt_of_cell? _ _ q3)).trans q3, (h5.cell (p := ⟨w.heap.size, 0, none⟩) lt0).trans x0⟩)
        clear LI hu3 hu
        go_wp2_with fail
        rw [← HE.out]
        go_region_held3 (fun w' => w'.cell? ⟨w3.heap.size, 0, none⟩ = some (.int .i64 (xs.length + ps.length)) ∧ w'.cell? ⟨w3.heap.size, 1, none⟩ = some (.slice a2 (xs.length + ps.length) c2) ∧ w'.cell? ⟨w3.heap.size, 2, none⟩ = some (.slice b2 ys.length d2) ∧ w'.cell? ⟨w3.heap.size, 3, none⟩ = some (.slice (some ⟨g, 0, none⟩) (K + 1) cR) ∧ w'.cell? ⟨w.heap.size, 0, none⟩ = some (.int .i64 xs.length)) (first | exact ⟨s0, s1, s2, s3, s4⟩ | exact ⟨p0, p1, p2, p3, p4⟩ | exact ⟨q0, q1, q2, q3, x0⟩ | go_keep) (first | (go_at_call 37; refine (LA.out _ (by first | exact (Below.refl _ _).drew | exact Below.refl _ _ | exact below_drewN (Below.refl _ _) _)).mono ?_; rintro e w5 ⟨rfl, hb⟩; have T5 := Lib.hid (show Below W4.heap.size W4 w5 from below_of_drew hb); clear hb; obtain ⟨p0, p1, p2, p3, p4⟩ := QX.out w5 T5.out) | (go_at_call 46; refine (LJ.out _ (D4.out.trans (T5.out.mono D4.out.size))).mono ?_; rintro e w6 ⟨v6, rfl, ho, hb⟩; have T6 := Lib.hid (T5.out.trans (hb.mono T5.out.size)); have O6 := Lib.hid (show Own w6 W4.heap.size v6 (lkN xs ys ps zs K) from ho.mono T5.out.size); clear ho hb; obtain ⟨s0, s1, s2, s3, s4⟩ := QX.out w6 T6.out))
        all_goals
          go_wp2
          go_ret2
          exact ⟨_, out_c R.out.1, by rw [R.out.2, FQ.out]; exact O6.out.mono (Nat.le_trans hws T4.out.size), HB.out.trans ((T4.out.trans (T6.out.mono T4.out.size)).mono HB.out.size)⟩

set_option maxHeartbeats 1000000 in
theorem implGreatestBisimulation_v (n0 : Int) (xs ys : List Int) (n1 : Int) (ps zs : List Int) (v0 : Value) (lo0 hi0 : Nat) (v1 : Value) (lo1 hi1 : Nat) (w : World) (hl0 : xs.length ≤ 1048576) (hm0 : ys.length ≤ 1048576) (hl1 : ps.length ≤ 1048576) (hm1 : zs.length ≤ 1048576) (h0 : InM w lo0 hi0 v0 n0 xs ys) (h1 : InM w lo1 hi1 v1 n1 ps zs) :
    Calls Try.prog 21 #[v0, v1] w fun e w' => ∃ v, e = .returned (.tuple #[v, .int .i64 (gbC n0 xs ys n1 ps zs)]) ∧ Own w' w.heap.size v (gbL n0 xs ys n1 ps zs) ∧ Below w.heap.size w w' := by
  obtain ⟨a0, c0, b0, d0, e0, hat0, hat0', -⟩ := h0.at
  obtain ⟨a1, c1, b1, d1, e1, hat1, hat1', -⟩ := h1.at
  subst e0
  subst e1
  obtain ⟨W, hW, HB, X0, X1, hWs⟩ := boxTw w n0 a0 xs.length c0 b0 ys.length d0 n1 a1 ps.length c1 b1 zs.length d1
  have CM := Lib.hid (implBoundedBisimulation_v n0 xs ys n1 ps zs 16 _ lo0 hi0 _ lo1 hi1 W hl0 hm0 hl1 hm1 (h0.below HB.out h0.hi) (h1.below HB.out h1.hi))
  have HW := Lib.hid hW
  have hws : w.heap.size ≤ W.heap.size := by omega
  clear h0 h1 hat0 hat0' hat1 hat1' hW hWs
  obtain ⟨lt0, x0, x1, x2⟩ := X0.out
  obtain ⟨lt1, y0, y1, y2⟩ := X1.out
  go_enter Try.func21, Try.ntmps21
  go_wp2_with fail
  rw [← HW.out]
  clear x0 x1 x2 y0 y1 y2
  refine CM.out.mono ?_
  rintro e w1 ⟨v, rfl, ho, hb⟩
  have O1 := Lib.hid (ho.mono hws)
  have B1 := Lib.hid (HB.out.trans (hb.mono HB.out.size))
  clear ho hb
  go_wp2
  go_ret2
  exact ⟨_, rfl, O1.out, B1.out⟩

end Go.Proofs.Ytecjmibnoldpgab
