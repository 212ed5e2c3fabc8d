/- Contracts of the program's RoundsToTell. Conditions: those in the theorems. -/
import Derived.Test.YtecjmibnoldpgabRtS
namespace Go.Proofs.Ytecjmibnoldpgab
open Go.RowKit

set_option maxHeartbeats 2000000 in
set_option maxRecDepth 100000 in
theorem checkPair_any (n0 n1 x y : Int) (xs ys ps zs : List Int) (a0 : Option Addr) (c0 : Nat) (b0 : Option Addr) (d0 : Nat) (a1 : Option Addr) (c1 : Nat) (b1 : Option Addr) (d1 : Nat) (w : World) (hl0 : xs.length ≤ 1048576) (hm0 : ys.length ≤ 1048576) (hl1 : ps.length ≤ 1048576) (hm1 : zs.length ≤ 1048576) (h0 : At w a0 xs.length xs) (h0' : At w b0 ys.length ys) (h1 : At w a1 ps.length ps) (h1' : At w b1 zs.length zs) :
    Calls Try.prog 50 #[.agg #[.int .i64 n0, .slice a0 xs.length c0, .slice b0 ys.length d0], .int .i64 x, .agg #[.int .i64 n1, .slice a1 ps.length c1, .slice b1 zs.length d1], .int .i64 y] w fun e w' => e = .returned (.int .i64 (plC (isM n0 xs ys && isM n1 ps zs) n0 x n1 y)) ∧ Below w.heap.size w w' := by
  obtain ⟨W, hW, HB, X0, X1, hWs⟩ := boxTw w n0 a0 xs.length c0 b0 ys.length d0 n1 a1 ps.length c1 b1 zs.length d1
  have CM := Lib.hid (areM2_made n0 n1 xs ys ps zs a0 _ c0 b0 _ d0 a1 _ c1 b1 _ d1 W hl0 hm0 hl1 hm1 (h0.keep HB.out (Nat.le_refl _)) (h0'.keep HB.out (Nat.le_refl _)) (h1.keep HB.out (Nat.le_refl _)) (h1'.keep HB.out (Nat.le_refl _)) hWs)
  have HW := Lib.hid hW
  clear h0 h0' h1 h1' hW hWs
  obtain ⟨lt0, x0, x1, x2⟩ := X0.out
  obtain ⟨lt1, y0, y1, y2⟩ := X1.out
  cases hf : (isM n0 xs ys && isM n1 ps zs)
  · have F := Lib.hid hf
    clear hf
    go_enter Try.func50, Try.ntmps50
    go_wp2_with fail
    rw [← HW.out]
    refine CM.out.mono ?_
    rw [F.out]
    rintro e w1 ⟨rfl, hb⟩
    have B1 := Lib.hid (HB.out.trans (hb.mono HB.out.size))
    clear hb x0 x1 x2 y0 y1 y2
    go_wp2
    go_ret
    exact ⟨rfl, B1.out⟩
  · have F := Lib.hid hf
    clear hf
    cases hx : wlB n0 x
    · have FX := Lib.hid hx
      have E := Lib.hid (show plC true n0 x n1 y = 2 by rw [plC, hx]; rfl)
      clear hx
      go_enter Try.func50, Try.ntmps50
      go_wp2_with fail
      rw [← HW.out]
      refine CM.out.mono ?_
      rw [F.out]
      rintro e w1 ⟨rfl, hb⟩
      have T1 := Lib.hid hb
      clear hb x0 x1 x2 y0 y1 y2
      obtain ⟨lt0, x0, x1, x2⟩ := X0.out.keep T1.out
      obtain ⟨lt1, y0, y1, y2⟩ := X1.out.keep T1.out
      go_wp2_with (go_at_call 44; refine (isBelow_any _ _ _).mono ?_; rw [FX.out]; rintro e w' ⟨rfl, rfl⟩)
      go_ret
      exact ⟨ret_int E.out.symm, HB.out.trans (T1.out.mono HB.out.size)⟩
    · cases hy : wlB n1 y
      all_goals
        have FX := Lib.hid hx
        have FY := Lib.hid hy
        have e9 : plC true n0 x n1 y = (if wlB n1 y = true then 0 else 2) := by rw [plC, hx]; rfl
        rw [hy] at e9
        have E := Lib.hid e9
        clear hx hy e9
        go_enter Try.func50, Try.ntmps50
        go_wp2_with fail
        rw [← HW.out]
        refine CM.out.mono ?_
        rw [F.out]
        rintro e w1 ⟨rfl, hb⟩
        have T1 := Lib.hid hb
        clear hb x0 x1 x2 y0 y1 y2
        obtain ⟨lt0, x0, x1, x2⟩ := X0.out.keep T1.out
        obtain ⟨lt1, y0, y1, y2⟩ := X1.out.keep T1.out
        go_wp2_with (first | (go_at_call_of 44 n0; refine (isBelow_any _ _ _).mono ?_; rw [FX.out]; rintro e w' ⟨rfl, rfl⟩) | (go_at_call_of 44 n1; refine (isBelow_any _ _ _).mono ?_; rw [FY.out]; rintro e w' ⟨rfl, rfl⟩))
        go_ret
        exact ⟨ret_int E.out.symm, HB.out.trans (T1.out.mono HB.out.size)⟩

section
variable {xs ys ps zs : List Int}
theorem plusN_any (TW : Two xs ys ps zs) (a0 : Option Addr) (c0 : Nat) (b0 : Option Addr) (d0 : Nat) (a1 : Option Addr) (c1 : Nat) (b1 : Option Addr) (d1 : Nat) (w : World) (h0 : At w a0 xs.length xs) (h0' : At w b0 ys.length ys) (h1 : At w a1 ps.length ps) (h1' : At w b1 zs.length zs) :
    Calls Try.prog 45 #[.agg #[.int .i64 xs.length, .slice a0 xs.length c0, .slice b0 ys.length d0], .agg #[.int .i64 ps.length, .slice a1 ps.length c1, .slice b1 zs.length d1]] w fun e w' => ∃ a2 c2 b2 d2, e = .returned (.agg #[.int .i64 (xs.length + ps.length : Nat), .slice a2 (xs.length + ps.length) c2, .slice b2 ys.length d2]) ∧ At w' a2 (xs.length + ps.length) (sXs xs ps) ∧ At w' b2 ys.length (sYs xs ys zs) ∧ Below w.heap.size w w' := by
  have x8 := TW.x8
  have p8 := TW.p8
  refine (plusM_any xs.length ps.length xs ys ps zs a0 c0 b0 d0 a1 c1 b1 d1 w (by omega) (by omega) x8 p8 TW.y6 TW.z6 h0 h0' h1 h1').mono ?_
  rintro e w2 ⟨v2, rfl, ho, hb⟩
  obtain ⟨a2, c2, b2, d2, rfl, hs1, hs2, -⟩ := (ho.inM hb.size).at
  have e1 : (smTo xs ps (xs.length : Int) ps.length).length = xs.length + ps.length := smTo_len _ _ _ _
  rw [e1] at hs1 ⊢
  rw [tab_len] at hs2 ⊢
  exact ⟨a2, c2, b2, d2, rfl, hs1, hs2, hb⟩
theorem contestN_any (TW : Two xs ys ps zs) (a2 : Option Addr) (c2 : Nat) (b2 : Option Addr) (d2 : Nat) (w2 : World) (hs1 : At w2 a2 (xs.length + ps.length) (sXs xs ps)) (hs2 : At w2 b2 ys.length (sYs xs ys zs)) :
    Calls Try.prog 36 #[.agg #[.int .i64 (xs.length + ps.length : Nat), .slice a2 (xs.length + ps.length) c2, .slice b2 ys.length d2]] w2 fun e w3 => ∃ (K g cR : Nat), e = .returned (.agg #[.int .i64 (xs.length + ps.length : Nat), .slice a2 (xs.length + ps.length) c2, .slice b2 ys.length d2, .slice (some ⟨g, 0, none⟩) (K + 1) cR]) ∧ K ≤ 16 ∧ (∀ j, j < K + 1 → ∃ a c, w3.cell? ⟨g, j, none⟩ = some (.slice a (xs.length + ps.length) c) ∧ At w3 a (xs.length + ps.length) (cLs (xs.length + ps.length) (sXs xs ps) (sYs xs ys zs) j)) ∧ (∀ j, K ≤ j → lkN xs ys ps zs j = lkN xs ys ps zs K) ∧ Below w2.heap.size w2 w3 := by
  have q := contestIn_any (sXs xs ps).length (sXs xs ps) (sYs xs ys zs) a2 c2 b2 d2 w2 TW.sum rfl (by rw [sYs, tab_len]; exact TW.y6) (by rw [sXs_len]; exact hs1) (by rw [sYs, tab_len]; exact hs2)
  rw [sXs_len, show (sYs xs ys zs).length = ys.length from tab_len _ _] at q
  refine q.mono ?_
  rintro e w3 ⟨K, vR, us, rfl, hr, hst, hne, hb⟩
  obtain ⟨aR, cR, rfl, hg⟩ := hr.form
  obtain ⟨g, rfl, hg1, hg2, hgc⟩ := hg.resolve_left (by omega)
  have hK := stop_le TW.sum (by rw [sXs_len]; exact hne)
  rw [sXs_len] at hK
  have x8 := TW.x8
  have p8 := TW.p8
  refine ⟨K, g, cR, rfl, by omega, fun j hj => ?_, fun j hj => by rw [← TW.link j, ← TW.link K, cLs_far hst hj], hb⟩
  obtain ⟨a, c, eu, ho⟩ := hr.2 j hj
  have hu := (hgc j hj).trans eu
  obtain ⟨a', c', e', hat, -⟩ := ho.at
  cases e'
  rw [cLs_len] at hu hat
  exact ⟨a, c, hu, hat⟩
theorem Two.nt (h : Two xs ys ps zs) (k : Nat) {x y : Nat} (hx : x < xs.length) (hy : y < ps.length) : ntF xs ys ps zs x y k = (nth (cLs (xs.length + ps.length) (sXs xs ps) (sYs xs ys zs) k) x == nth (cLs (xs.length + ps.length) (sXs xs ps) (sYs xs ys zs) k) (xs.length + y)) := by
  have p8 := h.p8
  rw [Bool.eq_iff_iff, beq_iff_eq, h.cls k hx hy, ntF, Int.toNat_natCast, bitB_T (((h.lk k).lr x).bd (by omega)), h.lk_T k hx y]
  exact ⟨fun q => q.2, fun q => ⟨hy, q⟩⟩
theorem Two.rt (h : Two xs ys ps zs) {K x y : Nat} (hx : x < xs.length) (hy : y < ps.length) (hK : K ≤ 16) (hf : ∀ j, K ≤ j → lkN xs ys ps zs j = lkN xs ys ps zs K) : frV (fun j => nth (cLs (xs.length + ps.length) (sXs xs ps) (sYs xs ys zs) j) x == nth (cLs (xs.length + ps.length) (sXs xs ps) (sYs xs ys zs) j) (xs.length + y)) (K + 1) = rtZ xs ys ps zs x y := by
  rw [rtZ]
  exact (fr_far (by omega) (fun j _ => h.nt j hx hy) (fun j hj => by rw [ntF, ntF, hf j hj])).symm
theorem contestR_any (TW : Two xs ys ps zs) {k l : Nat} (hk : k < xs.length) (hl : l < ps.length) (z : Int) (hz : z = rtZ xs ys ps zs k l) (zr : Int) (zb : Bool) (hzr : zr = if z = -1 then 0 else z) (hzb : zb = !(z == -1)) (a2 : Option Addr) (c2 : Nat) (b2 : Option Addr) (d2 : Nat) (w2 : World) (hs1 : At w2 a2 (xs.length + ps.length) (sXs xs ps)) (hs2 : At w2 b2 ys.length (sYs xs ys zs)) :
    Calls Try.prog 36 #[.agg #[.int .i64 (xs.length + ps.length : Nat), .slice a2 (xs.length + ps.length) c2, .slice b2 ys.length d2]] w2 fun e w3 => ∃ vC, e = .returned vC ∧ Calls Try.prog 51 #[vC, .int .i64 k, .int .i64 ((xs.length : Int) + (l : Int))] w3 (fun e w' => e = .returned (.tuple #[.int .i64 zr, .bool zb]) ∧ Below w3.heap.size w3 w') ∧ Below w2.heap.size w2 w3 := by
  refine (contestN_any TW a2 c2 b2 d2 w2 hs1 hs2).mono ?_
  rintro e w3 ⟨K, g, cR, rfl, hK, hgj, hfar, hb⟩
  refine ⟨_, rfl, ?_, hb⟩
  have x8 := TW.x8
  have p8 := TW.p8
  have RT := rtt_any (cLs (xs.length + ps.length) (sXs xs ps) (sYs xs ys zs)) (xs.length + ps.length) K k (xs.length + l) g cR (xs.length + ps.length : Nat) a2 (xs.length + ps.length) c2 b2 ys.length d2 w3 (by omega) (by omega) (by omega) (fun j => cLs_len _ _ _ _) hgj
  rw [TW.rt hk hl hK hfar, ← hz, show (((xs.length + l : Nat)) : Int) = (xs.length : Int) + (l : Int) by omega, ← hzr, ← hzb] at RT
  exact RT
end

set_option maxHeartbeats 8000000 in
set_option maxRecDepth 100000 in
theorem implRoundsToTell_v (n0 : Int) (xs ys : List Int) (x : Int) (n1 : Int) (ps zs : List Int) (y : Int) (v0 : Value) (lo0 hi0 : Nat) (v1 : Value) (lo1 hi1 : Nat) (w : World) (hl0 : xs.length ≤ 1048576) (hm0 : ys.length ≤ 1048576) (hl1 : ps.length ≤ 1048576) (hm1 : zs.length ≤ 1048576) (h0 : InM w lo0 hi0 v0 n0 xs ys) (h1 : InM w lo1 hi1 v1 n1 ps zs) :
    Calls Try.prog 23 #[v0, .int .i64 x, v1, .int .i64 y] w fun e w' => e = .returned (.tuple #[.int .i64 (rtR n0 xs ys x n1 ps zs y), .int .i64 (rtC n0 xs ys x n1 ps zs y)]) ∧ Below w.heap.size w w' := by
  obtain ⟨a0, c0, b0, d0, rfl, hat0, hat0', -⟩ := h0.at
  obtain ⟨a1, c1, b1, d1, rfl, hat1, hat1', -⟩ := h1.at
  obtain ⟨W, hW, HB, X0, X1, hWs⟩ := boxTw w n0 a0 xs.length c0 b0 ys.length d0 n1 a1 ps.length c1 b1 zs.length d1
  have H0 := Lib.hid (hat0.keep HB.out (Nat.le_refl _))
  have H0' := Lib.hid (hat0'.keep HB.out (Nat.le_refl _))
  have H1 := Lib.hid (hat1.keep HB.out (Nat.le_refl _))
  have H1' := Lib.hid (hat1'.keep HB.out (Nat.le_refl _))
  have CP := Lib.hid (checkPair_any n0 n1 x y xs ys ps zs a0 c0 b0 d0 a1 c1 b1 d1 W hl0 hm0 hl1 hm1 H0.out H0'.out H1.out H1'.out)
  have HW := Lib.hid hW
  clear h0 h1 hat0 hat0' hat1 hat1' hW hWs
  obtain ⟨lt0, x0, x1, x2⟩ := X0.out
  obtain ⟨lt1, y0, y1, y2⟩ := X1.out
  cases hf : (isM n0 xs ys && isM n1 ps zs)
  · have R := Lib.hid (rt_bad (x := x) (y := y) hf)
    have F := Lib.hid hf
    clear hf
    go_enter Try.func23, Try.ntmps23
    go_wp2_with fail
    rw [← HW.out]
    refine CP.out.mono ?_
    rw [F.out, show plC false n0 x n1 y = 1 from rfl]
    rintro e w1 ⟨rfl, hb⟩
    have B1 := Lib.hid (HB.out.trans (hb.mono HB.out.size))
    clear hb x0 x1 x2 y0 y1 y2
    go_wp2
    go_ret2
    exact ⟨by rw [R.out.1, R.out.2]; rfl, B1.out⟩
  · cases hp : (wlB n0 x && wlB n1 y)
    · have R := Lib.hid (rt_out hf hp)
      have F := Lib.hid hf
      have P := Lib.hid (show plC true n0 x n1 y = 2 by rw [plC, hp]; rfl)
      clear hf hp
      go_enter Try.func23, Try.ntmps23
      go_wp2_with fail
      rw [← HW.out]
      refine CP.out.mono ?_
      rw [F.out, P.out]
      rintro e w1 ⟨rfl, hb⟩
      have B1 := Lib.hid (HB.out.trans (hb.mono HB.out.size))
      clear hb x0 x1 x2 y0 y1 y2
      go_wp2
      go_ret2
      exact ⟨by rw [R.out.1, R.out.2]; rfl, B1.out⟩
    · have RN := Lib.hid (fun h3 => rt_not (x := x) (y := y) hf hp h3)
      have RO := Lib.hid (fun h3 => rt_ok (x := x) (y := y) hf hp h3)
      have F := Lib.hid hf
      have P := Lib.hid (show plC true n0 x n1 y = 0 by rw [plC, hp]; rfl)
      rw [Bool.and_eq_true] at hf hp
      have TW := Lib.hid (Two.of hf.1 hf.2)
      have x8 := TW.out.x8
      have p8 := TW.out.p8
      obtain rfl : n0 = xs.length := (isM_ok hf.1).2.1
      obtain rfl : n1 = ps.length := (isM_ok hf.2).2.1
      obtain ⟨k, rfl, hk⟩ := wlB_at hp.1
      obtain ⟨l, rfl, hl⟩ := wlB_at hp.2
      clear hf hp
      obtain ⟨z, hz⟩ : ∃ z, z = rtZ xs ys ps zs k l := ⟨_, rfl⟩
      have ZZ : z = -1 ∨ 0 ≤ z := by rw [hz]; exact fr_or _ _
      rw [← hz] at RN RO
      obtain ⟨zr, hzr⟩ : ∃ q, q = (if z = -1 then (0 : Int) else z) := ⟨_, rfl⟩
      obtain ⟨zb, hzb⟩ : ∃ q, q = !(z == -1) := ⟨_, rfl⟩
      have CR := Lib.hid (fun a2 c2 b2 d2 w2 h1 h2 => contestR_any TW.out hk hl z hz zr zb hzr hzb a2 c2 b2 d2 w2 h1 h2)
      have ZR := Lib.hid hzr
      have ZB := Lib.hid hzb
      clear hz hzr hzb
      go_enter Try.func23, Try.ntmps23
      go_wp2_with fail
      rw [← HW.out]
      refine CP.out.mono ?_
      rw [F.out, P.out]
      rintro e w1 ⟨rfl, hb⟩
      have T1 := Lib.hid hb
      clear hb x0 x1 x2 y0 y1 y2
      obtain ⟨lt0, x0, x1, x2⟩ := X0.out.keep T1.out
      obtain ⟨lt1, y0, y1, y2⟩ := X1.out.keep T1.out
      have PL := Lib.hid (fun w' (hw : Below w1.heap.size w1 w') => plusN_any TW.out a0 c0 b0 d0 a1 c1 b1 d1 w' (H0.out.keep (T1.out.trans (hw.mono T1.out.size)) (Nat.le_refl _)) (H0'.out.keep (T1.out.trans (hw.mono T1.out.size)) (Nat.le_refl _)) (H1.out.keep (T1.out.trans (hw.mono T1.out.size)) (Nat.le_refl _)) (H1'.out.keep (T1.out.trans (hw.mono T1.out.size)) (Nat.le_refl _)))
      have XX := Lib.hid (fun w' (hw : Below w1.heap.size w1 w') => And.intro (X0.out.keep (T1.out.trans (hw.mono T1.out.size))) (X1.out.keep (T1.out.trans (hw.mono T1.out.size))))
      have hwr : IntKind.i64.wrap ((xs.length : Int) + (l : Int)) = (xs.length : Int) + (l : Int) := by rw [IntKind.wrap_i64]; omega
      go_wp2
      go_cut [11, 12] (fun s1 s2 wx => s1 = .int .i64 zr ∧ s2 = .bool zb ∧ Hid (Below w1.heap.size w1 wx))
      case first =>
        go_region_held3 (fun w' => w'.cell? ⟨w.heap.size, 0, none⟩ = some (.int .i64 xs.length) ∧ w'.cell? ⟨w.heap.size, 1, none⟩ = some (.slice a0 xs.length c0) ∧ w'.cell? ⟨w.heap.size, 2, none⟩ = some (.slice b0 ys.length d0) ∧ w'.cell? ⟨w.heap.size + 1, 0, none⟩ = some (.int .i64 ps.length) ∧ w'.cell? ⟨w.heap.size + 1, 1, none⟩ = some (.slice a1 ps.length c1) ∧ w'.cell? ⟨w.heap.size + 1, 2, none⟩ = some (.slice b1 zs.length d1)) (first | exact ⟨u0, u1, u2, z0, z1, z2⟩ | exact ⟨p0, p1, p2, q0, q1, q2⟩ | exact ⟨r0, r1, r2, s0, s1, s2⟩ | exact ⟨x0, x1, x2, y0, y1, y2⟩ | go_keep) (first | (go_at_call 45; refine (PL.out _ (by first | exact (Below.refl _ _).drew | exact Below.refl _ _)).mono ?_; rintro e w2 ⟨a2, c2, b2, d2, rfl, hs1, hs2, hb⟩; have T2 := Lib.hid (show Below w1.heap.size w1 w2 from below_of_drew hb); have CT := Lib.hid (CR.out a2 c2 b2 d2 w2 hs1 hs2); clear hb hs1 hs2; obtain ⟨⟨lr0, r0, r1, r2⟩, ⟨ls0, s0, s1, s2⟩⟩ := XX.out _ T2.out) | (go_at_call 36; refine CT.out.mono ?_; rintro e w3 ⟨vC, rfl, hrt, hb⟩; have T3 := Lib.hid (T2.out.trans (hb.mono T2.out.size)); have RT := Lib.hid hrt; clear hb hrt CT; obtain ⟨⟨lr0, p0, p1, p2⟩, ⟨ls0, q0, q1, q2⟩⟩ := XX.out _ T3.out) | (go_at_call 51; refine RT.out.mono ?_; rintro e w4 ⟨rfl, hb⟩; have T4 := Lib.hid (T3.out.trans (hb.mono T3.out.size)); clear hb; obtain ⟨⟨lr0, u0, u1, u2⟩, ⟨ls0, z0, z1, z2⟩⟩ := XX.out _ T4.out))
        all_goals (try go_wp2_with fail)
        all_goals go_meet
        all_goals exact ⟨rfl, rfl, T4⟩
      case rest =>
        rename World => wz
        obtain ⟨rfl, rfl, T4⟩ := hcut
        have B := Lib.hid (HB.out.trans ((T1.out.trans (T4.out.mono T1.out.size)).mono HB.out.size))
        clear x0 x1 x2 y0 y1 y2
        rcases ZZ with rfl | hz0
        · have R := Lib.hid (RN.out rfl)
          have e2 : zb = false := by rw [ZB.out]; rfl
          rw [e2]
          go_wp2
          go_ret2
          exact ⟨by rw [R.out.1, R.out.2]; rfl, B.out⟩
        · have R := Lib.hid (RO.out hz0)
          have hzn : ¬ z = -1 := by omega
          have e1 : zr = z := by rw [ZR.out, if_neg hzn]
          have e2 : zb = true := by rw [ZB.out]; simp [hzn]
          rw [e1, e2]
          go_wp2
          go_ret2
          exact ⟨by rw [R.out.1, R.out.2]; rfl, B.out⟩

end Go.Proofs.Ytecjmibnoldpgab
