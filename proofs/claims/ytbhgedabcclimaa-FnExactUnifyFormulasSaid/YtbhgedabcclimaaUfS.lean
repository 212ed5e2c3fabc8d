/- Contracts of the model's l03Unify and UnifyFormulas, at every argument. Conditions: those in the theorems. -/
import Derived.Test.YtbhgedabcclimaaUf
import Derived.Test.YtbhgedabcclimaaMtS
import Derived.Test.YtbhgedabcclimaaVarS
import Derived.Deep.LoopGhost
import Derived.Deep.RegionWith
import Derived.Deep.DeepCutAuto
import Derived.Deep.Cut
import Derived.Deep.CutRange
namespace Go.Proofs.Ytbhgedabcclimaa
open Go.RowKit

/-- Two formulas and the images so far, in memory. -/
structure UfS (w : World) (B : Nat) (pa pb : Option Addr) (ca cb : Nat) (vi : Value) (xs ys : List Nd) (im : List (List Nd)) : Prop where
  ax : AtN w pa xs.length xs
  ay : AtN w pb ys.length ys
  cx : xs.length ≤ ca ∧ ca ≤ 9223372036854775807
  cy : ys.length ≤ cb ∧ cb ≤ 9223372036854775807
  ix : isB xs xs.length = true
  iy : isB ys ys.length = true
  oi : OwnL w B vi im
  fm : fms im
  six : im.length = 6
theorem eqNodeU (x y x' y' : Int) (w : World) : (binOp .eql 61 (.agg #[.int .i64 x, .int .i64 y]) (.agg #[.int .i64 x', .int .i64 y'])).run Try.prog w = .ok (.bool (x == x' && y == y')) w := by
  have u3 := Try.underlying2
  have hS : Try.prog.underlying 61 = some (.struct (Try.prog.fieldsOf 61)) := by kernel_rfl
  have hp : Try.prog.stoodInHeld 61 = false := by kernel_rfl
  rw [run_eql_struct, show (10000 : Nat) = 9999 + 1 from rfl, run_equalIn_agg w 9999 61 _ _ hS hp]
  simp only [Program.fieldsOf, Try.underlying61]
  go_simp
  by_cases h1 : x = x' <;> by_cases h2 : y = y' <;> simp [h1, h2]
theorem fms_six {im : List (List Nd)} (h : fms im) (h6 : im.length = 6) : six im := ⟨h6, fun q hq => is_pos' (h q (by omega))⟩
theorem th_bind {im : List (List Nd)} {q : Nat} {e : List Nd} (hf : fms im) (h6 : im.length = 6) (hq : q ≤ 5) : thTo (sgI ((selfTo 6).set q e)) im 6 = thTo (sgB q e) im 6 := by
  refine list_ext_nn (by rw [thTo_len, thTo_len]) (fun j hj => ?_)
  rw [thTo_len] at hj
  rw [thTo_at hj, thTo_at hj]
  exact bind_sub (is_treeTo' (hf j (by omega))) hq
theorem fms_self : fms (selfTo 6) := by
  intro j hj
  rw [selfTo_len] at hj
  rw [selfTo_at hj]
  exact fm_is (.va j) ⟨by omega, by omega⟩ (by show 1 ≤ 40; omega)
theorem okU_all {xs ys : List Nd} {im : List (List Nd)} (h : okU xs ys im = true) : limB im 6 = true ∧ xs.length ≤ 40 ∧ ys.length ≤ 40 := by
  simp only [okU, Bool.and_eq_true, decide_eq_true_eq] at h
  exact h
/-- The images that are left when a binding is made are formulas. -/
theorem fms_bind {im : List (List Nd)} {q : Nat} {e : List Nd} (hf : fms im) (h6 : im.length = 6) (he : isB e e.length = true) (hl : limB (thTo (sgB q e) im 6) 6 = true) : fms (thTo (sgB q e) im 6) := by
  intro j hj
  rw [thTo_len] at hj
  have h40 := limB_at hl hj
  rw [thTo_at hj] at h40 ⊢
  exact sub_is (sOK_B he) (hf j (by omega)) h40
theorem uf_eq {n : Nat} {xs ys : List Nd} {im : List (List Nd)} (h : xs = ys) : uf (n + 1) xs ys im = (im, 0) := by rw [uf, if_pos h]
theorem uf_no {n : Nat} {xs ys : List Nd} {im : List (List Nd)} (h : xs ≠ ys) (h2 : nx xs ys = none) : uf (n + 1) xs ys im = ([], 4) := by rw [uf, if_neg h, h2]
theorem uf_step {n : Nat} {xs ys : List Nd} {im : List (List Nd)} {q : Nat} {e : List Nd} (h : xs ≠ ys) (h2 : nx xs ys = some (q, e)) : uf (n + 1) xs ys im = if okU (bd q e xs) (bd q e ys) (thTo (sgB q e) im 6) then uf n (bd q e xs) (bd q e ys) (thTo (sgB q e) im 6) else ([], 3) := by rw [uf, if_neg h, h2]
theorem bd_len {xs e : List Nd} {q : Nat} (hx : isB xs xs.length = true) (he : isB e e.length = true) : (bd q e xs).length ≤ 1600 := by
  have h40 := (is_pos' hx).2
  have := subTo_len (s := sgB q e) (m := 40) (by omega) (is_treeTo' hx) (fun p hp => (sOK_len (sOK_B he) p hp).2) xs.length (Nat.le_refl _)
  rw [bd]
  omega

set_option maxHeartbeats 32000000 in
set_option maxRecDepth 100000 in
theorem l03Unify_any (xs0 ys0 : List Nd) (a a' : Option Addr) (cap cap' : Nat) (w : World) (hx : isB xs0 xs0.length = true) (hy : isB ys0 ys0.length = true) (hc1 : xs0.length ≤ cap ∧ cap ≤ 9223372036854775807) (hc2 : ys0.length ≤ cap' ∧ cap' ≤ 9223372036854775807) (h : AtN w a xs0.length xs0) (h' : AtN w a' ys0.length ys0) (Rim : List (List Nd)) (Rc : Int) (hR : uf 7 xs0 ys0 (selfTo 6) = (Rim, Rc)) :
    Calls Try.prog 77 #[.slice a xs0.length cap, .slice a' ys0.length cap'] w fun e w' => ∃ v', e = .returned (.tuple #[v', .int .i64 Rc]) ∧ OwnL w' w.heap.size v' Rim ∧ Below w.heap.size w w' := by
  have H := Lib.hid h
  have H' := Lib.hid h'
  have HX := Lib.hid hx
  have HY := Lib.hid hy
  have HR := Lib.hid hR
  have C1 := Lib.hid hc1
  have C2 := Lib.hid hc2
  have hne := eqNodeU
  have hgu := guNode
  clear h h' hx hy hR hc1 hc2
  go_enter Try.func77, Try.ntmps77
  go_wp2_with fail
  refine (l03Self_any _).mono ?_
  rintro e w1 ⟨v1, rfl, ho1, hb1⟩
  have S1 := Lib.hid (UfS.mk (H.out.keep hb1 (Nat.le_refl _)) (H'.out.keep hb1 (Nat.le_refl _)) C1.out C2.out HX.out HY.out ho1 fms_self (selfTo_len 6))
  have B1 := Lib.hid hb1
  have N0 := Lib.hid (nv_le xs0 ys0)
  clear ho1 hb1 H H' HX HY C1 C2
  go_wp2
  go_loopg [0, 1, 6] 7 (fun n va vb vi wr => ∃ (xs ys : List Nd) (im : List (List Nd)) (pa pb : Option Addr) (ca cb : Nat), va = .slice pa xs.length ca ∧ vb = .slice pb ys.length cb ∧ Hid (UfS wr w.heap.size pa pb ca cb vi xs ys im) ∧ Hid (nv xs ys < n) ∧ Hid (uf n xs ys im = (Rim, Rc)) ∧ Below w.heap.size w wr)
  case atStart => exact ⟨xs0, ys0, selfTo 6, a, a', cap, cap', rfl, rfl, S1, (show _ < _ from Nat.lt_of_le_of_lt N0.out (by omega)), HR, B1.out⟩
  case round =>
    rename World => wo
    obtain ⟨xs, ys, im, pa, pb, ca, cb, rfl, rfl, hS, hn, hu, hbel⟩ := hrel
    have B := Lib.hid hbel
    clear hbel S1 B1 N0 HR
    have hix := hS.out.ix
    have hiy := hS.out.iy
    have hlx := (is_pos' hix)
    have hly := (is_pos' hiy)
    have hcx := hS.out.cx
    have hcy := hS.out.cy
    obtain ⟨g6, c6, rfl, -⟩ := hS.out.oi.img (fms_six hS.out.fm hS.out.six)
    obtain ⟨bx, ox, rfl⟩ := hS.out.ax.ex hlx.1
    obtain ⟨by', oy, rfl⟩ := hS.out.ay.ex hly.1
    obtain ⟨m, hm⟩ : ∃ m, gk = m + 1 := ⟨gk - 1, by have := hn.out; omega⟩
    have hu2 : uf (m + 1) xs ys im = (Rim, Rc) := by rw [← hm]; exact hu.out
    have hn2 : nv xs ys < m + 1 := by rw [← hm]; exact hn.out
    have U := Lib.hid hu2
    have NV := Lib.hid hn2
    have GK := Lib.hid hm
    have IX := Lib.hid hix
    have IY := Lib.hid hiy
    have CPL := Lib.hid (cp_le xs ys)
    have CPS := Lib.hid (cp_same xs ys)
    clear hu hu2 hn hn2 hm hix hiy
    obtain ⟨K, hK⟩ : ∃ K, K = cp xs ys := ⟨_, rfl⟩
    rw [← hK] at CPL CPS
    have KK := Lib.hid hK
    have hk1 := CPL.out.1
    have hk2 := CPL.out.2
    clear hK
    go_wp2
    go_loopw [7] (fun vk wr => ∃ (k q : Nat), k ≤ K ∧ vk = .int .i64 k ∧ wr = wo.drewN q) (fun vk _ => K - (intOf vk).toNat)
    case atStart => exact ⟨0, 0, Nat.zero_le _, rfl, rfl⟩
    case round =>
      obtain ⟨k, q0, hk, rfl, rfl⟩ := hrel
      by_cases hlt : k < K
      · obtain ⟨b, off, hab, hbb, hc⟩ := hS.out.ax.2.resolve_left (by omega)
        cases hab
        obtain ⟨b', off', hab, hbb', hc'⟩ := hS.out.ay.2.resolve_left (by omega)
        cases hab
        obtain ⟨c1, c2⟩ := hc k (by omega)
        obtain ⟨d1, d2⟩ := hc' k (by omega)
        have hkx : (k : Int) < (xs.length : Int) := by omega
        have hky : (k : Int) < (ys.length : Int) := by omega
        have hq : (kd xs k == kd ys k && sy xs k == sy ys k) = true := by
          have := CPS.out k hlt
          rw [this.1, this.2]; simp
        clear hc hc'
        go_wp2
        go_quiet (fail)
        go_wp2
        go_roundw
        case rel => exact ⟨k + 1, q0 + nq, hlt, by go_num, rfl⟩
        case measure => simp [intOf]; omega
      · obtain rfl : k = K := by omega
        by_cases hEq : xs = ys
        · have hKe : k = xs.length := by rw [KK.out, hEq, cp_self]
          have hk3 : decide (k < xs.length) = false := decide_eq_false (by omega)
          have hk4 : ((k : Int) == (xs.length : Int)) = true := by simp [hKe]
          have E := Lib.hid (show im = Rim ∧ (0 : Int) = Rc by have h1 := U.out; rw [uf_eq hEq] at h1; simpa using h1)
          have O := Lib.hid (show OwnL (wo.drewN q0) w.heap.size _ Rim by rw [← E.out.1]; exact hS.out.oi)
          clear hEq hKe
          go_wp2
          go_quiet (fail)
          go_wp2
          go_ret2
          exact ⟨_, (by rw [← E.out.2] <;> rfl), O.out, below_drewN' B.out _⟩
        · obtain ⟨hka, hkb⟩ : k < xs.length ∧ k < ys.length := by rw [KK.out]; exact cp_lt IX.out IY.out hEq
          obtain ⟨b, off, hab, hbb, hc⟩ := hS.out.ax.2.resolve_left (by omega)
          cases hab
          obtain ⟨b', off', hab, hbb', hc'⟩ := hS.out.ay.2.resolve_left (by omega)
          cases hab
          obtain ⟨c1, c2⟩ := hc k hka
          obtain ⟨d1, d2⟩ := hc' k hkb
          obtain ⟨t, ht, ht1, ht2, hcut, hcl, hcis, -, -⟩ := cut_at IX.out hka
          obtain ⟨t', ht', ht1', ht2', hcut', hcl', hcis', -, -⟩ := cut_at IY.out hkb
          have hq : (kd xs k == kd ys k && sy xs k == sy ys k) = false := by
            cases e : (kd xs k == kd ys k && sy xs k == sy ys k) with
            | false => rfl
            | true =>
              exfalso
              have h3 := cp_diff xs ys (by rw [← KK.out]; exact hka) (by rw [← KK.out]; exact hkb)
              rw [← KK.out] at h3
              exact h3 (by simpa using e)
          have hkx : (k : Int) < (xs.length : Int) := by omega
          have hky : (k : Int) < (ys.length : Int) := by omega
          have hkx2 : ((k : Int) == (xs.length : Int)) = false := by simp; omega
          have hky2 : ((k : Int) == (ys.length : Int)) = false := by simp; omega
          have hca : ¬ ca = k := by omega
          have hcb : ¬ cb = k := by omega
          have PX : ∀ (W' : World), AtN W' (some ⟨bx, ox, none⟩) xs.length xs → Calls Try.prog 93 #[.slice (some ⟨bx, ox, none⟩) xs.length ca, .int .i64 k] W' fun e' w' => e' = .returned (.int .i64 (t : Int)) ∧ W' = w' := fun W' hW => by
            have := l02Part_any xs (some ⟨bx, ox, none⟩) xs.length ca k W' (by omega) (by omega) hW
            rw [ht] at this
            exact this
          have PY : ∀ (W' : World), AtN W' (some ⟨by', oy, none⟩) ys.length ys → Calls Try.prog 93 #[.slice (some ⟨by', oy, none⟩) ys.length cb, .int .i64 k] W' fun e' w' => e' = .returned (.int .i64 (t' : Int)) ∧ W' = w' := fun W' hW => by
            have := l02Part_any ys (some ⟨by', oy, none⟩) ys.length cb k W' (by omega) (by omega) hW
            rw [ht'] at this
            exact this
          have SX := Lib.hid (show AtN wo (some ⟨bx, ox + k * 2, none⟩) (t - k) (cut xs k) by rw [hcut]; exact hS.out.ax.sub k (t - k) (by omega))
          have SY := Lib.hid (show AtN wo (some ⟨by', oy + k * 2, none⟩) (t' - k) (cut ys k) by rw [hcut']; exact hS.out.ay.sub k (t' - k) (by omega))
          have ISX := Lib.hid hcis
          have ISY := Lib.hid hcis'
          have NE := Lib.hid hEq
          clear hc hc' ht ht' hcut hcut' hcl hcl' hcis hcis' hEq
          go_wp2
          go_quiet (fail)
          rename Nat => nq1
          go_wp2
          go_quiet ((first | (go_at_call_of 93 ca; exact q_same (PX _ hS.out.ax) rfl) | (go_at_call_of 93 cb; exact q_same (PY _ hS.out.ay) rfl)))
          rename Nat => nq2
          clear PX PY
          go_wp2
          obtain ⟨SB, hSB⟩ : ∃ SB, SB = swB (kd xs k) (sy xs k) (kd ys k) (sy ys k) := ⟨_, rfl⟩
          have SWH := Lib.hid hSB
          clear hSB
          go_cut [83] (fun s83 wx => ∃ nn : Nat, s83 = .bool SB ∧ wx = wo.drewN nn)
          case first =>
            cases hy0 : (kd ys k == 0)
            · have E := Lib.hid (show SB = false by rw [SWH.out]; simp [swB, hy0])
              go_quiet (fail)
              (try go_wp2_with fail)
              go_meet
              exact ⟨_, by rw [E.out], (by first | rfl | exact World.drewN_drewN | exact World.drewN_drewN _ _ _ | (simp only [World.drewN_drewN]; rfl))⟩
            · cases hx0 : (kd xs k != 0)
              · by_cases hlt2 : sy xs k < sy ys k
                · have E := Lib.hid (show SB = true by rw [SWH.out]; simp only [swB, hy0, hx0, decide_eq_true hlt2]; rfl)
                  go_quiet (fail)
                  (try go_wp2_with fail)
                  go_meet
                  exact ⟨_, by rw [E.out], (by first | rfl | exact World.drewN_drewN | exact World.drewN_drewN _ _ _ | (simp only [World.drewN_drewN]; rfl))⟩
                · have E := Lib.hid (show SB = false by rw [SWH.out]; simp only [swB, hy0, hx0, decide_eq_false hlt2]; rfl)
                  go_quiet (fail)
                  (try go_wp2_with fail)
                  go_meet
                  exact ⟨_, by rw [E.out], (by first | rfl | exact World.drewN_drewN | exact World.drewN_drewN _ _ _ | (simp only [World.drewN_drewN]; rfl))⟩
              · have E := Lib.hid (show SB = true by rw [SWH.out]; simp only [swB, hy0, hx0]; rfl)
                go_quiet (fail)
                (try go_wp2_with fail)
                go_meet
                exact ⟨_, by rw [E.out], (by first | rfl | exact World.drewN_drewN | exact World.drewN_drewN _ _ _ | (simp only [World.drewN_drewN]; rfl))⟩
          case rest =>
            obtain ⟨nn, rfl, rfl⟩ := hcut
            have NXX := Lib.hid (show nx xs ys = if SB then (if kd ys k ≠ 0 ∨ (kd ys k, sy ys k) ∈ cut xs k then none else some ((sy ys k).toNat, cut xs k)) else (if kd xs k ≠ 0 ∨ (kd xs k, sy xs k) ∈ cut ys k then none else some ((sy xs k).toNat, cut ys k)) by
              rw [nx, SWH.out, ← KK.out]; rfl)
            have KX := Lib.hid (show kd xs k = 0 → 0 ≤ sy xs k ∧ sy xs k < 6 from fun _ => by obtain ⟨q, hq1, hq2⟩ := sy_six (is_treeTo' IX.out) hka; omega)
            have KY := Lib.hid (show kd ys k = 0 → 0 ≤ sy ys k ∧ sy ys k < 6 from fun _ => by obtain ⟨q, hq1, hq2⟩ := sy_six (is_treeTo' IY.out) hkb; omega)
            go_upto_if 83 with fail
            go_cut [8, 9, 10] (fun s8 s9 s10 wx => ∃ (kb sb : Int) (bb bo bn bc yb yo yn yc : Nat) (Y : List Nd), s8 = .slice (some ⟨bb, bo, none⟩) bn bc ∧ s9 = .slice (some ⟨yb, yo, none⟩) yn yc ∧ 0 < bn ∧ wx = wo.drewN nn ∧ bb < wo.heap.size ∧ wo.cell? ⟨bb, bo, none⟩ = some (.int .i64 kb) ∧ wo.cell? ⟨bb, bo + 1, none⟩ = some (.int .i64 sb) ∧ Hid (AtN wo (some ⟨yb, yo, none⟩) yn Y ∧ isB Y Y.length = true) ∧ Hid (nx xs ys = if kb ≠ 0 ∨ (kb, sb) ∈ Y then none else some (sb.toNat, Y)) ∧ Hid (kb = 0 → 0 ≤ sb ∧ sb < 6))
            case first =>
              cases SB
              · have NN := Lib.hid (show nx xs ys = if kd xs k ≠ 0 ∨ (kd xs k, sy xs k) ∈ cut ys k then none else some ((sy xs k).toNat, cut ys k) from NXX.out)
                go_wp2
                go_meet
                exact ⟨kd xs k, sy xs k, bx, ox + k * 2, t - k, ca - k, by', oy + k * 2, t' - k, cb - k, cut ys k, rfl, rfl, by omega, rfl, hbb, c1, c2, (show _ ∧ _ from ⟨SY.out, ISY.out⟩), NN, KX⟩
              · have NN := Lib.hid (show nx xs ys = if kd ys k ≠ 0 ∨ (kd ys k, sy ys k) ∈ cut xs k then none else some ((sy ys k).toNat, cut xs k) from NXX.out)
                go_wp2
                go_meet
                exact ⟨kd ys k, sy ys k, by', oy + k * 2, t' - k, cb - k, bx, ox + k * 2, t - k, ca - k, cut xs k, rfl, rfl, by omega, rfl, hbb', d1, d2, (show _ ∧ _ from ⟨SX.out, ISX.out⟩), NN, KY⟩
            case rest =>
              clear c1 c2 d1 d2 hq hkx2 hky2 SX SY ISX ISY NXX KX KY SWH ht1 ht2 ht1' ht2' hkx hky hca hcb
              obtain ⟨kb, sb, bb, bo, bn, bc, yb, yo, yn, yc, Y, rfl, rfl, hbn, rfl, hbw, e1, e2, hYY, hNX, hKB⟩ := hcut
              have hyl := is_pos' hYY.out.2
              have hyn : 0 < yn ∧ yn ≤ 40 := by rw [hYY.out.1.1]; exact hyl
              have IYY := Lib.hid hYY.out.2
              have YW := Lib.hid hYY.out.1
              have YL := Lib.hid hYY.out.1.1
              clear hyl hYY
              obtain ⟨RB, hRB⟩ : ∃ RB : Bool, RB = (decide (kb ≠ 0) || decide ((kb, sb) ∈ Y)) := ⟨_, rfl⟩
              have RH := Lib.hid hRB
              clear hRB
              go_wp2_with fail
              go_cut [100] (fun s100 wx => s100 = .bool RB ∧ wx.cell? ⟨bb, bo, none⟩ = some (.int .i64 kb) ∧ wx.cell? ⟨bb, bo + 1, none⟩ = some (.int .i64 sb) ∧ Hid (Below wo.heap.size wo wx))
              case first =>
                cases hk0 : (kb != 0)
                · have hk : kb = 0 := by simpa using hk0
                  obtain ⟨q, hq⟩ := Int.eq_ofNat_of_zero_le (hKB.out hk).1
                  have hq5 : q ≤ 5 := by have := (hKB.out hk).2; omega
                  have E := Lib.hid (show decide ((q : Int) ∈ memTo (mkTo Y Y.length) 30) = RB by
                    rw [RH.out, hk, hq]
                    simp only [ne_eq, not_true_eq_false, decide_false, Bool.false_or]
                    exact decide_eq_decide.2 (vars_has (is_treeTo' IYY.out) hq5))
                  rw [hq] at e2
                  have VV : ∀ W' : World, bb < W'.heap.size → AtN W' (some ⟨yb, yo, none⟩) yn Y → W'.cell? ⟨bb, bo, none⟩ = some (.int .i64 kb) → W'.cell? ⟨bb, bo + 1, none⟩ = some (.int .i64 (q : Int)) → Calls Try.prog 111 #[.slice (some ⟨yb, yo, none⟩) yn yc] W' fun e w2 => ∃ a2 n2 cc2, e = .returned (.slice a2 n2 cc2) ∧ n2 ≤ 64 ∧ Hid (At w2 a2 n2 (memTo (mkTo Y Y.length) 30) ∧ Below W'.heap.size W' w2) ∧ w2.cell? ⟨bb, bo, none⟩ = some (.int .i64 kb) ∧ w2.cell? ⟨bb, bo + 1, none⟩ = some (.int .i64 (q : Int)) := fun W' hs hy h1 h2 => by
                    have hv := l02Variables_any Y (some ⟨yb, yo, none⟩) yn yc W' hyn.2 (by rw [YL.out]; exact is_treeTo' IYY.out) hy
                    rw [show mkTo Y yn = mkTo Y Y.length by rw [YL.out]] at hv
                    refine hv.mono ?_
                    rintro e w2 ⟨v2, rfl, ho2, hb2⟩
                    obtain ⟨a2, cc2, rfl, at2, -, -, -⟩ := ho2.at
                    have hl2 := memTo_len (mkTo Y Y.length) 30
                    exact ⟨a2, _, cc2, rfl, by omega, (show _ ∧ _ from ⟨at2, hb2⟩), (hb2.cell (p := ⟨bb, bo, none⟩) hs).trans h1, (hb2.cell (p := ⟨bb, bo + 1, none⟩) hs).trans h2⟩
                  have HQ := Lib.hid hq
                  clear hk hq
                  go_region_with (first | (go_at_call 111; refine (VV (wo.drewN nn).drew hbw (show AtN (wo.drewN nn).drew _ _ _ from YW.out) e1 e2).mono ?_; rintro e w2 ⟨a2, n2, cc2, rfl, hn2, hh2, f1, f2⟩) | (go_at_call 110; refine (l01Has_any _ (q : Int) a2 n2 cc2 _ (by omega) hh2.out.1).mono ?_; rw [E.out]; rintro e w' ⟨rfl, rfl⟩))
                  all_goals (try go_wp2_with fail)
                  all_goals go_meet
                  all_goals exact ⟨rfl, f1, (by rw [HQ.out]; exact f2), (show Below wo.heap.size wo w2 from (below_drewN' (Below.refl wo.heap.size wo) nn).drew.trans hh2.out.2)⟩
                · have E := Lib.hid (show true = RB by rw [RH.out]; have : kb ≠ 0 := by simpa using hk0
                                                       simp [this])
                  go_quiet (fail)
                  (try go_wp2_with fail)
                  go_meet
                  exact ⟨by rw [← E.out], e1, e2, (show Below wo.heap.size wo _ from below_drewN' (below_drewN' (Below.refl wo.heap.size wo) nn) _)⟩
              case rest =>
                obtain ⟨rfl, f1, f2, hbo⟩ := hcut
                cases RB
                · have hR : kb = 0 ∧ (kb, sb) ∉ Y := by have := RH.out; simpa using this.symm
                  obtain ⟨q, hq⟩ := Int.eq_ofNat_of_zero_le (hKB.out hR.1).1
                  have hq5 : q ≤ 5 := by have := (hKB.out hR.1).2; omega
                  have NX := Lib.hid (show nx xs ys = some (q, Y) by rw [hNX.out, if_neg (by simpa using hR), hq, Int.toNat_natCast])
                  rw [hq] at f2
                  have US := Lib.hid ((uf_step (n := m) (im := im) NE.out NX.out).symm.trans U.out)
                  have NVB := Lib.hid (nv_bd IX.out IY.out NE.out NX.out)
                  have SIX := Lib.hid (six_set (bs := Y) six_self (is_pos' IYY.out).1 (is_pos' IYY.out).2 hq5)
                  have BX := Lib.hid (bind_sub (xs := xs) (bs := Y) (is_treeTo' IX.out) hq5)
                  have BY := Lib.hid (bind_sub (xs := ys) (bs := Y) (is_treeTo' IY.out) hq5)
                  have TB := Lib.hid (th_bind (q := q) (e := Y) hS.out.fm hS.out.six hq5)
                  have FM := Lib.hid hS.out.fm
                  have I6 := Lib.hid hS.out.six
                  have TSZ := Lib.hid (show ∀ j, j < (thTo (sgB q Y) im 6).length → (nthL (thTo (sgB q Y) im 6) j).length ≤ 1048576 by
                    intro j hj
                    rw [thTo_len] at hj
                    rw [thTo_at hj]
                    have := bd_len (q := q) (hS.out.fm j (by rw [hS.out.six]; exact hj)) IYY.out
                    unfold bd at this
                    omega)
                  have B2 := Lib.hid (B.out.trans (hbo.out.mono B.out.size))
                  have AX2 := Lib.hid (hS.out.ax.keep hbo.out (Nat.le_refl _))
                  have AY2 := Lib.hid (hS.out.ay.keep hbo.out (Nat.le_refl _))
                  have Y2 := Lib.hid (YW.out.keep hbo.out (Nat.le_refl _))
                  have O2 := Lib.hid (hS.out.oi.keep hbo.out (Nat.le_refl _))
                  clear hR hq hbo hNX hKB e1 e2
                  go_wp2_with fail
                  refine (l03Bind_any Y q _ _ _ _ _ hq5 hyn.1 hyn.2 Y2.out).mono ?_
                  rintro e w3 ⟨v3, rfl, ho3, hb3⟩
                  obtain ⟨g3, c3, rfl, hi3⟩ := ho3.img SIX.out
                  have I3 := Lib.hid hi3
                  have B3 := Lib.hid (B2.out.trans (hb3.mono B2.out.size))
                  have AX3 := Lib.hid (AX2.out.keep hb3 (Nat.le_refl _))
                  have AY3 := Lib.hid (AY2.out.keep hb3 (Nat.le_refl _))
                  have O3 := Lib.hid (O2.out.keep hb3 (Nat.le_refl _))
                  clear ho3 hb3 hi3
                  go_wp2_with fail
                  refine (l03Sub_any xs _ _ _ _ _ _ _ hlx.2 (is_treeTo' IX.out) AX3.out I3.out).mono ?_
                  rw [BX.out]
                  rintro e w4 ⟨v4, rfl, ho4, hb4⟩
                  obtain ⟨a4, c4, rfl, at4, l4, m4⟩ := ho4.inn.at'
                  have B4 := Lib.hid (B3.out.trans (hb4.mono B3.out.size))
                  have A4 := Lib.hid at4
                  have L4 := Lib.hid (And.intro l4 m4)
                  have AY4 := Lib.hid (AY3.out.keep hb4 (Nat.le_refl _))
                  have I4 := Lib.hid (I3.out.keep hb4 (Nat.le_refl _))
                  have O4 := Lib.hid (O3.out.keep hb4 (Nat.le_refl _))
                  clear ho4 hb4 at4 l4 m4
                  go_wp2_with fail
                  refine (l03Sub_any ys _ _ _ _ _ _ _ hly.2 (is_treeTo' IY.out) AY4.out I4.out).mono ?_
                  rw [BY.out]
                  rintro e w5 ⟨v5, rfl, ho5, hb5⟩
                  obtain ⟨a5, c5, rfl, at5, l5, m5⟩ := ho5.inn.at'
                  have B5 := Lib.hid (B4.out.trans (hb5.mono B4.out.size))
                  have A5 := Lib.hid at5
                  have L5 := Lib.hid (And.intro l5 m5)
                  have A45 := Lib.hid (A4.out.keep hb5 (Nat.le_refl _))
                  have I5 := Lib.hid (I4.out.keep hb5 (Nat.le_refl _))
                  have O5 := Lib.hid (O4.out.keep hb5 (Nat.le_refl _))
                  have IA5 := Lib.hid (show AtNN w5 (some ⟨g6, 0, none⟩) 6 im by
                    obtain ⟨g', c', hv, hi⟩ := O5.out.img (fms_six FM.out I6.out)
                    simp only [Value.slice.injEq, Option.some.injEq, Addr.mk.injEq, and_true, true_and] at hv
                    rw [hv.1]; exact hi.1)
                  clear ho5 hb5 at5 l5 m5
                  go_wp2_with fail
                  refine (l03Then_any im _ _ _ _ _ _ _ (by omega) FM.out IA5.out I5.out).mono ?_
                  rw [TB.out]
                  rintro e w6 ⟨v6, rfl, ho6, hb6⟩
                  obtain ⟨g7, c7, hv6, -⟩ : ∃ a c, v6 = .slice a 6 c ∧ True := by
                    obtain ⟨aa, cc, hv, -⟩ := ho6.at
                    rw [thTo_len] at hv
                    exact ⟨aa, cc, hv, trivial⟩
                  subst hv6
                  have B6 := Lib.hid (B5.out.trans (hb6.mono B5.out.size))
                  have O6 := Lib.hid (ho6.mono B5.out.size)
                  have A46 := Lib.hid (A45.out.keep hb6 (Nat.le_refl _))
                  have A56 := Lib.hid (A5.out.keep hb6 (Nat.le_refl _))
                  clear ho6 hb6
                  go_wp2_with fail
                  refine (l03All_any (thTo (sgB q Y) im 6) _ w.heap.size _ (by rw [thTo_len]; omega) TSZ.out O6.out).mono ?_
                  rintro e w7 ⟨v7, rfl, -, rfl⟩
                  have lx : (subTo (sgB q Y) xs xs.length).length ≤ 1600 := bd_len (q := q) IX.out IYY.out
                  have ly : (subTo (sgB q Y) ys ys.length).length ≤ 1600 := bd_len (q := q) IY.out IYY.out
                  obtain ⟨X', hX'⟩ : ∃ X', X' = subTo (sgB q Y) xs xs.length := ⟨_, rfl⟩
                  obtain ⟨Y', hY'⟩ : ∃ Y', Y' = subTo (sgB q Y) ys ys.length := ⟨_, rfl⟩
                  have EX := Lib.hid (show X' = bd q Y xs from hX')
                  have EY := Lib.hid (show Y' = bd q Y ys from hY')
                  rw [← hX'] at A46 L4 lx ⊢
                  rw [← hY'] at A56 L5 ly ⊢
                  obtain ⟨T', hT'⟩ : ∃ T', T' = thTo (sgB q Y) im 6 := ⟨_, rfl⟩
                  rw [← hT'] at O6 ⊢
                  have ET := Lib.hid hT'
                  have TL := Lib.hid (show T'.length = 6 by rw [hT', thTo_len])
                  clear hX' hY' hT' A4 A5 A45 TSZ
                  cases hl : limB T' 6
                  · have E := Lib.hid (show ([] : List (List Nd)) = Rim ∧ (3 : Int) = Rc by
                      have h1 := US.out
                      rw [if_neg (by rw [okU, ← ET.out, hl]; simp)] at h1
                      simpa using h1)
                    have AC := Lib.hid (al_no (xss := T') (by rw [TL.out]; exact hl)).2
                    clear hl
                    rw [AC.out]
                    go_wp2
                    go_ret2
                    exact ⟨.slice none 0 0, (by rw [← E.out.2] <;> rfl), by rw [← E.out.1]; exact ownL_nil _ _, B6.out⟩
                  · have AC := Lib.hid (al_ok (xss := T') (by rw [TL.out]; exact hl)).2
                    have HL := Lib.hid hl
                    clear hl
                    rw [AC.out]
                    by_cases h4 : (40 : Int) < (X'.length : Int)
                    · have E := Lib.hid (show ([] : List (List Nd)) = Rim ∧ (3 : Int) = Rc by
                        have h1 := US.out
                        rw [if_neg (by rw [okU, ← EX.out, decide_eq_false (show ¬ X'.length ≤ 40 by omega)]; simp)] at h1
                        simpa using h1)
                      go_wp2
                      go_ret2
                      exact ⟨.slice none 0 0, (by rw [← E.out.2] <;> rfl), by rw [← E.out.1]; exact ownL_nil _ _, B6.out⟩
                    · by_cases h5 : (40 : Int) < (Y'.length : Int)
                      · have E := Lib.hid (show ([] : List (List Nd)) = Rim ∧ (3 : Int) = Rc by
                          have h1 := US.out
                          rw [if_neg (by rw [okU, ← EY.out, decide_eq_false (show ¬ Y'.length ≤ 40 by omega)]; simp)] at h1
                          simpa using h1)
                        go_wp2
                        go_ret2
                        exact ⟨.slice none 0 0, (by rw [← E.out.2] <;> rfl), by rw [← E.out.1]; exact ownL_nil _ _, B6.out⟩
                      · have UN := Lib.hid (show uf m X' Y' T' = (Rim, Rc) by
                          have h1 := US.out
                          rw [if_pos (by rw [okU, ← EX.out, ← EY.out, ← ET.out, HL.out, decide_eq_true (show X'.length ≤ 40 by omega), decide_eq_true (show Y'.length ≤ 40 by omega)]; rfl), ← EX.out, ← EY.out, ← ET.out] at h1
                          exact h1)
                        have NN := Lib.hid (show nv X' Y' < m by rw [EX.out, EY.out]; have := NVB.out; have := NV.out; omega)
                        have SN := Lib.hid (UfS.mk (B := w.heap.size) A46.out A56.out ⟨L4.out.1, by have := L4.out.2; unfold maxLen at this; omega⟩ ⟨L5.out.1, by have := L5.out.2; unfold maxLen at this; omega⟩ (by rw [EX.out] at h4 ⊢; exact sub_is (sOK_B IYY.out) IX.out (by unfold bd at h4; omega)) (by rw [EY.out] at h5 ⊢; exact sub_is (sOK_B IYY.out) IY.out (by unfold bd at h5; omega)) O6.out (by rw [ET.out] at HL ⊢; exact fms_bind FM.out I6.out IYY.out HL.out) TL.out)
                        go_wp2
                        go_roundg m
                        case measure => rw [GK.out]; omega
                        case rel => exact ⟨X', Y', T', _, _, _, _, rfl, rfl, SN, NN, UN, B6.out⟩
                · have E := Lib.hid (show ([] : List (List Nd)) = Rim ∧ (4 : Int) = Rc by
                    have h1 := U.out
                    rw [uf_no NE.out (by rw [hNX.out, if_pos]; have := RH.out; simpa using this.symm)] at h1
                    simpa using h1)
                  go_wp2
                  go_ret2
                  exact ⟨.slice none 0 0, (by rw [← E.out.2] <;> rfl), by rw [← E.out.1]; exact ownL_nil _ _, B.out.trans (hbo.out.mono B.out.size)⟩

end Go.Proofs.Ytbhgedabcclimaa
