/- Contract of ReducedModel of the program. Conditions: those in the theorems. -/
import Derived.Test.YtecjmibnoldpgabRdV
namespace Go.Proofs.Ytecjmibnoldpgab
open Go.RowKit

set_option maxHeartbeats 8000000 in
set_option maxRecDepth 100000 in
theorem implReducedModel_v (n : Int) (xs ys : List Int) (w' : Int) (v : Value) (lo hi : Nat) (w : World) (hl : xs.length ≤ 1048576) (hm : ys.length ≤ 1048576) (h : InM w lo hi v n xs ys) :
    Calls Try.prog 28 #[v, .int .i64 w'] w fun e wE => ∃ v', e = .returned (.tuple #[v', .int .i64 (rdA n xs ys w'), .int .i64 (rdC n xs ys w')]) ∧ OwnM wE w.heap.size v' (rdL n xs ys w').length (rdL n xs ys w') (rdV n xs ys w') ∧ Below w.heap.size w wE := by
  obtain ⟨a, cap, b, d, e0, hat, hat', -⟩ := h.at
  subst e0
  obtain ⟨W, hW, HB, X, Z, hWs⟩ := boxM2 w n a xs.length cap b ys.length d
  have H := Lib.hid (hat.keep HB.out (Nat.le_refl _))
  have H' := Lib.hid (hat'.keep HB.out (Nat.le_refl _))
  have IS := Lib.hid (implIsModel_any n xs ys a xs.length cap b ys.length d W hl hm H.out H'.out)
  have hz0 : w.heap.size + 1 + 1 ≤ W.heap.size := by omega
  have HW := Lib.hid hW
  obtain ⟨lt, x0, x1, x2⟩ := X.out
  clear h hat hat' hW hWs
  cases hf : isM n xs ys
  · obtain ⟨c1, l1, l2, a1⟩ := rd_bad (w := w') hf
    have F := Lib.hid hf
    have C := Lib.hid c1
    have L1 := Lib.hid l1
    have L2 := Lib.hid l2
    have A1 := Lib.hid a1
    clear hf c1 l1 l2 a1
    go_enter Try.func28, Try.ntmps28
    go_wp2_with fail
    rw [← HW.out]
    refine IS.out.mono ?_
    rw [F.out]
    rintro e w1 ⟨rfl, hb⟩
    have B1 := Lib.hid (HB.out.trans (hb.mono HB.out.size))
    obtain ⟨lt2, z0, z1, z2, z3, z4, z5⟩ := (Z.out.keep hb).all
    clear hb x0 x1 x2
    go_wp2
    refine bodyPost_ret (v := .tuple #[.agg #[.int .i64 0, .slice none 0 0, .slice none 0 0], .int .i64 0, .int .i64 1]) (by simp [results, Try.results28, go_sem, z0, z1, z2]) rfl ⟨_, by rw [C.out, A1.out], ?_, ((B1.out.setCell (by show _ ≤ _; simp) _).setCell (by show _ ≤ _; simp) _).setCell (by show _ ≤ _; simp) _⟩
    rw [L1.out, L2.out]
    exact ownM_nil _ _
  · obtain ⟨e1, e2, e3, e4⟩ := isM_rel hf
    have hn8 : 0 ≤ n ∧ n ≤ 30 := by omega
    cases hw : wlB n w'
    · obtain ⟨c1, l1, l2, a1⟩ := rd_out hf hw
      have F := Lib.hid hf
      have FW := Lib.hid hw
      have C := Lib.hid c1
      have L1 := Lib.hid l1
      have L2 := Lib.hid l2
      have A1 := Lib.hid a1
      clear hf hw c1 l1 l2 a1 e1 e2 e3 e4 hn8
      go_enter Try.func28, Try.ntmps28
      go_wp2_with fail
      rw [← HW.out]
      refine IS.out.mono ?_
      rw [F.out]
      rintro e w1 ⟨rfl, hb⟩
      have B1 := Lib.hid (HB.out.trans (hb.mono HB.out.size))
      obtain ⟨lt2, z0, z1, z2, z3, z4, z5⟩ := (Z.out.keep hb).all
      clear x0 x1 x2
      obtain ⟨lt, x0, x1, x2⟩ := X.out.keep hb
      clear hb
      go_wp2_with (go_at_call 44; refine (isBelow_any _ _ _).mono ?_; rw [FW.out]; rintro e w' ⟨rfl, rfl⟩)
      refine bodyPost_ret (v := .tuple #[.agg #[.int .i64 0, .slice none 0 0, .slice none 0 0], .int .i64 0, .int .i64 2]) (by simp [results, Try.results28, go_sem, z0, z1, z2]) rfl ⟨_, by rw [C.out, A1.out], ?_, ((B1.out.setCell (by show _ ≤ _; simp) _).setCell (by show _ ≤ _; simp) _).setCell (by show _ ≤ _; simp) _⟩
      rw [L1.out, L2.out]
      exact ownM_nil _ _
    · subst e1
      obtain ⟨k, rfl, hk⟩ := wlB_at' hw
      obtain ⟨r, pX, pY, hrd, hC0, hPL, hPV⟩ := Rd.of hf hk
      obtain ⟨c1, l1, l2, a1⟩ := rd_ok hf hw
      rw [hrd.hr] at hC0 hPL hPV a1
      rw [← hrd.hX, ← hrd.hY, ← hrd.len] at l1 l2 a1
      rw [Int.toNat_natCast] at a1
      have RD := Lib.hid hrd
      have F := Lib.hid hf
      have FW := Lib.hid hw
      have C := Lib.hid c1
      have L1 := Lib.hid l1
      have L2 := Lib.hid l2
      have A1 := Lib.hid a1
      have C0 := Lib.hid hC0
      have PL := Lib.hid hPL
      have PV := Lib.hid hPV
      have hx30 : xs.length ≤ 30 := by omega
      have hp8 := hrd.x8
      have hat1 := hrd.at1
      have hpq : (memTo r k).length < 30 := by omega
      obtain ⟨p, hp⟩ : ∃ p, p = (memTo r k).length := ⟨_, rfl⟩
      rw [← hp] at A1 hat1 hpq
      have AB := Lib.hid (and_below (r := r) (n := xs.length) (w := k) (by omega) hk hrd.rin)
      have PB := Lib.hid (show pop (r % 2 ^ k) = p by rw [hp, pop_below])
      have hr30 : r % 2 ^ k < 1073741824 := Nat.lt_of_le_of_lt (Nat.mod_le _ _) hrd.r30
      obtain ⟨q, hq⟩ : ∃ q, q = r % 2 ^ k := ⟨_, rfl⟩
      rw [← hq] at AB PB hr30
      have ICO := Lib.hid (q_cq pX pY)
      clear hf hw c1 l1 l2 a1 hC0 hPL hPV e3 e4 hn8 hrd hp hq
      go_enter Try.func28, Try.ntmps28
      go_wp2_with fail
      rw [← HW.out]
      refine IS.out.mono ?_
      rw [F.out]
      rintro e w1 ⟨rfl, hb⟩
      have T1 := Lib.hid hb
      clear hb x0 x1 x2
      obtain ⟨lt, x0, x1, x2⟩ := X.out.keep T1.out
      go_wp2_with (go_at_call 44; refine (isBelow_any _ _ _).mono ?_; rw [FW.out]; rintro e w' ⟨rfl, rfl⟩)
      clear x0 x1 x2
      refine (reach_any _ xs _ _ _ _ hx30 (H.out.keep T1.out (Nat.le_refl _))).mono ?_
      rintro e w2 ⟨v2, rfl, ho, hb⟩
      have T2 := Lib.hid (T1.out.trans (hb.mono T1.out.size))
      obtain ⟨a2, c2, e2', hat2, -, -, -⟩ := ho.at
      rw [rcL_len] at e2' hat2
      subst e2'
      obtain ⟨rb, ro, rfl, hrb, hrc⟩ := hat2.2.resolve_left (by omega)
      have hck := hrc k hk
      rw [RD.out.hr] at hck
      have hkl : (k : Int) < (xs.length : Int) := by omega
      clear ho hb hat2 hrc
      obtain ⟨lt, x0, x1, x2⟩ := X.out.keep T2.out
      go_wp2_with fail
      clear x0 x1 x2 hck
      refine (implPartOfModel_any xs.length r xs ys a cap b d w2 hl hm (H.out.keep T2.out (Nat.le_refl _)) (H'.out.keep T2.out (Nat.le_refl _))).mono ?_
      rw [C0.out, PL.out, PV.out]
      rintro e w3 ⟨⟨v3, rfl, ho⟩, hb⟩
      have T3 := Lib.hid (T2.out.trans (hb.mono T2.out.size))
      obtain ⟨a3, c3, b3, d3, rfl, hs1, hs2, -⟩ := (ho.inM hb.size).at
      have A3 := Lib.hid hs1
      have A3' := Lib.hid hs2
      clear ho hb hs1 hs2
      obtain ⟨V, hV, hVb, hVm⟩ : ∃ V, V = w3.alloc (.cells #[.int .i64 pX.length, .slice a3 pX.length c3, .slice b3 pY.length d3] 32) ∧ Below w3.heap.size w3 V ∧ Bm V w3.heap.size pX.length a3 pX.length c3 b3 pY.length d3 := ⟨_, rfl, (alloc_keep _ _).1, Bm.new _ _ _ _ _ _ _ _ _⟩
      have HV := Lib.hid hV
      have VB := Lib.hid hVb
      have VM := Lib.hid hVm
      obtain ⟨ltv, y0, y1, y2⟩ := hVm
      clear hV hVb
      go_wp2_with fail
      rw [← HV.out]
      clear y0 y1 y2
      refine (contestL_any pX pY a3 c3 b3 d3 V RD.out.is (A3.out.keep VB.out (Nat.le_refl _)) (A3'.out.keep VB.out (Nat.le_refl _))).mono ?_
      rintro e w4 ⟨vC, rfl, hla, hb⟩
      have V4 := Lib.hid hb
      have LA := Lib.hid hla
      clear hb hla
      go_wp2_with fail
      refine LA.out.mono ?_
      rintro e w5 ⟨ac, cc, rfl, hac, hbk, hb⟩
      have V5 := Lib.hid (V4.out.trans (hb.mono V4.out.size))
      have AC := Lib.hid hac
      clear hb hac
      go_wp2_with fail
      rw [show bits .and .i64 (r : Int) (wrap64 (wrap64 (2 ^ k) - 1)) = (q : Int) by have h := AB.out; unfold full one at h; simpa using h]
      refine (countBits_any q hr30 _).mono ?_
      rw [PB.out]
      rintro e w6 ⟨rfl, rfl⟩
      have T5 := Lib.hid (T3.out.trans ((VB.out.trans (V5.out.mono VB.out.size)).mono T3.out.size))
      obtain ⟨lty, y0, y1, y2⟩ := VM.out.keep V5.out
      obtain ⟨cb, co, rfl, hcb, hcc⟩ := AC.out.2.resolve_left (by omega)
      have hcp := hcc p hat1
      have hbk := hbk _ rfl
      clear hcc
      rw [← A1.out] at hcp
      have hpl : (p : Int) < (pX.length : Int) := by omega
      have MQ := Lib.hid (fun w' (hw : Below w5.heap.size w5 w') => mquo_any (cLs pX.length pX pY 16) pX pY pX.length (qCt pX pY) a3 c3 b3 d3 (some ⟨cb, co, none⟩) cc w' ICO.out hp8 (by have := RD.out.y6; omega) (isM_rel RD.out.is).2.2.1 (A3.out.keep ((VB.out.trans (V5.out.mono VB.out.size)).trans (hw.mono (VB.out.trans (V5.out.mono VB.out.size)).size)) (Nat.le_refl _)) (A3'.out.keep ((VB.out.trans (V5.out.mono VB.out.size)).trans (hw.mono (VB.out.trans (V5.out.mono VB.out.size)).size)) (Nat.le_refl _)) (AC.out.keep hw (Nat.le_refl _)))
      have QO := Lib.hid (qm_ok RD.out.is)
      have L3 := Lib.hid (L1.out.trans QO.out.2.2.1)
      have L4 := Lib.hid (L2.out.trans QO.out.2.2.2)
      have NL := Lib.hid (show (qCt pX pY : Int) = ((rdL (xs.length : Int) xs ys k).length : Nat) by rw [L3.out, tab_len])
      have XX := Lib.hid (fun w' (hw : Below w5.heap.size w5 w') => And.intro (And.intro ((hw.cell (p := ⟨w3.heap.size, 0, none⟩) lty).trans y0) (And.intro ((hw.cell (p := ⟨w3.heap.size, 1, none⟩) lty).trans y1) (And.intro ((hw.cell (p := ⟨w3.heap.size, 2, none⟩) lty).trans y2) ((hw.cell (p := ⟨cb, co + p, none⟩) hcb).trans hcp)))) ((Z.out.keep (T5.out.trans (hw.mono T5.out.size))).all))
      have hs5 := T5.out.size
      have hs3 := T3.out.size
      have hvs := VB.out.size
      have hn1 : ¬ w3.heap.size = w.heap.size + 1 := by omega
      have hn2 : ¬ w.heap.size + 1 = w3.heap.size := by omega
      have hn3 : ¬ cb = w.heap.size + 1 := by simp at hbk; omega
      have hn4 : ¬ w.heap.size + 1 = cb := by simp at hbk; omega
      have hs35 : w3.heap.size ≤ w5.heap.size := (VB.out.trans (V5.out.mono VB.out.size)).size
      go_wp2
      go_region_held3 (fun w' => w'.cell? ⟨w3.heap.size, 0, none⟩ = some (.int .i64 pX.length) ∧ w'.cell? ⟨w3.heap.size, 1, none⟩ = some (.slice a3 pX.length c3) ∧ w'.cell? ⟨w3.heap.size, 2, none⟩ = some (.slice b3 pY.length d3) ∧ w'.cell? ⟨cb, co + p, none⟩ = some (.int .i64 (rdA xs.length xs ys k))) (first | exact ⟨r0, r1, r2, r3⟩ | exact ⟨y0, y1, y2, hcp⟩ | go_keep) (first | (go_at_call 53; refine (MQ.out _ (by first | exact (Below.refl _ _).drew | exact Below.refl _ _)).mono ?_; rw [← L3.out, ← L4.out]; rintro e w7 ⟨v7, rfl, ho, hb⟩; have T7 := Lib.hid (show Below w5.heap.size w5 w7 from below_of_drew hb); obtain ⟨a7, k7, b7, d7, rfl⟩ := ho.form; have O7 := Lib.hid (show OwnM w7 w5.heap.size _ _ _ _ from ho); clear ho hb; obtain ⟨⟨r0, r1, r2, r3⟩, ⟨lz, u0, u1, u2, u3, u4, u5⟩⟩ := XX.out _ T7.out))
      all_goals
        have B4 := Lib.hid (HB.out.trans ((T5.out.trans (T7.out.mono T5.out.size)).mono HB.out.size))
        go_wp2
        refine bodyPost_ret (v := .tuple #[.agg #[.int .i64 (qCt pX pY), .slice a7 (rdL (xs.length : Int) xs ys k).length k7, .slice b7 (rdV (xs.length : Int) xs ys k).length d7], .int .i64 (rdA xs.length xs ys k), .int .i64 0]) (by simp [results, Try.results28, go_sem, u0, u1, u2]) rfl ⟨_, by rw [C.out], ?_, ((B4.out.setCell (by show _ ≤ _; simp) _).setCell (by show _ ≤ _; simp) _).setCell (by show _ ≤ _; simp) _⟩
        rw [← NL.out]
        exact (O7.out.out3 (by omega)).mono (by omega)

end Go.Proofs.Ytecjmibnoldpgab
