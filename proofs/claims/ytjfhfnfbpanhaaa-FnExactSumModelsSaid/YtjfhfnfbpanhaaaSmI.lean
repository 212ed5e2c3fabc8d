/- The contract of SumModels of the program, at every argument; both told by values. Conditions: those in the theorems. -/
import Derived.Test.YtjfhfnfbpanhaaaSm
namespace Go.Proofs.Ytjfhfnfbpanhaaa
open Go.RowKit

set_option maxHeartbeats 4000000 in
set_option maxRecDepth 100000 in
theorem implSumModels_any (n0 n1 : Int) (xs0 ys0 xs1 ys1 : List Int) (a0 : Option Addr) (c0 : Nat) (b0 : Option Addr) (d0 : Nat) (a1 : Option Addr) (c1 : Nat) (b1 : Option Addr) (d1 : Nat) (w : World) (hl0 : xs0.length ≤ 1048576) (hm0 : ys0.length ≤ 1048576) (hl1 : xs1.length ≤ 1048576) (hm1 : ys1.length ≤ 1048576) (h0 : At w a0 xs0.length xs0) (h0' : At w b0 ys0.length ys0) (h1 : At w a1 xs1.length xs1) (h1' : At w b1 ys1.length ys1) (hc0 : a0 = none → c0 = 0) :
    Calls Try.prog 34 #[.agg #[.int .i64 n0, .slice a0 xs0.length c0, .slice b0 ys0.length d0], .agg #[.int .i64 n1, .slice a1 xs1.length c1, .slice b1 ys1.length d1]] w fun e w' => RM w' w.heap.size (sdL n0 xs0 ys0 n1 xs1 ys1).length (sdC n0 xs0 ys0 n1 xs1 ys1) (sdL n0 xs0 ys0 n1 xs1 ys1) (sdV n0 xs0 ys0 n1 xs1 ys1) e ∧ Below w.heap.size w w' := by
  obtain ⟨W, hW, HB, X0, X1, Z, hWs⟩ := boxMM w n0 a0 xs0.length c0 b0 ys0.length d0 n1 a1 xs1.length c1 b1 ys1.length d1
  have H0 := Lib.hid (h0.keep HB.out (Nat.le_refl _))
  have H0' := Lib.hid (h0'.keep HB.out (Nat.le_refl _))
  have H1 := Lib.hid (h1.keep HB.out (Nat.le_refl _))
  have H1' := Lib.hid (h1'.keep HB.out (Nat.le_refl _))
  have N0 := Lib.hid hc0
  have hz0 : w.heap.size + 1 + 1 + 1 ≤ W.heap.size := by omega
  have HW := Lib.hid hW
  clear h0 h0' h1 h1' hW hc0
  cases hf0 : isM n0 xs0 ys0
  · have F0 := Lib.hid hf0
    have C := Lib.hid (sdC_1 (show (isM n0 xs0 ys0 && isM n1 xs1 ys1) = false by rw [hf0]; rfl))
    have L := Lib.hid (sd_bad C.out (by decide))
    clear hf0
    go_enter Try.func34, Try.ntmps34
    go_wp2_with fail
    rw [← HW.out]
    refine (implIsModel_any n0 xs0 ys0 _ _ _ _ _ _ _ hl0 hm0 H0.out H0'.out).mono ?_
    rw [F0.out]
    rintro e w1 ⟨rfl, hb⟩
    have T1 := Lib.hid hb
    clear hb
    have B1 := Lib.hid (HB.out.trans (T1.out.mono HB.out.size))
    obtain ⟨lt2, z0, z1, z2, z3, z4, z5⟩ := (Z.out.keep T1.out).all
    go_wp2
    exact bodyPost_ret (v := .tuple #[.agg #[.int .i64 0, .slice none 0 0, .slice none 0 0], .int .i64 1]) (by simp [results, Try.results34, go_sem, z0, z1, z2]) rfl ⟨RM.bad C.out.symm (by rw [L.out.1]; rfl) L.out.1 L.out.2, ((B1.out.setCell (by show _ ≤ _; simp; omega) _).setCell (by show _ ≤ _; simp; omega) _).setCell (by show _ ≤ _; simp; omega) _⟩
  · obtain ⟨e1, e2, -⟩ := isM_rel hf0
    have hn0 : 0 ≤ n0 := by omega
    have hn8 : n0 ≤ 8 := by omega
    have hl08 : xs0.length ≤ 8 := e2
    have hy0 : ys0.length ≤ 30 := by obtain ⟨-, -, -, -, h6, -⟩ := isM_ok hf0; omega
    have F0 := Lib.hid hf0
    cases hf1 : isM n1 xs1 ys1
    · have F1 := Lib.hid hf1
      have C := Lib.hid (sdC_1 (show (isM n0 xs0 ys0 && isM n1 xs1 ys1) = false by rw [hf0, hf1]; rfl))
      have L := Lib.hid (sd_bad C.out (by decide))
      clear hf0 hf1 e1 e2
      go_enter Try.func34, Try.ntmps34
      go_wp2_with fail
      rw [← HW.out]
      refine (implIsModel_any n0 xs0 ys0 _ _ _ _ _ _ _ hl0 hm0 H0.out H0'.out).mono ?_
      rw [F0.out]
      rintro e w1 ⟨rfl, hb⟩
      have T1 := Lib.hid hb
      obtain ⟨lt, x0, x1, x2⟩ := X1.out.keep hb
      have Q1 := Lib.hid (H1.out.keep hb (Nat.le_refl _))
      have Q1' := Lib.hid (H1'.out.keep hb (Nat.le_refl _))
      clear hb
      go_wp2_with fail
      clear x0 x1 x2
      refine (implIsModel_any n1 xs1 ys1 _ _ _ _ _ _ _ hl1 hm1 Q1.out Q1'.out).mono ?_
      rw [F1.out]
      rintro e w2 ⟨rfl, hb⟩
      have T2 := Lib.hid (T1.out.trans (hb.mono T1.out.size))
      clear hb
      have B2 := Lib.hid (HB.out.trans (T2.out.mono HB.out.size))
      obtain ⟨lt2, z0, z1, z2, z3, z4, z5⟩ := (Z.out.keep T2.out).all
      go_wp2
      exact bodyPost_ret (v := .tuple #[.agg #[.int .i64 0, .slice none 0 0, .slice none 0 0], .int .i64 1]) (by simp [results, Try.results34, go_sem, z0, z1, z2]) rfl ⟨RM.bad C.out.symm (by rw [L.out.1]; rfl) L.out.1 L.out.2, ((B2.out.setCell (by show _ ≤ _; simp; omega) _).setCell (by show _ ≤ _; simp; omega) _).setCell (by show _ ≤ _; simp; omega) _⟩
    · obtain ⟨e3, e4, -⟩ := isM_rel hf1
      have hn10 : 0 ≤ n1 := by omega
      have hn18 : n1 ≤ 8 := by omega
      have hl18 : xs1.length ≤ 8 := e4
      have HYY := Lib.hid (show ys1.length = ys0.length by obtain ⟨-, -, -, -, h6, -⟩ := isM_ok hf0; obtain ⟨-, -, -, -, h6', -⟩ := isM_ok hf1; omega)
      have F1 := Lib.hid hf1
      have FF := Lib.hid (show frB n0 xs0 = true ∧ frB n1 xs1 = true from ⟨(isM_ok hf0).1, (isM_ok hf1).1⟩)
      by_cases h8 : 8 < n0 + n1
      · have C := Lib.hid (sdC_3 (show (isM n0 xs0 ys0 && isM n1 xs1 ys1) = true by rw [hf0, hf1]; rfl) h8)
        have L := Lib.hid (sd_bad C.out (by decide))
        have SC := Lib.hid (smC_3 (show (frB n0 xs0 && frB n1 xs1) = true by rw [FF.out.1, FF.out.2]; rfl) h8)
        clear hf0 hf1 e1 e2 e3 e4
        go_enter Try.func34, Try.ntmps34
        go_wp2_with fail
        rw [← HW.out]
        refine (implIsModel_any n0 xs0 ys0 _ _ _ _ _ _ _ hl0 hm0 H0.out H0'.out).mono ?_
        rw [F0.out]
        rintro e w1 ⟨rfl, hb⟩
        have T1 := Lib.hid hb
        obtain ⟨lt, x0, x1, x2⟩ := X1.out.keep hb
        have Q1 := Lib.hid (H1.out.keep hb (Nat.le_refl _))
        have Q1' := Lib.hid (H1'.out.keep hb (Nat.le_refl _))
        clear hb
        go_wp2_with fail
        clear x0 x1 x2
        refine (implIsModel_any n1 xs1 ys1 _ _ _ _ _ _ _ hl1 hm1 Q1.out Q1'.out).mono ?_
        rw [F1.out]
        rintro e w2 ⟨rfl, hb⟩
        have T2 := Lib.hid (T1.out.trans (hb.mono T1.out.size))
        clear hb
        obtain ⟨lt0, x0, x1, x2⟩ := X0.out.keep T2.out
        obtain ⟨lt1, y0, y1, y2⟩ := X1.out.keep T2.out
        go_wp2_with fail
        clear x0 x1 x2 y0 y1 y2
        refine (implSumFrames_any n0 n1 xs0 xs1 _ _ _ _ _ _ _ hl0 hl1 (H0.out.keep T2.out (Nat.le_refl _)) (H1.out.keep T2.out (Nat.le_refl _))).mono ?_
        rw [SC.out]
        rintro e w3 ⟨⟨v3, rfl, ho⟩, hb⟩
        obtain ⟨a3, k3, rfl⟩ := ho.form
        have T3 := Lib.hid (T2.out.trans (hb.mono T2.out.size))
        clear ho hb
        have B3 := Lib.hid (HB.out.trans ((T3.out.trans ((boxF (w := w3) (smL n0 xs0 n1 xs1).length a3 (smL n0 xs0 n1 xs1).length k3).mono T3.out.size)).mono HB.out.size))
        obtain ⟨lt2, z0, z1, z2, z3, z4, z5⟩ := (Z.out.keep (T3.out.trans ((boxF (w := w3) (smL n0 xs0 n1 xs1).length a3 (smL n0 xs0 n1 xs1).length k3).mono T3.out.size))).all
        go_wp2
        exact bodyPost_ret (v := .tuple #[.agg #[.int .i64 0, .slice none 0 0, .slice none 0 0], .int .i64 3]) (by simp [results, Try.results34, go_sem, z0, z1, z2]) rfl ⟨RM.bad C.out.symm (by rw [L.out.1]; rfl) L.out.1 L.out.2, ((B3.out.setCell (by show _ ≤ _; simp; omega) _).setCell (by show _ ≤ _; simp; omega) _).setCell (by show _ ≤ _; simp; omega) _⟩
      · have C := Lib.hid (sdC_0 (show (isM n0 xs0 ys0 && isM n1 xs1 ys1) = true by rw [hf0, hf1]; rfl) h8)
        have L := Lib.hid (sd_ok C.out)
        have SC := Lib.hid (smC_0 (show (frB n0 xs0 && frB n1 xs1) = true by rw [FF.out.1, FF.out.2]; rfl) h8)
        have SL := Lib.hid (show smL n0 xs0 n1 xs1 = smTo xs0 xs1 n0 xs1.length by rw [smL, SC.out]; rfl)
        have hsl : (smTo xs0 xs1 n0 xs1.length).length ≤ 16 := by rw [smTo_len]; omega
        clear hf0 hf1 e1 e2 e3 e4
        go_enter Try.func34, Try.ntmps34
        go_wp2_with fail
        rw [← HW.out]
        refine (implIsModel_any n0 xs0 ys0 _ _ _ _ _ _ _ hl0 hm0 H0.out H0'.out).mono ?_
        rw [F0.out]
        rintro e w1 ⟨rfl, hb⟩
        have T1 := Lib.hid hb
        obtain ⟨lt, x0, x1, x2⟩ := X1.out.keep hb
        have Q1 := Lib.hid (H1.out.keep hb (Nat.le_refl _))
        have Q1' := Lib.hid (H1'.out.keep hb (Nat.le_refl _))
        clear hb
        go_wp2_with fail
        clear x0 x1 x2
        refine (implIsModel_any n1 xs1 ys1 _ _ _ _ _ _ _ hl1 hm1 Q1.out Q1'.out).mono ?_
        rw [F1.out]
        rintro e w2 ⟨rfl, hb⟩
        have T2 := Lib.hid (T1.out.trans (hb.mono T1.out.size))
        clear hb
        obtain ⟨lt0, x0, x1, x2⟩ := X0.out.keep T2.out
        obtain ⟨lt1, y0, y1, y2⟩ := X1.out.keep T2.out
        go_wp2_with fail
        clear x0 x1 x2 y0 y1 y2
        refine (implSumFrames_any n0 n1 xs0 xs1 _ _ _ _ _ _ _ hl0 hl1 (H0.out.keep T2.out (Nat.le_refl _)) (H1.out.keep T2.out (Nat.le_refl _))).mono ?_
        rw [SC.out, SL.out]
        rintro e w3 ⟨⟨v3, rfl, ho⟩, hb⟩
        obtain ⟨a3, k3, rfl⟩ := ho.form
        have T3 := Lib.hid (T2.out.trans (hb.mono T2.out.size))
        obtain ⟨V, hV, bV, xV, hVs⟩ : ∃ V, V = w3.alloc (.cells #[.int .i64 (smTo xs0 xs1 n0 xs1.length).length, .slice a3 (smTo xs0 xs1 n0 xs1.length).length k3] 29) ∧ Below w3.heap.size w3 V ∧ Bx V w3.heap.size (smTo xs0 xs1 n0 xs1.length).length a3 (smTo xs0 xs1 n0 xs1.length).length k3 ∧ V.heap.size = w3.heap.size + 1 := ⟨_, rfl, (alloc_keep _ _).1, Bx.new _ _ _ _ _ _, by simp⟩
        have TV := Lib.hid (T3.out.trans (bV.mono T3.out.size))
        have OV := Lib.hid (ho.2.inn.below bV (Nat.le_refl _))
        have XV := Lib.hid xV
        have hmk : ∀ W : World, (Instr.makeSlice 22 (.int .i64 6) (.int .i64 6)).run Try.prog W = .ok (.slice (some ⟨W.heap.size, 0, none⟩) 6 6) (W.alloc (.cells (madeCells #[.int .i64 0] 6) 2)) := fun (W : World) => run_make_row' (P := Try.prog) 22 2 (.int .i64 0) 8 Try.underlying22 info64 rfl .i64 .i64 6 (by omega) (by omega) W
        have hr0 := World.rowIs_made V (.int .i64 0) 6 2
        rw [hVs] at hr0
        have HR0 := Lib.hid hr0
        have HBV := Lib.hid ((Below.refl (w3.heap.size + 1) V).alloc (by omega) (.cells (madeCells #[.int .i64 0] 6) 2))
        have HV := Lib.hid hV
        have hs2 := T2.out.size
        have hs3 := hb.size
        clear ho hb hr0 xV bV hV
        have Y6 := Lib.hid (show ys0.length = 6 by obtain ⟨-, -, -, -, h6, -⟩ := isM_ok F0.out; exact h6)
        go_wp2
        clear hmk
        rw [← HV.out]
        go_loopw [34] (fun i wr => ∃ k : Nat, k ≤ 6 ∧ i = .int .i64 k ∧ wr.rowIs (w3.heap.size + 1) 2 6 (fun t => .int .i64 (upS (smF n0 ys0 ys1) k t)) ∧ Hid (Below (w3.heap.size + 1) V wr)) (fun i _ => 6 - (intOf i).toNat)
        case atStart => exact ⟨0, Nat.zero_le _, rfl, HR0.out.congr fun t _ => by rw [upS_start], HBV⟩
        case round =>
          obtain ⟨k, hk, rfl, hrow, B⟩ := hrel
          have hsz := B.out.size
          have BW := Lib.hid (TV.out.trans (B.out.mono (by omega)))
          have HROW := Lib.hid hrow
          by_cases hlt : k < 6
          · have HA := Lib.hid (H0'.out.keep BW.out (Nat.le_refl _))
            have HC := Lib.hid (H1'.out.keep BW.out (Nat.le_refl _))
            obtain ⟨lt0, x0, x1, x2⟩ := X0.out.keep BW.out
            obtain ⟨lt1, y0, y1, y2⟩ := X1.out.keep BW.out
            have hlt1 : k < ys0.length := by have := Y6.out; omega
            have hlt2 : k < ys1.length := by have := Y6.out; have := HYY.out; omega
            obtain ⟨p, po, rfl, hb1, hc1⟩ := HA.out.2.resolve_left (by omega)
            have hcell := hc1 k hlt1
            obtain ⟨q, qo, rfl, hb2, hc2⟩ := HC.out.2.resolve_left (by omega)
            have hcell2 := hc2 k hlt2
            have hcg : wr.cell? ⟨w3.heap.size + 1, k, none⟩ = some (.int .i64 (upS (smF n0 ys0 ys1) k k)) := hrow.cell hlt
            have hfg : wr.frozen? ⟨w3.heap.size + 1, k, none⟩ = false := hrow.frozen k
            have EF := Lib.hid (show bits .or .i64 (nth ys0 k) (IntKind.i64.wrap (nth ys1 k * 2 ^ min n0.toNat 64)) = smF n0 ys0 ys1 k by rw [shl_spell' hn0 hn8]; rfl)
            clear hc1 hc2 hrow
            go_wp2
            go_region
            all_goals
              go_wp2
              go_roundw
              case rel => exact ⟨k + 1, hlt, by go_num, row_setI HROW.out.drew (fun t => upS_set rfl t), Lib.hid ((B.out.drew).setCell (p := ⟨w3.heap.size + 1, k, none⟩) (Nat.le_refl _) _)⟩
              case measure => simp [intOf]; omega
          · obtain rfl : k = 6 := by omega
            have O5 := Lib.hid (own_of_row (B := w3.heap.size + 1) (Nat.le_refl _) (by omega) (hrow.congr fun t ht => by rw [upS_all ht]))
            obtain ⟨lt2, z0, z1, z2, z3, z4, z5⟩ := (Z.out.keep BW.out).all
            obtain ⟨lt3, v0, v1⟩ := XV.out.below B.out (by omega)
            have O6 := Lib.hid (OV.out.below B.out (by omega))
            have B5 := Lib.hid (HB.out.trans (BW.out.mono HB.out.size))
            have e8 : ((6 : Nat) : Int) = 6 := rfl
            have L6 := Lib.hid (show sdV n0 xs0 ys0 n1 xs1 ys1 = tab 6 (smF n0 ys0 ys1) by rw [L.out.2, Y6.out])
            clear hrow
            go_wp2
            exact bodyPost_ret (v := .tuple #[.agg #[.int .i64 (smTo xs0 xs1 n0 xs1.length).length, .slice a3 (smTo xs0 xs1 n0 xs1.length).length k3, .slice (some ⟨w3.heap.size + 1, 0, none⟩) 6 6], .int .i64 0]) (by simp [results, Try.results34, go_sem, z0, z1, z2]) rfl ⟨RM.good C.out (by rw [L.out.1]) L.out.1 L6.out ((OwnM.two (n := (smTo xs0 xs1 n0 xs1.length).length) (C := w3.heap.size + 1) (O6.out.upg (by omega)) O5.out (by omega)).out3 (by omega)) (by omega), ((B5.out.setCell (by show _ ≤ _; simp; omega) _).setCell (by show _ ≤ _; simp; omega) _).setCell (by show _ ≤ _; simp; omega) _⟩

theorem specSumModels_v (n0 : Int) (xs0 ys0 : List Int) (n1 : Int) (xs1 ys1 : List Int) (v0 : Value) (lo0 hi0 : Nat) (v1 : Value) (lo1 hi1 : Nat) (w : World) (hl0 : xs0.length ≤ 1048576) (hm0 : ys0.length ≤ 1048576) (hl1 : xs1.length ≤ 1048576) (hm1 : ys1.length ≤ 1048576) (h0 : InM w lo0 hi0 v0 n0 xs0 ys0) (h1 : InM w lo1 hi1 v1 n1 xs1 ys1) :
    Calls Try.prog 33 #[v0, v1] w fun e w' => ∃ v, e = .returned (.tuple #[v, .int .i64 (sdC n0 xs0 ys0 n1 xs1 ys1)]) ∧ OwnM w' w.heap.size v (sdL n0 xs0 ys0 n1 xs1 ys1).length (sdL n0 xs0 ys0 n1 xs1 ys1) (sdV n0 xs0 ys0 n1 xs1 ys1) ∧ Below w.heap.size w w' := by
  obtain ⟨a, cap, b, d, rfl, hat, hat', hn, -⟩ := h0.at
  obtain ⟨a', cap', b', d', rfl, hat2, hat2', -, -⟩ := h1.at
  exact (specSumModels_any n0 n1 xs0 ys0 xs1 ys1 a cap b d a' cap' b' d' w hl0 hm0 hl1 hm1 hat hat' hat2 hat2' hn).mono fun e w' ⟨⟨v, e1, o⟩, b⟩ => ⟨v, e1, o, b⟩
theorem implSumModels_v (n0 : Int) (xs0 ys0 : List Int) (n1 : Int) (xs1 ys1 : List Int) (v0 : Value) (lo0 hi0 : Nat) (v1 : Value) (lo1 hi1 : Nat) (w : World) (hl0 : xs0.length ≤ 1048576) (hm0 : ys0.length ≤ 1048576) (hl1 : xs1.length ≤ 1048576) (hm1 : ys1.length ≤ 1048576) (h0 : InM w lo0 hi0 v0 n0 xs0 ys0) (h1 : InM w lo1 hi1 v1 n1 xs1 ys1) :
    Calls Try.prog 34 #[v0, v1] w fun e w' => ∃ v, e = .returned (.tuple #[v, .int .i64 (sdC n0 xs0 ys0 n1 xs1 ys1)]) ∧ OwnM w' w.heap.size v (sdL n0 xs0 ys0 n1 xs1 ys1).length (sdL n0 xs0 ys0 n1 xs1 ys1) (sdV n0 xs0 ys0 n1 xs1 ys1) ∧ Below w.heap.size w w' := by
  obtain ⟨a, cap, b, d, rfl, hat, hat', hn, -⟩ := h0.at
  obtain ⟨a', cap', b', d', rfl, hat2, hat2', -, -⟩ := h1.at
  exact (implSumModels_any n0 n1 xs0 ys0 xs1 ys1 a cap b d a' cap' b' d' w hl0 hm0 hl1 hm1 hat hat' hat2 hat2' hn).mono fun e w' ⟨⟨v, e1, o⟩, b⟩ => ⟨v, e1, o, b⟩

end Go.Proofs.Ytjfhfnfbpanhaaa
