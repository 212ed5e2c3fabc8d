/- The contract of SumModels of the program, at every argument; both told by values. Conditions: those in the theorems. -/
import Derived.Test.YthopleeehbkjaaaSm
import Derived.Test.YthopleeehbkjaaaJn17
namespace Go.Proofs.Ythopleeehbkjaaa
open Go.RowKit

set_option maxHeartbeats 4000000 in
set_option maxRecDepth 100000 in
theorem plusM_any (n0 n1 : Int) (xs0 ys0 xs1 ys1 : List Int) (a0 : Option Addr) (c0 : Nat) (b0 : Option Addr) (d0 : Nat) (a1 : Option Addr) (c1 : Nat) (b1 : Option Addr) (d1 : Nat) (w : World) (hn0 : 0 ≤ n0) (hn8 : n0 ≤ 8) (h80 : xs0.length ≤ 8) (h81 : xs1.length ≤ 8) (h6 : ys0.length = 6) (h6' : ys1.length = 6) (h0 : At w a0 xs0.length xs0) (h0' : At w b0 ys0.length ys0) (h1 : At w a1 xs1.length xs1) (h1' : At w b1 ys1.length ys1) :
    Calls Try.prog 75 #[.agg #[.int .i64 n0, .slice a0 xs0.length c0, .slice b0 ys0.length d0], .agg #[.int .i64 n1, .slice a1 xs1.length c1, .slice b1 ys1.length d1]] w fun e w' => ∃ v, e = .returned v ∧ OwnM w' w.heap.size v (smTo xs0 xs1 n0 xs1.length).length (smTo xs0 xs1 n0 xs1.length) (tab ys0.length (smF n0 ys0 ys1)) ∧ Below w.heap.size w w' := by
  obtain ⟨W, hW, HB, X0, X1, Z, hWs⟩ := boxMM w n0 a0 xs0.length c0 b0 ys0.length d0 n1 a1 xs1.length c1 b1 ys1.length d1
  have H0 := Lib.hid (h0.keep HB.out (Nat.le_refl _))
  have H0' := Lib.hid (h0'.keep HB.out (Nat.le_refl _))
  have H1 := Lib.hid (h1.keep HB.out (Nat.le_refl _))
  have H1' := Lib.hid (h1'.keep HB.out (Nat.le_refl _))
  have hz0 : w.heap.size + 1 + 1 + 1 ≤ W.heap.size := by omega
  have WS := Lib.hid hWs
  have HW := Lib.hid hW
  have Y6 := Lib.hid h6
  have Y6' := Lib.hid h6'
  have hmk : ∀ W : World, (Instr.makeSlice 22 (.int .i64 6) (.int .i64 6)).run Try.prog W = .ok (.slice (some ⟨W.heap.size, 0, none⟩) 6 6) (W.alloc (.cells (madeCells #[.int .i64 0] 6) 2)) := fun (W : World) => run_make_row' (P := Try.prog) 22 2 (.int .i64 0) 8 Try.underlying22 info64 rfl .i64 .i64 6 (by omega) (by omega) W
  have hr0 := World.rowIs_made W (.int .i64 0) 6 2
  have HR0 := Lib.hid hr0
  have HBV := Lib.hid ((Below.refl W.heap.size W).alloc (Nat.le_refl _) (.cells (madeCells #[.int .i64 0] 6) 2))
  clear h0 h0' h1 h1' hW h6 h6' hr0 hWs
  go_enter Try.func75, Try.ntmps75
  go_wp2
  clear hmk
  rw [← HW.out]
  rw [show w.heap.size + 1 + 1 + 1 = W.heap.size from WS.out.symm]
  go_loopw [10] (fun i wr => ∃ k : Nat, k ≤ 6 ∧ i = .int .i64 k ∧ wr.rowIs W.heap.size 2 6 (fun t => .int .i64 (upS (smF n0 ys0 ys1) k t)) ∧ Hid (Below W.heap.size W wr)) (fun i _ => 6 - (intOf i).toNat)
  case atStart => exact ⟨0, Nat.zero_le _, rfl, HR0.out.congr fun t _ => by rw [upS_start], HBV⟩
  case round =>
    obtain ⟨k, hk, rfl, hrow, B⟩ := hrel
    have HROW := Lib.hid hrow
    by_cases hlt : k < 6
    · have HA := Lib.hid (H0'.out.keep B.out (Nat.le_refl _))
      have HC := Lib.hid (H1'.out.keep B.out (Nat.le_refl _))
      obtain ⟨lt0, x0, x1, x2⟩ := X0.out.keep B.out
      obtain ⟨lt1, y0, y1, y2⟩ := X1.out.keep B.out
      have hlt1 : k < ys0.length := by have := Y6.out; omega
      have hlt2 : k < ys1.length := by have := Y6'.out; omega
      obtain ⟨p, po, rfl, hb1, hc1⟩ := HA.out.2.resolve_left (by omega)
      have hcell := hc1 k hlt1
      obtain ⟨q, qo, rfl, hb2, hc2⟩ := HC.out.2.resolve_left (by omega)
      have hcell2 := hc2 k hlt2
      have hcg : wr.cell? ⟨W.heap.size, k, none⟩ = some (.int .i64 (upS (smF n0 ys0 ys1) k k)) := hrow.cell hlt
      have hfg : wr.frozen? ⟨W.heap.size, k, none⟩ = false := hrow.frozen k
      clear hc1 hc2 hrow
      go_wp2
      go_region
      all_goals
        go_wp2
        go_roundw
        case rel => exact ⟨k + 1, hlt, by go_num, row_setI HROW.out.drew (fun t => upS_set rfl t), Lib.hid ((B.out.drew).setCell (p := ⟨W.heap.size, k, none⟩) (Nat.le_refl _) _)⟩
        case measure => simp [intOf]; omega
    · obtain rfl : k = 6 := by omega
      have O5 := Lib.hid (own_of_row (B := W.heap.size) (Nat.le_refl _) (by omega) (hrow.congr fun t ht => by rw [upS_all ht]))
      have B5 := Lib.hid (HB.out.trans (B.out.mono HB.out.size))
      obtain ⟨lt0, x0, x1, x2⟩ := X0.out.keep B.out
      obtain ⟨lt1, y0, y1, y2⟩ := X1.out.keep B.out
      clear hrow
      go_wp2_with fail
      clear x0 x1 x2 y0 y1 y2
      refine (plusF_any n0 n1 xs0 xs1 _ _ _ _ _ hn0 hn8 h80 h81 (H0.out.keep B.out (Nat.le_refl _)) (H1.out.keep B.out (Nat.le_refl _))).mono ?_
      rintro e w3 ⟨v3, rfl, ho, hb⟩
      obtain ⟨a3, k3, rfl⟩ := ho.form
      have T3 := Lib.hid (B.out.trans (hb.mono B.out.size))
      have B6 := Lib.hid (HB.out.trans (T3.out.mono HB.out.size))
      have O6 := Lib.hid (O5.out.inn.below hb (Nat.le_refl _))
      have O7 := Lib.hid ho
      have hsz : W.heap.size ≤ wr.heap.size := B.out.size
      obtain ⟨lt2, z0, z1, z2, z3, z4, z5⟩ := (Z.out.keep T3.out).all
      have E6 := Lib.hid (show tab 6 (smF n0 ys0 ys1) = tab ys0.length (smF n0 ys0 ys1) by rw [Y6.out])
      have L6 := Lib.hid (show (tab 6 (smF n0 ys0 ys1)).length = 6 from tab_len _ _)
      clear ho hb
      go_wp2
      exact bodyPost_ret (v := .agg #[.int .i64 (smTo xs0 xs1 n0 xs1.length).length, .slice a3 (smTo xs0 xs1 n0 xs1.length).length k3, .slice (some ⟨W.heap.size, 0, none⟩) 6 6]) (by simp [results, Try.results75, go_sem, z0, z1, z2]) rfl ⟨_, rfl, by rw [← E6.out]; exact ((OwnM.two' (n := (smTo xs0 xs1 n0 xs1.length).length) O7.out.2 O6.out hsz).out3 (by omega)).mono (by omega), ((B6.out.setCell (by show w.heap.size ≤ _; simp; omega) _).setCell (by show w.heap.size ≤ _; simp; omega) _).setCell (by show w.heap.size ≤ _; simp; omega) _⟩

set_option maxHeartbeats 4000000 in
set_option maxRecDepth 100000 in
theorem implSumModels_any (n0 n1 : Int) (xs0 ys0 xs1 ys1 : List Int) (a0 : Option Addr) (c0 : Nat) (b0 : Option Addr) (d0 : Nat) (a1 : Option Addr) (c1 : Nat) (b1 : Option Addr) (d1 : Nat) (w : World) (hl0 : xs0.length ≤ 1048576) (hm0 : ys0.length ≤ 1048576) (hl1 : xs1.length ≤ 1048576) (hm1 : ys1.length ≤ 1048576) (h0 : At w a0 xs0.length xs0) (h0' : At w b0 ys0.length ys0) (h1 : At w a1 xs1.length xs1) (h1' : At w b1 ys1.length ys1) :
    Calls Try.prog 38 #[.agg #[.int .i64 n0, .slice a0 xs0.length c0, .slice b0 ys0.length d0], .agg #[.int .i64 n1, .slice a1 xs1.length c1, .slice b1 ys1.length d1]] w fun e w' => RM w' w.heap.size (sdL n0 xs0 ys0 n1 xs1 ys1).length (sdC n0 xs0 ys0 n1 xs1 ys1) (sdL n0 xs0 ys0 n1 xs1 ys1) (sdV n0 xs0 ys0 n1 xs1 ys1) e ∧ Below w.heap.size w w' := by
  obtain ⟨W, hW, HB, X0, X1, Z, hWs⟩ := boxMM w n0 a0 xs0.length c0 b0 ys0.length d0 n1 a1 xs1.length c1 b1 ys1.length d1
  have H0 := Lib.hid (h0.keep HB.out (Nat.le_refl _))
  have H0' := Lib.hid (h0'.keep HB.out (Nat.le_refl _))
  have H1 := Lib.hid (h1.keep HB.out (Nat.le_refl _))
  have H1' := Lib.hid (h1'.keep HB.out (Nat.le_refl _))
  have CM := Lib.hid (areM2_made n0 n1 xs0 ys0 xs1 ys1 a0 _ c0 b0 _ d0 a1 _ c1 b1 _ d1 W hl0 hm0 hl1 hm1 H0.out H0'.out H1.out H1'.out hWs)
  have hz0 : w.heap.size + 1 + 1 + 1 ≤ W.heap.size := by omega
  have HW := Lib.hid hW
  clear h0 h0' h1 h1' hW hWs
  obtain ⟨lt0, x0, x1, x2⟩ := X0.out
  obtain ⟨lt1, y0, y1, y2⟩ := X1.out
  cases hf : (isM n0 xs0 ys0 && isM n1 xs1 ys1)
  · have F := Lib.hid hf
    have C := Lib.hid (sdC_1 hf)
    have L := Lib.hid (sd_bad C.out (by decide))
    clear hf
    go_enter Try.func38, Try.ntmps38
    go_wp2_with fail
    clear x0 x1 x2 y0 y1 y2
    rw [← HW.out]
    refine CM.out.mono ?_
    rw [F.out]
    rintro e w1 ⟨rfl, T1'⟩
    have T1 := Lib.hid T1'
    clear T1'
    have B1 := Lib.hid (HB.out.trans (T1.out.mono HB.out.size))
    obtain ⟨lt2, z0, z1, z2, z3, z4, z5⟩ := (Z.out.keep T1.out).all
    go_wp2
    exact bodyPost_ret (v := .tuple #[.agg #[.int .i64 0, .slice none 0 0, .slice none 0 0], .int .i64 1]) (by simp [results, Try.results38, go_sem, z0, z1, z2]) rfl ⟨RM.bad C.out.symm (by rw [L.out.1]; rfl) L.out.1 L.out.2, ((B1.out.setCell (by show _ ≤ _; simp; omega) _).setCell (by show _ ≤ _; simp; omega) _).setCell (by show _ ≤ _; simp; omega) _⟩
  · have F := Lib.hid hf
    have hff := hf
    rw [Bool.and_eq_true] at hff
    obtain ⟨hf0, hf1⟩ := hff
    obtain ⟨e1, e2, -⟩ := isM_rel hf0
    obtain ⟨e3, e4, -⟩ := isM_rel hf1
    have hn0 : 0 ≤ n0 := by omega
    have hn8 : n0 ≤ 8 := by omega
    have hn10 : 0 ≤ n1 := by omega
    have hn18 : n1 ≤ 8 := by omega
    have Y6 := Lib.hid (show ys0.length = 6 by obtain ⟨-, -, -, -, h6, -⟩ := isM_ok hf0; exact h6)
    have Y6' := Lib.hid (show ys1.length = 6 by obtain ⟨-, -, -, -, h6, -⟩ := isM_ok hf1; exact h6)
    by_cases h8 : 8 < n0 + n1
    · have C := Lib.hid (sdC_3 hf h8)
      have L := Lib.hid (sd_bad C.out (by decide))
      clear hf hf0 hf1 e1 e3
      go_enter Try.func38, Try.ntmps38
      go_wp2_with fail
      clear x0 x1 x2 y0 y1 y2
      rw [← HW.out]
      refine CM.out.mono ?_
      rw [F.out]
      rintro e w1 ⟨rfl, T1'⟩
      have T1 := Lib.hid T1'
      clear T1'
      have B1 := Lib.hid (HB.out.trans (T1.out.mono HB.out.size))
      obtain ⟨lt2, z0, z1, z2, z3, z4, z5⟩ := (Z.out.keep T1.out).all
      obtain ⟨lt0, x0, x1, x2⟩ := X0.out.keep T1.out
      obtain ⟨lt1, y0, y1, y2⟩ := X1.out.keep T1.out
      go_wp2
      exact bodyPost_ret (v := .tuple #[.agg #[.int .i64 0, .slice none 0 0, .slice none 0 0], .int .i64 3]) (by simp [results, Try.results38, go_sem, z0, z1, z2]) rfl ⟨RM.bad C.out.symm (by rw [L.out.1]; rfl) L.out.1 L.out.2, ((B1.out.setCell (by show _ ≤ _; simp; omega) _).setCell (by show _ ≤ _; simp; omega) _).setCell (by show _ ≤ _; simp; omega) _⟩
    · have C := Lib.hid (sdC_0 hf h8)
      have L := Lib.hid (sd_ok C.out)
      clear hf hf0 hf1 e1 e3
      go_enter Try.func38, Try.ntmps38
      go_wp2_with fail
      clear x0 x1 x2 y0 y1 y2
      rw [← HW.out]
      refine CM.out.mono ?_
      rw [F.out]
      rintro e w1 ⟨rfl, T1'⟩
      have T1 := Lib.hid T1'
      clear T1'
      obtain ⟨lt0, x0, x1, x2⟩ := X0.out.keep T1.out
      obtain ⟨lt1, y0, y1, y2⟩ := X1.out.keep T1.out
      go_wp2_with fail
      clear x0 x1 x2 y0 y1 y2
      refine (plusM_any n0 n1 xs0 ys0 xs1 ys1 _ _ _ _ _ _ _ _ _ hn0 hn8 e2 e4 Y6.out Y6'.out (H0.out.keep T1.out (Nat.le_refl _)) (H0'.out.keep T1.out (Nat.le_refl _)) (H1.out.keep T1.out (Nat.le_refl _)) (H1'.out.keep T1.out (Nat.le_refl _))).mono ?_
      rintro e w3 ⟨v3, rfl, ho, hb⟩
      obtain ⟨a3, k3, b3, j3, rfl⟩ := ho.form
      have T3 := Lib.hid (T1.out.trans (hb.mono T1.out.size))
      have B3 := Lib.hid (HB.out.trans (T3.out.mono HB.out.size))
      have O3 := Lib.hid ho
      have hs1 : W.heap.size ≤ w1.heap.size := T1.out.size
      obtain ⟨lt2, z0, z1, z2, z3, z4, z5⟩ := (Z.out.keep T3.out).all
      clear ho hb
      go_wp2
      exact bodyPost_ret (v := .tuple #[.agg #[.int .i64 (smTo xs0 xs1 n0 xs1.length).length, .slice a3 (smTo xs0 xs1 n0 xs1.length).length k3, .slice b3 (tab ys0.length (smF n0 ys0 ys1)).length j3], .int .i64 0]) (by simp [results, Try.results38, go_sem, z0, z1, z2]) rfl ⟨RM.good C.out (by rw [L.out.1]) L.out.1 L.out.2 (O3.out.out3 (by omega)) (by omega), ((B3.out.setCell (by show _ ≤ _; simp; omega) _).setCell (by show _ ≤ _; simp; omega) _).setCell (by show _ ≤ _; simp; omega) _⟩

theorem specSumModels_v (n0 : Int) (xs0 ys0 : List Int) (n1 : Int) (xs1 ys1 : List Int) (v0 : Value) (lo0 hi0 : Nat) (v1 : Value) (lo1 hi1 : Nat) (w : World) (hl0 : xs0.length ≤ 1048576) (hm0 : ys0.length ≤ 1048576) (hl1 : xs1.length ≤ 1048576) (hm1 : ys1.length ≤ 1048576) (h0 : InM w lo0 hi0 v0 n0 xs0 ys0) (h1 : InM w lo1 hi1 v1 n1 xs1 ys1) :
    Calls Try.prog 37 #[v0, v1] w fun e w' => ∃ v, e = .returned (.tuple #[v, .int .i64 (sdC n0 xs0 ys0 n1 xs1 ys1)]) ∧ OwnM w' w.heap.size v (sdL n0 xs0 ys0 n1 xs1 ys1).length (sdL n0 xs0 ys0 n1 xs1 ys1) (sdV n0 xs0 ys0 n1 xs1 ys1) ∧ Below w.heap.size w w' := by
  obtain ⟨a, cap, b, d, rfl, hat, hat', hn, -⟩ := h0.at
  obtain ⟨a', cap', b', d', rfl, hat2, hat2', -, -⟩ := h1.at
  exact (specSumModels_any n0 n1 xs0 ys0 xs1 ys1 a cap b d a' cap' b' d' w hl0 hm0 hl1 hm1 hat hat' hat2 hat2' hn).mono fun e w' ⟨⟨v, e1, o⟩, b⟩ => ⟨v, e1, o, b⟩
theorem implSumModels_v (n0 : Int) (xs0 ys0 : List Int) (n1 : Int) (xs1 ys1 : List Int) (v0 : Value) (lo0 hi0 : Nat) (v1 : Value) (lo1 hi1 : Nat) (w : World) (hl0 : xs0.length ≤ 1048576) (hm0 : ys0.length ≤ 1048576) (hl1 : xs1.length ≤ 1048576) (hm1 : ys1.length ≤ 1048576) (h0 : InM w lo0 hi0 v0 n0 xs0 ys0) (h1 : InM w lo1 hi1 v1 n1 xs1 ys1) :
    Calls Try.prog 38 #[v0, v1] w fun e w' => ∃ v, e = .returned (.tuple #[v, .int .i64 (sdC n0 xs0 ys0 n1 xs1 ys1)]) ∧ OwnM w' w.heap.size v (sdL n0 xs0 ys0 n1 xs1 ys1).length (sdL n0 xs0 ys0 n1 xs1 ys1) (sdV n0 xs0 ys0 n1 xs1 ys1) ∧ Below w.heap.size w w' := by
  obtain ⟨a, cap, b, d, rfl, hat, hat', hn, -⟩ := h0.at
  obtain ⟨a', cap', b', d', rfl, hat2, hat2', -, -⟩ := h1.at
  exact (implSumModels_any n0 n1 xs0 ys0 xs1 ys1 a cap b d a' cap' b' d' w hl0 hm0 hl1 hm1 hat hat' hat2 hat2').mono fun e w' ⟨⟨v, e1, o⟩, b⟩ => ⟨v, e1, o, b⟩

end Go.Proofs.Ythopleeehbkjaaa
