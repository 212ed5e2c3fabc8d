/- Contracts of IsSimulation and IsBisimulation of the model and of the program, told by values. Conditions: those in the theorems. -/
import Derived.Test.YthopleeehbkjaaaJn19
namespace Go.Proofs.Ythopleeehbkjaaa
open Go.RowKit

theorem own_mem {w : World} {lo hi : Nat} {v : Value} {xs : List Int} (h : OwnIn w lo hi v xs) : ∃ a c, v = .slice a xs.length c ∧ At w a xs.length xs := by
  obtain ⟨a, c, e, hat, -⟩ := Own.at h.1
  exact ⟨a, c, e, hat⟩

set_option maxHeartbeats 2000000 in
theorem specIsSimulation_v (n0 : Int) (xs ys : List Int) (n1 : Int) (ps zs ls : List Int) (v0 : Value) (lo0 hi0 : Nat) (v1 : Value) (lo1 hi1 : Nat) (v2 : Value) (lo2 hi2 : Nat) (w : World) (hl0 : xs.length ≤ 1048576) (hm0 : ys.length ≤ 1048576) (hl1 : ps.length ≤ 1048576) (hm1 : zs.length ≤ 1048576) (hll : ls.length ≤ 1048576) (h0 : InM w lo0 hi0 v0 n0 xs ys) (h1 : InM w lo1 hi1 v1 n1 ps zs) (h2 : OwnIn w lo2 hi2 v2 ls) :
    Calls Try.prog 16 #[v0, v1, v2] w fun e w' => e = .returned (.tuple #[.bool (siB false n0 xs ys n1 ps zs ls), .int .i64 (lkC n0 xs ys n1 ps zs ls)]) ∧ Below w.heap.size w w' := by
  obtain ⟨a0, c0, b0, d0, rfl, hat0, hat0', -⟩ := h0.at
  obtain ⟨a1, c1, b1, d1, rfl, hat1, hat1', -⟩ := h1.at
  obtain ⟨al, cl, rfl, hatl⟩ := own_mem h2
  obtain ⟨W, hW, HB, X0, X1, hWs⟩ := boxTw w n0 a0 xs.length c0 b0 ys.length d0 n1 a1 ps.length c1 b1 zs.length d1
  have H0 := Lib.hid (hat0.keep HB.out (Nat.le_refl _))
  have H0' := Lib.hid (hat0'.keep HB.out (Nat.le_refl _))
  have H1 := Lib.hid (hat1.keep HB.out (Nat.le_refl _))
  have H1' := Lib.hid (hat1'.keep HB.out (Nat.le_refl _))
  have HL := Lib.hid (hatl.keep HB.out (Nat.le_refl _))
  have HW := Lib.hid hW
  clear h0 h1 h2 hat0 hat0' hat1 hat1' hatl hW hWs
  obtain ⟨lt0, x0, x1, x2⟩ := X0.out
  obtain ⟨lt1, y0, y1, y2⟩ := X1.out
  have C2 := Lib.hid (l07Two_any n0 n1 xs ys ps zs a0 _ c0 b0 _ d0 a1 _ c1 b1 _ d1 W hl0 hm0 hl1 hm1 H0.out H0'.out H1.out H1'.out)
  cases hf : (isM n0 xs ys && isM n1 ps zs)
  · have F := Lib.hid (show m2C n0 xs ys n1 ps zs = 1 by rw [m2C, hf]; rfl)
    have R := Lib.hid (si_bad (b := false) (n0 := n0) (n1 := n1) (xs := xs) (ys := ys) (ps := ps) (zs := zs) (ls := ls) (by rw [hf]; rfl))
    clear hf
    go_enter Try.func16, Try.ntmps16
    go_wp2_with fail
    rw [← HW.out]
    refine C2.out.mono ?_
    rw [F.out]
    rintro e w1 ⟨rfl, hb⟩
    have B1 := Lib.hid (HB.out.trans (hb.mono HB.out.size))
    clear hb x0 x1 x2 y0 y1 y2
    go_wp2
    go_ret2
    exact ⟨R.out, B1.out⟩
  · have F := Lib.hid (show m2C n0 xs ys n1 ps zs = 0 by rw [m2C, hf]; rfl)
    have hff := hf
    rw [Bool.and_eq_true] at hff
    obtain ⟨hf0, hf1⟩ := hff
    have hn1 : 0 ≤ n1 ∧ n1 ≤ 30 := by obtain ⟨-, e, e8, -⟩ := isM_ok hf1; omega
    obtain ⟨hn10, hn11⟩ := hn1
    cases hk : lnkB n0 n1 ls
    · have K := Lib.hid hk
      have R := Lib.hid (si_bad (b := false) (n0 := n0) (n1 := n1) (xs := xs) (ys := ys) (ps := ps) (zs := zs) (ls := ls) (by rw [hk, Bool.and_false]))
      clear hf hf0 hf1 hk
      go_enter Try.func16, Try.ntmps16
      go_wp2_with fail
      rw [← HW.out]
      refine C2.out.mono ?_
      rw [F.out]
      rintro e w1 ⟨rfl, hb⟩
      have B1 := Lib.hid (HB.out.trans (hb.mono HB.out.size))
      have L1 := Lib.hid (HL.out.keep hb (Nat.le_refl _))
      clear x0 x1 x2 y0 y1 y2
      obtain ⟨lt0, x0, x1, x2⟩ := X0.out.keep hb
      obtain ⟨lt1, y0, y1, y2⟩ := X1.out.keep hb
      clear hb
      go_wp2_with fail
      clear x0 x1 x2 y0 y1 y2
      refine (l07Link_any n0 n1 ls _ _ _ _ _ _ _ _ _ _ _ _ _ _ _ hn10 hn11 hll L1.out).mono ?_
      rw [K.out]
      rintro e w2 ⟨rfl, hb⟩
      have B2 := Lib.hid (B1.out.trans (hb.mono B1.out.size))
      clear hb
      go_wp2
      go_ret2
      exact ⟨R.out, B2.out⟩
    · have K := Lib.hid hk
      have hk2 := hk
      unfold lnkB at hk2
      rw [Bool.and_eq_true, decide_eq_true_eq] at hk2
      have R := Lib.hid (fun z hz => si_ok (b := false) (n0 := n0) (n1 := n1) (xs := xs) (ys := ys) (ps := ps) (zs := zs) (ls := ls) (z := z) (by rw [hf, hk]; rfl) hz)
      have hx8 : xs.length ≤ 8 ∧ ls.length = xs.length := by obtain ⟨-, e, e8, -⟩ := isM_ok hf0; omega
      obtain ⟨hx8, hlx⟩ := hx8
      have hls8 : ls.length ≤ 8 := by omega
      have LX := Lib.hid hlx
      have MM := Lib.hid (And.intro hf0 hf1)
      clear hf hf0 hf1 hk hk2 hlx
      go_enter Try.func16, Try.ntmps16
      go_wp2_with fail
      rw [← HW.out]
      refine C2.out.mono ?_
      rw [F.out]
      rintro e w1 ⟨rfl, hb⟩
      have T1 := Lib.hid hb
      have L1 := Lib.hid (HL.out.keep hb (Nat.le_refl _))
      clear x0 x1 x2 y0 y1 y2
      obtain ⟨lt0, x0, x1, x2⟩ := X0.out.keep hb
      obtain ⟨lt1, y0, y1, y2⟩ := X1.out.keep hb
      clear hb
      go_wp2_with fail
      clear x0 x1 x2 y0 y1 y2
      refine (l07Link_any n0 n1 ls _ _ _ _ _ _ _ _ _ _ _ _ _ _ _ hn10 hn11 hll L1.out).mono ?_
      rw [K.out]
      rintro e w2 ⟨rfl, hb⟩
      have T2 := Lib.hid (T1.out.trans (hb.mono T1.out.size))
      obtain ⟨lt0, x0, x1, x2⟩ := X0.out.keep T2.out
      obtain ⟨lt1, y0, y1, y2⟩ := X1.out.keep T2.out
      clear hb
      go_wp2_with fail
      clear x0 x1 x2 y0 y1 y2
      refine (l07Below_any n0 n1 xs ys ps zs ls _ _ _ _ _ _ _ _ _ _ _ (Mo.of MM.out.1 (H0.out.keep T2.out (Nat.le_refl _)) (H0'.out.keep T2.out (Nat.le_refl _))) (Mo.of MM.out.2 (H1.out.keep T2.out (Nat.le_refl _)) (H1'.out.keep T2.out (Nat.le_refl _))) (HL.out.keep T2.out (Nat.le_refl _)) hls8).mono ?_
      rintro e w3 ⟨v3, rfl, ho, hb⟩
      obtain ⟨a3, k3, rfl, hat, -, -, -⟩ := ho.at
      have T3 := Lib.hid (T2.out.trans (hb.mono T2.out.size))
      have A3 := Lib.hid hat
      have hle : ls.length ≤ (tab xs.length (belV xs ys ps zs ls)).length := by rw [tab_len, LX.out]; exact Nat.le_refl _
      clear ho hb hat
      go_wp2_with fail
      refine (l07Inside_any ls _ _ _ _ _ _ _ _ hll hle (HL.out.keep T3.out (Nat.le_refl _)) A3.out).mono ?_
      rintro e w4 ⟨rfl, q, rfl⟩
      clear hle
      go_wp2
      go_ret2
      exact ⟨R.out _ rfl, below_drewN (HB.out.trans (T3.out.mono HB.out.size)) q⟩


set_option maxHeartbeats 2000000 in
theorem specIsBisimulation_v (n0 : Int) (xs ys : List Int) (n1 : Int) (ps zs ls : List Int) (v0 : Value) (lo0 hi0 : Nat) (v1 : Value) (lo1 hi1 : Nat) (v2 : Value) (lo2 hi2 : Nat) (w : World) (hl0 : xs.length ≤ 1048576) (hm0 : ys.length ≤ 1048576) (hl1 : ps.length ≤ 1048576) (hm1 : zs.length ≤ 1048576) (hll : ls.length ≤ 1048576) (h0 : InM w lo0 hi0 v0 n0 xs ys) (h1 : InM w lo1 hi1 v1 n1 ps zs) (h2 : OwnIn w lo2 hi2 v2 ls) :
    Calls Try.prog 22 #[v0, v1, v2] w fun e w' => e = .returned (.tuple #[.bool (siB true n0 xs ys n1 ps zs ls), .int .i64 (lkC n0 xs ys n1 ps zs ls)]) ∧ Below w.heap.size w w' := by
  obtain ⟨a0, c0, b0, d0, rfl, hat0, hat0', -⟩ := h0.at
  obtain ⟨a1, c1, b1, d1, rfl, hat1, hat1', -⟩ := h1.at
  obtain ⟨al, cl, rfl, hatl⟩ := own_mem h2
  obtain ⟨W, hW, HB, X0, X1, hWs⟩ := boxTw w n0 a0 xs.length c0 b0 ys.length d0 n1 a1 ps.length c1 b1 zs.length d1
  have H0 := Lib.hid (hat0.keep HB.out (Nat.le_refl _))
  have H0' := Lib.hid (hat0'.keep HB.out (Nat.le_refl _))
  have H1 := Lib.hid (hat1.keep HB.out (Nat.le_refl _))
  have H1' := Lib.hid (hat1'.keep HB.out (Nat.le_refl _))
  have HL := Lib.hid (hatl.keep HB.out (Nat.le_refl _))
  have HW := Lib.hid hW
  clear h0 h1 h2 hat0 hat0' hat1 hat1' hatl hW hWs
  obtain ⟨lt0, x0, x1, x2⟩ := X0.out
  obtain ⟨lt1, y0, y1, y2⟩ := X1.out
  have C2 := Lib.hid (l07Two_any n0 n1 xs ys ps zs a0 _ c0 b0 _ d0 a1 _ c1 b1 _ d1 W hl0 hm0 hl1 hm1 H0.out H0'.out H1.out H1'.out)
  cases hf : (isM n0 xs ys && isM n1 ps zs)
  · have F := Lib.hid (show m2C n0 xs ys n1 ps zs = 1 by rw [m2C, hf]; rfl)
    have R := Lib.hid (si_bad (b := true) (n0 := n0) (n1 := n1) (xs := xs) (ys := ys) (ps := ps) (zs := zs) (ls := ls) (by rw [hf]; rfl))
    clear hf
    go_enter Try.func22, Try.ntmps22
    go_wp2_with fail
    rw [← HW.out]
    refine C2.out.mono ?_
    rw [F.out]
    rintro e w1 ⟨rfl, hb⟩
    have B1 := Lib.hid (HB.out.trans (hb.mono HB.out.size))
    clear hb x0 x1 x2 y0 y1 y2
    go_wp2
    go_ret2
    exact ⟨R.out, B1.out⟩
  · have F := Lib.hid (show m2C n0 xs ys n1 ps zs = 0 by rw [m2C, hf]; rfl)
    have hff := hf
    rw [Bool.and_eq_true] at hff
    obtain ⟨hf0, hf1⟩ := hff
    have hn1 : 0 ≤ n1 ∧ n1 ≤ 30 := by obtain ⟨-, e, e8, -⟩ := isM_ok hf1; omega
    obtain ⟨hn10, hn11⟩ := hn1
    cases hk : lnkB n0 n1 ls
    · have K := Lib.hid hk
      have R := Lib.hid (si_bad (b := true) (n0 := n0) (n1 := n1) (xs := xs) (ys := ys) (ps := ps) (zs := zs) (ls := ls) (by rw [hk, Bool.and_false]))
      clear hf hf0 hf1 hk
      go_enter Try.func22, Try.ntmps22
      go_wp2_with fail
      rw [← HW.out]
      refine C2.out.mono ?_
      rw [F.out]
      rintro e w1 ⟨rfl, hb⟩
      have B1 := Lib.hid (HB.out.trans (hb.mono HB.out.size))
      have L1 := Lib.hid (HL.out.keep hb (Nat.le_refl _))
      clear x0 x1 x2 y0 y1 y2
      obtain ⟨lt0, x0, x1, x2⟩ := X0.out.keep hb
      obtain ⟨lt1, y0, y1, y2⟩ := X1.out.keep hb
      clear hb
      go_wp2_with fail
      clear x0 x1 x2 y0 y1 y2
      refine (l07Link_any n0 n1 ls _ _ _ _ _ _ _ _ _ _ _ _ _ _ _ hn10 hn11 hll L1.out).mono ?_
      rw [K.out]
      rintro e w2 ⟨rfl, hb⟩
      have B2 := Lib.hid (B1.out.trans (hb.mono B1.out.size))
      clear hb
      go_wp2
      go_ret2
      exact ⟨R.out, B2.out⟩
    · have K := Lib.hid hk
      have hk2 := hk
      unfold lnkB at hk2
      rw [Bool.and_eq_true, decide_eq_true_eq] at hk2
      have R := Lib.hid (fun z hz => si_ok (b := true) (n0 := n0) (n1 := n1) (xs := xs) (ys := ys) (ps := ps) (zs := zs) (ls := ls) (z := z) (by rw [hf, hk]; rfl) hz)
      have hx8 : xs.length ≤ 8 ∧ ls.length = xs.length := by obtain ⟨-, e, e8, -⟩ := isM_ok hf0; omega
      obtain ⟨hx8, hlx⟩ := hx8
      have hls8 : ls.length ≤ 8 := by omega
      have LX := Lib.hid hlx
      have MM := Lib.hid (And.intro hf0 hf1)
      clear hf hf0 hf1 hk hk2 hlx
      go_enter Try.func22, Try.ntmps22
      go_wp2_with fail
      rw [← HW.out]
      refine C2.out.mono ?_
      rw [F.out]
      rintro e w1 ⟨rfl, hb⟩
      have T1 := Lib.hid hb
      have L1 := Lib.hid (HL.out.keep hb (Nat.le_refl _))
      clear x0 x1 x2 y0 y1 y2
      obtain ⟨lt0, x0, x1, x2⟩ := X0.out.keep hb
      obtain ⟨lt1, y0, y1, y2⟩ := X1.out.keep hb
      clear hb
      go_wp2_with fail
      clear x0 x1 x2 y0 y1 y2
      refine (l07Link_any n0 n1 ls _ _ _ _ _ _ _ _ _ _ _ _ _ _ _ hn10 hn11 hll L1.out).mono ?_
      rw [K.out]
      rintro e w2 ⟨rfl, hb⟩
      have T2 := Lib.hid (T1.out.trans (hb.mono T1.out.size))
      obtain ⟨lt0, x0, x1, x2⟩ := X0.out.keep T2.out
      obtain ⟨lt1, y0, y1, y2⟩ := X1.out.keep T2.out
      clear hb
      go_wp2_with fail
      clear x0 x1 x2 y0 y1 y2
      refine (l07Step_any n0 n1 xs ys ps zs ls _ _ _ _ _ _ _ _ _ _ _ (Mo.of MM.out.1 (H0.out.keep T2.out (Nat.le_refl _)) (H0'.out.keep T2.out (Nat.le_refl _))) (Mo.of MM.out.2 (H1.out.keep T2.out (Nat.le_refl _)) (H1'.out.keep T2.out (Nat.le_refl _))) (HL.out.keep T2.out (Nat.le_refl _)) hls8).mono ?_
      rintro e w3 ⟨v3, rfl, ho, hb⟩
      obtain ⟨a3, k3, rfl, hat, -, -, -⟩ := ho.at
      have T3 := Lib.hid (T2.out.trans (hb.mono T2.out.size))
      have A3 := Lib.hid hat
      have hle : ls.length ≤ (tab xs.length (stV xs ys ps zs ls)).length := by rw [tab_len, LX.out]; exact Nat.le_refl _
      clear ho hb hat
      go_wp2_with fail
      refine (l07Inside_any ls _ _ _ _ _ _ _ _ hll hle (HL.out.keep T3.out (Nat.le_refl _)) A3.out).mono ?_
      rintro e w4 ⟨rfl, q, rfl⟩
      clear hle
      go_wp2
      go_ret2
      exact ⟨R.out _ rfl, below_drewN (HB.out.trans (T3.out.mono HB.out.size)) q⟩


set_option maxHeartbeats 2000000 in
theorem implIsSimulation_v (n0 : Int) (xs ys : List Int) (n1 : Int) (ps zs ls : List Int) (v0 : Value) (lo0 hi0 : Nat) (v1 : Value) (lo1 hi1 : Nat) (v2 : Value) (lo2 hi2 : Nat) (w : World) (hl0 : xs.length ≤ 1048576) (hm0 : ys.length ≤ 1048576) (hl1 : ps.length ≤ 1048576) (hm1 : zs.length ≤ 1048576) (hll : ls.length ≤ 1048576) (h0 : InM w lo0 hi0 v0 n0 xs ys) (h1 : InM w lo1 hi1 v1 n1 ps zs) (h2 : OwnIn w lo2 hi2 v2 ls) :
    Calls Try.prog 19 #[v0, v1, v2] w fun e w' => e = .returned (.tuple #[.bool (siB false n0 xs ys n1 ps zs ls), .int .i64 (lkC n0 xs ys n1 ps zs ls)]) ∧ Below w.heap.size w w' := by
  obtain ⟨a0, c0, b0, d0, rfl, hat0, hat0', -⟩ := h0.at
  obtain ⟨a1, c1, b1, d1, rfl, hat1, hat1', -⟩ := h1.at
  obtain ⟨al, cl, rfl, hatl⟩ := own_mem h2
  obtain ⟨W, hW, HB, X0, X1, hWs⟩ := boxTw w n0 a0 xs.length c0 b0 ys.length d0 n1 a1 ps.length c1 b1 zs.length d1
  have H0 := Lib.hid (hat0.keep HB.out (Nat.le_refl _))
  have H0' := Lib.hid (hat0'.keep HB.out (Nat.le_refl _))
  have H1 := Lib.hid (hat1.keep HB.out (Nat.le_refl _))
  have H1' := Lib.hid (hat1'.keep HB.out (Nat.le_refl _))
  have HL := Lib.hid (hatl.keep HB.out (Nat.le_refl _))
  have HW := Lib.hid hW
  clear h0 h1 h2 hat0 hat0' hat1 hat1' hatl hW hWs
  obtain ⟨lt0, x0, x1, x2⟩ := X0.out
  obtain ⟨lt1, y0, y1, y2⟩ := X1.out
  have C2 := Lib.hid (checkLink_any n0 n1 xs ys ps zs ls a0 _ c0 b0 _ d0 a1 _ c1 b1 _ d1 al cl W hl0 hm0 hl1 hm1 hll H0.out H0'.out H1.out H1'.out HL.out)
  cases hf : (isM n0 xs ys && isM n1 ps zs && lnkB n0 n1 ls)
  · have F := Lib.hid (show lkC n0 xs ys n1 ps zs ls = 1 by rw [lkC_of, hf]; rfl)
    have R := Lib.hid (si_bad (b := false) hf)
    clear hf
    go_enter Try.func19, Try.ntmps19
    go_wp2_with fail
    rw [← HW.out]
    refine C2.out.mono ?_
    rw [F.out]
    rintro e w1 ⟨rfl, hb⟩
    have B1 := Lib.hid (HB.out.trans (hb.mono HB.out.size))
    clear hb x0 x1 x2 y0 y1 y2
    go_wp2
    go_ret2
    exact ⟨R.out, B1.out⟩
  · have F := Lib.hid (show lkC n0 xs ys n1 ps zs ls = 0 by rw [lkC_of, hf]; rfl)
    have hff := hf
    rw [Bool.and_eq_true, Bool.and_eq_true] at hff
    obtain ⟨⟨hf0, hf1⟩, hk⟩ := hff
    have hk2 := hk
    unfold lnkB at hk2
    rw [Bool.and_eq_true, decide_eq_true_eq] at hk2
    have R := Lib.hid (fun z hz => si_ok (b := false) (z := z) hf hz)
    have LK := Lib.hid (Mo.lk hf0 hf1 hk2.1 hk2.2)
    have hx8 : xs.length ≤ 8 ∧ ls.length = xs.length := by obtain ⟨-, e, e8, -⟩ := isM_ok hf0; omega
    obtain ⟨hx8, hlx⟩ := hx8
    have LX := Lib.hid hlx
    have hpp : n1 = ps.length ∧ ps.length ≤ 8 := by obtain ⟨-, e, e8, -⟩ := isM_ok hf1; exact ⟨e, e8⟩
    obtain ⟨hpn, hp8⟩ := hpp
    have PN := Lib.hid hpn
    have hls8 : ls.length ≤ 8 := by omega
    have MM := Lib.hid (And.intro hf0 hf1)
    clear hf hf0 hf1 hk hk2 hlx hpn
    go_enter Try.func19, Try.ntmps19
    go_wp2_with fail
    rw [← HW.out]
    refine C2.out.mono ?_
    rw [F.out]
    rintro e w1 ⟨rfl, hb⟩
    have T1 := Lib.hid hb
    clear x0 x1 x2 y0 y1 y2
    obtain ⟨lt0, x0, x1, x2⟩ := X0.out.keep hb
    obtain ⟨lt1, y0, y1, y2⟩ := X1.out.keep hb
    clear hb
    go_wp2_with fail
    clear x0 x1 x2 y0 y1 y2
    refine (isSimulation_any n0 n1 xs ys ps zs ls _ _ _ _ _ _ _ _ _ _ _ (Mo.of MM.out.1 (H0.out.keep T1.out (Nat.le_refl _)) (H0'.out.keep T1.out (Nat.le_refl _))) (Mo.of MM.out.2 (H1.out.keep T1.out (Nat.le_refl _)) (H1'.out.keep T1.out (Nat.le_refl _))) (HL.out.keep T1.out (Nat.le_refl _)) LX.out).mono ?_
    rintro e w2 ⟨rfl, hb⟩
    have T2 := Lib.hid (T1.out.trans (hb.mono T1.out.size))
    clear hb
    go_wp2
    go_ret2
    exact ⟨R.out _ (by rw [LK.out.test, LX.out]; rfl), HB.out.trans (T2.out.mono HB.out.size)⟩


set_option maxHeartbeats 2000000 in
theorem implIsBisimulation_v (n0 : Int) (xs ys : List Int) (n1 : Int) (ps zs ls : List Int) (v0 : Value) (lo0 hi0 : Nat) (v1 : Value) (lo1 hi1 : Nat) (v2 : Value) (lo2 hi2 : Nat) (w : World) (hl0 : xs.length ≤ 1048576) (hm0 : ys.length ≤ 1048576) (hl1 : ps.length ≤ 1048576) (hm1 : zs.length ≤ 1048576) (hll : ls.length ≤ 1048576) (h0 : InM w lo0 hi0 v0 n0 xs ys) (h1 : InM w lo1 hi1 v1 n1 ps zs) (h2 : OwnIn w lo2 hi2 v2 ls) :
    Calls Try.prog 23 #[v0, v1, v2] w fun e w' => e = .returned (.tuple #[.bool (siB true n0 xs ys n1 ps zs ls), .int .i64 (lkC n0 xs ys n1 ps zs ls)]) ∧ Below w.heap.size w w' := by
  obtain ⟨a0, c0, b0, d0, rfl, hat0, hat0', -⟩ := h0.at
  obtain ⟨a1, c1, b1, d1, rfl, hat1, hat1', -⟩ := h1.at
  obtain ⟨al, cl, rfl, hatl⟩ := own_mem h2
  obtain ⟨W, hW, HB, X0, X1, hWs⟩ := boxTw w n0 a0 xs.length c0 b0 ys.length d0 n1 a1 ps.length c1 b1 zs.length d1
  have H0 := Lib.hid (hat0.keep HB.out (Nat.le_refl _))
  have H0' := Lib.hid (hat0'.keep HB.out (Nat.le_refl _))
  have H1 := Lib.hid (hat1.keep HB.out (Nat.le_refl _))
  have H1' := Lib.hid (hat1'.keep HB.out (Nat.le_refl _))
  have HL := Lib.hid (hatl.keep HB.out (Nat.le_refl _))
  have HW := Lib.hid hW
  clear h0 h1 h2 hat0 hat0' hat1 hat1' hatl hW hWs
  obtain ⟨lt0, x0, x1, x2⟩ := X0.out
  obtain ⟨lt1, y0, y1, y2⟩ := X1.out
  have C2 := Lib.hid (checkLink_any n0 n1 xs ys ps zs ls a0 _ c0 b0 _ d0 a1 _ c1 b1 _ d1 al cl W hl0 hm0 hl1 hm1 hll H0.out H0'.out H1.out H1'.out HL.out)
  cases hf : (isM n0 xs ys && isM n1 ps zs && lnkB n0 n1 ls)
  · have F := Lib.hid (show lkC n0 xs ys n1 ps zs ls = 1 by rw [lkC_of, hf]; rfl)
    have R := Lib.hid (si_bad (b := true) hf)
    clear hf
    go_enter Try.func23, Try.ntmps23
    go_wp2_with fail
    rw [← HW.out]
    refine C2.out.mono ?_
    rw [F.out]
    rintro e w1 ⟨rfl, hb⟩
    have B1 := Lib.hid (HB.out.trans (hb.mono HB.out.size))
    clear hb x0 x1 x2 y0 y1 y2
    go_wp2
    go_ret2
    exact ⟨R.out, B1.out⟩
  · have F := Lib.hid (show lkC n0 xs ys n1 ps zs ls = 0 by rw [lkC_of, hf]; rfl)
    have hff := hf
    rw [Bool.and_eq_true, Bool.and_eq_true] at hff
    obtain ⟨⟨hf0, hf1⟩, hk⟩ := hff
    have hk2 := hk
    unfold lnkB at hk2
    rw [Bool.and_eq_true, decide_eq_true_eq] at hk2
    have R := Lib.hid (fun z hz => si_ok (b := true) (z := z) hf hz)
    have LK := Lib.hid (Mo.lk hf0 hf1 hk2.1 hk2.2)
    have hx8 : xs.length ≤ 8 ∧ ls.length = xs.length := by obtain ⟨-, e, e8, -⟩ := isM_ok hf0; omega
    obtain ⟨hx8, hlx⟩ := hx8
    have LX := Lib.hid hlx
    have hpp : n1 = ps.length ∧ ps.length ≤ 8 := by obtain ⟨-, e, e8, -⟩ := isM_ok hf1; exact ⟨e, e8⟩
    obtain ⟨hpn, hp8⟩ := hpp
    have PN := Lib.hid hpn
    have hls8 : ls.length ≤ 8 := by omega
    have MM := Lib.hid (And.intro hf0 hf1)
    clear hf hf0 hf1 hk hk2 hlx hpn
    go_enter Try.func23, Try.ntmps23
    go_wp2_with fail
    rw [← HW.out]
    refine C2.out.mono ?_
    rw [F.out]
    rintro e w1 ⟨rfl, hb⟩
    have T1 := Lib.hid hb
    clear x0 x1 x2 y0 y1 y2
    obtain ⟨lt0, x0, x1, x2⟩ := X0.out.keep hb
    obtain ⟨lt1, y0, y1, y2⟩ := X1.out.keep hb
    clear hb
    go_wp2_with fail
    clear x0 x1 x2 y0 y1 y2
    rw [PN.out]
    refine (inverseOf_any ls _ _ _ ps.length _ (by omega) (by omega) (HL.out.keep T1.out (Nat.le_refl _))).mono ?_
    rintro e w2 ⟨v2, rfl, ho, hb⟩
    have T2 := Lib.hid (T1.out.trans (hb.mono T1.out.size))
    have O2 := Lib.hid (show Own w2 w1.heap.size v2 (backL ls ps.length) from ho)
    obtain ⟨a2, k2, e2, hat2, -, -, -⟩ := O2.out.at
    subst e2
    have A2 := Lib.hid hat2
    have BL := Lib.hid (backL_len ls ps.length)
    clear ho hb hat2 O2
    obtain ⟨lt0, x0, x1, x2⟩ := X0.out.keep T2.out
    obtain ⟨lt1, y0, y1, y2⟩ := X1.out.keep T2.out
    obtain ⟨s1, hs1⟩ : ∃ s, s = decide (simL xs ys ps zs ls = ls) := ⟨_, rfl⟩
    obtain ⟨s2, hs2⟩ : ∃ s, s = decide (simL ps zs xs ys (backL ls ps.length) = backL ls ps.length) := ⟨_, rfl⟩
    have E := Lib.hid (show (s1 && s2) = insB ls (tab xs.length (stV xs ys ps zs ls)) ls.length by rw [hs1, hs2]; exact LK.out.bis)
    have S1 := Lib.hid hs1
    have S2 := Lib.hid hs2
    clear hs1 hs2
    go_wp2_with fail
    clear x0 x1 x2 y0 y1 y2
    refine (isSimulation_any n0 n1 xs ys ps zs ls _ _ _ _ _ _ _ _ _ _ _ (Mo.of MM.out.1 (H0.out.keep T2.out (Nat.le_refl _)) (H0'.out.keep T2.out (Nat.le_refl _))) (Mo.of MM.out.2 (H1.out.keep T2.out (Nat.le_refl _)) (H1'.out.keep T2.out (Nat.le_refl _))) (HL.out.keep T2.out (Nat.le_refl _)) LX.out).mono ?_
    rw [← S1.out]
    rintro e w3 ⟨rfl, hb⟩
    have T3 := Lib.hid (T2.out.trans (hb.mono T2.out.size))
    have A3 := Lib.hid (A2.out.keep hb (Nat.le_refl _))
    obtain ⟨lt0, x0, x1, x2⟩ := X0.out.keep T3.out
    obtain ⟨lt1, y0, y1, y2⟩ := X1.out.keep T3.out
    clear hb
    cases s1
    · go_wp2
      go_ret2
      exact ⟨R.out _ (by rw [← E.out]; rfl), HB.out.trans (T3.out.mono HB.out.size)⟩
    · go_wp2_with fail
      clear x0 x1 x2 y0 y1 y2
      refine (isSimulation_any n1 n0 ps zs xs ys (backL ls ps.length) _ _ _ _ _ _ _ _ _ _ _ (Mo.of MM.out.2 (H1.out.keep T3.out (Nat.le_refl _)) (H1'.out.keep T3.out (Nat.le_refl _))) (Mo.of MM.out.1 (H0.out.keep T3.out (Nat.le_refl _)) (H0'.out.keep T3.out (Nat.le_refl _))) A3.out BL.out).mono ?_
      rw [← S2.out]
      rintro e w4 ⟨rfl, hb⟩
      have T4 := Lib.hid (T3.out.trans (hb.mono T3.out.size))
      clear hb
      go_wp2
      go_ret2
      exact ⟨R.out _ (by rw [← E.out]; rfl), HB.out.trans (T4.out.mono HB.out.size)⟩


end Go.Proofs.Ythopleeehbkjaaa
