/- Contracts of PullValues of the model and of the program, at all arguments. Conditions: those in the theorems. -/
import Derived.Test.YtomldealpmohhaaPvV
namespace Go.Proofs.Ytomldealpmohhaa
open Go.RowKit


set_option maxHeartbeats 4000000 in
set_option maxRecDepth 100000 in
theorem specPullValues_v (n0 : Int) (xs : List Int) (n1 : Int) (ps ls ys : List Int) (v0 : Value) (lo0 hi0 : Nat) (v1 : Value) (lo1 hi1 : Nat) (v2 : Value) (lo2 hi2 : Nat) (v3 : Value) (lo3 hi3 : Nat) (w : World) (hl0 : xs.length ≤ 1048576) (hl1 : ps.length ≤ 1048576) (hl2 : ls.length ≤ 1048576) (hl3 : ys.length ≤ 1048576) (h0 : InF w lo0 hi0 v0 n0 xs) (h1 : InF w lo1 hi1 v1 n1 ps) (h2 : OwnIn w lo2 hi2 v2 ls) (h3 : OwnIn w lo3 hi3 v3 ys) :
    Calls Try.prog 39 #[v0, v1, v2, v3] w fun e w' => ∃ v, e = .returned (.tuple #[v, .int .i64 (pvC n0 xs n1 ps ls ys)]) ∧ Own w' w.heap.size v (pvL n0 xs n1 ps ls ys) ∧ Below w.heap.size w w' := by
  suffices q : Calls Try.prog 39 #[v0, v1, v2, v3] w (fun e w' => RL w' w.heap.size (pvC n0 xs n1 ps ls ys) (pvL n0 xs n1 ps ls ys) e ∧ Below w.heap.size w w') from q.mono fun e w' ⟨⟨v, e1, o⟩, b⟩ => ⟨v, e1, o, b⟩
  obtain ⟨a0, c0, rfl, hat0, -⟩ := h0.at
  obtain ⟨a1, c1, rfl, hat1, -⟩ := h1.at
  obtain ⟨a2, c2, rfl, hat2⟩ := own_lst h2
  obtain ⟨a3, c3, rfl, hat3⟩ := own_lst h3
  obtain ⟨W, hW, HB, X0, X1, hWs⟩ := boxTf w n0 a0 xs.length c0 n1 a1 ps.length c1
  have H0 := Lib.hid (hat0.keep HB.out (Nat.le_refl _))
  have H1 := Lib.hid (hat1.keep HB.out (Nat.le_refl _))
  have H2 := Lib.hid (hat2.keep HB.out (Nat.le_refl _))
  have H3 := Lib.hid (hat3.keep HB.out (Nat.le_refl _))
  have HW := Lib.hid hW
  clear h0 h1 h2 h3 hat0 hat1 hat2 hat3 hW hWs
  obtain ⟨lt0, x0, y0⟩ := X0.out
  obtain ⟨lt1, x1, y1⟩ := X1.out
  cases k1 : imK n0 xs n1 ps ls
  · have F1 := Lib.hid (show imC n0 xs n1 ps ls = 1 by rw [imC, k1]; rfl)
    have C := Lib.hid (pv_bad (show pvK n0 xs n1 ps ls ys = false by rw [pvK, k1]; rfl) (ys := ys))
    clear k1
    go_enter Try.func39, Try.ntmps39
    go_wp2_with fail
    rw [← HW.out]
    refine (l08Code_any n0 n1 xs ps ls _ _ _ _ _ _ _ hl0 hl1 hl2 H0.out H1.out H2.out).mono ?_
    rw [F1.out]
    rintro e w1 ⟨rfl, hb⟩
    have T1 := Lib.hid hb
    clear hb lt0 x0 y0 lt1 x1 y1
    go_wp2
    go_ret2
    exact ⟨RL.bad C.out.1.symm C.out.2, HB.out.trans (T1.out.mono HB.out.size)⟩
  · obtain ⟨e0, e1, hmm⟩ := imK_of k1
    have M := Lib.hid hmm
    have hn10 : 0 ≤ n1 := by omega
    have hn11 : n1 ≤ 30 := by have := hmm.p8; omega
    clear e0 e1 hmm
    cases k2 : mksTo n1 ys ys.length
    · have F1 := Lib.hid (show imC n0 xs n1 ps ls = 0 by rw [imC, k1]; rfl)
      have F2 := Lib.hid k2
      have C := Lib.hid (pv_bad (show pvK n0 xs n1 ps ls ys = false by rw [pvK, k1, k2]; rfl) (ys := ys))
      clear k1 k2
      go_enter Try.func39, Try.ntmps39
      go_wp2_with fail
      rw [← HW.out]
      refine (l08Code_any n0 n1 xs ps ls _ _ _ _ _ _ _ hl0 hl1 hl2 H0.out H1.out H2.out).mono ?_
      rw [F1.out]
      rintro e w1 ⟨rfl, hb⟩
      have T1 := Lib.hid hb
      clear hb lt0 x0 y0 lt1 x1 y1
      obtain ⟨lt1, x1, y1⟩ := X1.out.keep T1.out
      go_wp2_with fail
      refine (l01Masks_any n1 ys _ _ _ _ hn10 hn11 hl3 (H3.out.keep T1.out (Nat.le_refl _))).mono ?_
      rw [F2.out]
      rintro e w2 ⟨rfl, q, rfl⟩
      clear lt1 x1 y1
      have T2 := Lib.hid (below_drewN T1.out q)
      go_wp2
      go_ret2
      exact ⟨RL.bad C.out.1.symm C.out.2, HB.out.trans (T2.out.mono HB.out.size)⟩
    · have F1 := Lib.hid (show imC n0 xs n1 ps ls = 0 by rw [imC, k1]; rfl)
      have F2 := Lib.hid k2
      have C := Lib.hid (pv_ok (show pvK n0 xs n1 ps ls ys = true by rw [pvK, k1, k2]; rfl) hl3)
      clear k1 k2
      go_enter Try.func39, Try.ntmps39
      go_wp2_with fail
      rw [← HW.out]
      refine (l08Code_any n0 n1 xs ps ls _ _ _ _ _ _ _ hl0 hl1 hl2 H0.out H1.out H2.out).mono ?_
      rw [F1.out]
      rintro e w1 ⟨rfl, hb⟩
      have T1 := Lib.hid hb
      clear hb lt0 x0 y0 lt1 x1 y1
      obtain ⟨lt1, x1, y1⟩ := X1.out.keep T1.out
      go_wp2_with fail
      refine (l01Masks_any n1 ys _ _ _ _ hn10 hn11 hl3 (H3.out.keep T1.out (Nat.le_refl _))).mono ?_
      rw [F2.out]
      rintro e w2 ⟨rfl, q, rfl⟩
      clear lt1 x1 y1
      have T2 := Lib.hid (below_drewN T1.out q)
      have PL := Lib.hid (l08Pull_any ls ys ps.length _ c2 _ c3 _ (by have := M.out.ll; have := M.out.x8; omega) (by have := M.out.p8; omega) M.out.ok hl3 (H2.out.keep T2.out (Nat.le_refl _)) (H3.out.keep T2.out (Nat.le_refl _)))
      have hs2 := T2.out.size
      have hs0 := HB.out.size
      go_wp2_with fail
      refine PL.out.mono ?_
      rintro e w3 ⟨v, rfl, ho, hb⟩
      have O := Lib.hid ho
      have T3 := Lib.hid (T2.out.trans (hb.mono T2.out.size))
      have hs3 : w.heap.size ≤ (w1.drewN q).heap.size := by omega
      clear hb ho
      go_wp2
      go_ret2
      exact ⟨RL.good C.out.1 C.out.2 O.out hs3, HB.out.trans (T3.out.mono HB.out.size)⟩


set_option maxHeartbeats 4000000 in
set_option maxRecDepth 100000 in
theorem implPullValues_v (n0 : Int) (xs : List Int) (n1 : Int) (ps ls ys : List Int) (v0 : Value) (lo0 hi0 : Nat) (v1 : Value) (lo1 hi1 : Nat) (v2 : Value) (lo2 hi2 : Nat) (v3 : Value) (lo3 hi3 : Nat) (w : World) (hl0 : xs.length ≤ 1048576) (hl1 : ps.length ≤ 1048576) (hl2 : ls.length ≤ 1048576) (hl3 : ys.length ≤ 1048576) (h0 : InF w lo0 hi0 v0 n0 xs) (h1 : InF w lo1 hi1 v1 n1 ps) (h2 : OwnIn w lo2 hi2 v2 ls) (h3 : OwnIn w lo3 hi3 v3 ys) :
    Calls Try.prog 40 #[v0, v1, v2, v3] w fun e w' => ∃ v, e = .returned (.tuple #[v, .int .i64 (pvC n0 xs n1 ps ls ys)]) ∧ Own w' w.heap.size v (pvL n0 xs n1 ps ls ys) ∧ Below w.heap.size w w' := by
  suffices q : Calls Try.prog 40 #[v0, v1, v2, v3] w (fun e w' => RL w' w.heap.size (pvC n0 xs n1 ps ls ys) (pvL n0 xs n1 ps ls ys) e ∧ Below w.heap.size w w') from q.mono fun e w' ⟨⟨v, e1, o⟩, b⟩ => ⟨v, e1, o, b⟩
  obtain ⟨a0, c0, rfl, hat0, -⟩ := h0.at
  obtain ⟨a1, c1, rfl, hat1, -⟩ := h1.at
  obtain ⟨a2, c2, rfl, hat2⟩ := own_lst h2
  obtain ⟨a3, c3, rfl, hat3⟩ := own_lst h3
  obtain ⟨W, hW, HB, X0, X1, hWs⟩ := boxTf w n0 a0 xs.length c0 n1 a1 ps.length c1
  have H0 := Lib.hid (hat0.keep HB.out (Nat.le_refl _))
  have H1 := Lib.hid (hat1.keep HB.out (Nat.le_refl _))
  have H2 := Lib.hid (hat2.keep HB.out (Nat.le_refl _))
  have H3 := Lib.hid (hat3.keep HB.out (Nat.le_refl _))
  have HW := Lib.hid hW
  clear h0 h1 h2 h3 hat0 hat1 hat2 hat3 hW hWs
  obtain ⟨lt0, x0, y0⟩ := X0.out
  obtain ⟨lt1, x1, y1⟩ := X1.out
  cases k1 : imK n0 xs n1 ps ls
  · have F1 := Lib.hid (k1)
    have C := Lib.hid (pv_bad (show pvK n0 xs n1 ps ls ys = false by rw [pvK, k1]; rfl) (ys := ys))
    clear k1
    go_enter Try.func40, Try.ntmps40
    go_wp2_with fail
    rw [← HW.out]
    refine (isMap_any n0 n1 xs ps ls _ _ _ _ _ _ _ hl0 hl1 hl2 H0.out H1.out H2.out).mono ?_
    rw [F1.out]
    rintro e w1 ⟨rfl, hb⟩
    have T1 := Lib.hid hb
    clear hb lt0 x0 y0 lt1 x1 y1
    go_wp2
    go_ret2
    exact ⟨RL.bad C.out.1.symm C.out.2, HB.out.trans (T1.out.mono HB.out.size)⟩
  · obtain ⟨e0, e1, hmm⟩ := imK_of k1
    have M := Lib.hid hmm
    have hn10 : 0 ≤ n1 := by omega
    have hn11 : n1 ≤ 30 := by have := hmm.p8; omega
    clear e0 e1 hmm
    cases k2 : mksTo n1 ys ys.length
    · have F1 := Lib.hid (k1)
      have F2 := Lib.hid k2
      have C := Lib.hid (pv_bad (show pvK n0 xs n1 ps ls ys = false by rw [pvK, k1, k2]; rfl) (ys := ys))
      clear k1 k2
      go_enter Try.func40, Try.ntmps40
      go_wp2_with fail
      rw [← HW.out]
      refine (isMap_any n0 n1 xs ps ls _ _ _ _ _ _ _ hl0 hl1 hl2 H0.out H1.out H2.out).mono ?_
      rw [F1.out]
      rintro e w1 ⟨rfl, hb⟩
      have T1 := Lib.hid hb
      clear hb lt0 x0 y0 lt1 x1 y1
      go_wp2_with fail
      refine (ctI2_any (fun j => mskB n1 (nth ys j)) ys _ _ _ _ hl3 (H3.out.keep T1.out (Nat.le_refl _)) (fun k hk W' hW' => pvl1_any _ n1 _ W' hn10 hn11 ((X1.out.keep T1.out).keep hW').2.1)).mono ?_
      rw [mksTo_al, F2.out]
      rintro e w2 ⟨rfl, rfl⟩
      have T2 := T1
      go_wp2
      go_ret2
      exact ⟨RL.bad C.out.1.symm C.out.2, HB.out.trans (T2.out.mono HB.out.size)⟩
    · have F1 := Lib.hid (k1)
      have F2 := Lib.hid k2
      have C := Lib.hid (pv_ok (show pvK n0 xs n1 ps ls ys = true by rw [pvK, k1, k2]; rfl) hl3)
      clear k1 k2
      go_enter Try.func40, Try.ntmps40
      go_wp2_with fail
      rw [← HW.out]
      refine (isMap_any n0 n1 xs ps ls _ _ _ _ _ _ _ hl0 hl1 hl2 H0.out H1.out H2.out).mono ?_
      rw [F1.out]
      rintro e w1 ⟨rfl, hb⟩
      have T1 := Lib.hid hb
      clear hb lt0 x0 y0 lt1 x1 y1
      go_wp2_with fail
      refine (ctI2_any (fun j => mskB n1 (nth ys j)) ys _ _ _ _ hl3 (H3.out.keep T1.out (Nat.le_refl _)) (fun k hk W' hW' => pvl1_any _ n1 _ W' hn10 hn11 ((X1.out.keep T1.out).keep hW').2.1)).mono ?_
      rw [mksTo_al, F2.out]
      rintro e w2 ⟨rfl, rfl⟩
      have T2 := T1
      have PL := Lib.hid (pulled_any ls ys ps.length _ c2 _ c3 _ (by have := M.out.ll; have := M.out.x8; omega) (by have := M.out.p8; omega) M.out.ok hl3 (H2.out.keep T2.out (Nat.le_refl _)) (H3.out.keep T2.out (Nat.le_refl _)))
      have hs2 := T2.out.size
      have hs0 := HB.out.size
      go_wp2_with fail
      refine PL.out.mono ?_
      rintro e w3 ⟨v, rfl, ho, hb⟩
      have O := Lib.hid ho
      have T3 := Lib.hid (T2.out.trans (hb.mono T2.out.size))
      have hs3 : w.heap.size ≤ w1.heap.size := by omega
      clear hb ho
      go_wp2
      go_ret2
      exact ⟨RL.good C.out.1 C.out.2 O.out hs3, HB.out.trans (T3.out.mono HB.out.size)⟩

end Go.Proofs.Ytomldealpmohhaa
