/- Contracts of QuotientModel of the model and of the program. Conditions: those in the theorems. -/
import Derived.Test.YtecjmibnoldpgabQuS
import Derived.Test.YtecjmibnoldpgabCtV
import Derived.Test.YtecjmibnoldpgabPm
namespace Go.Proofs.Ytecjmibnoldpgab
open Go.RowKit

noncomputable def qCt (xs ys : List Int) : Nat := (stF (lF xs.length xs ys 16) xs.length).1
noncomputable def qmL (n : Int) (xs ys : List Int) : List Int := if isM n xs ys then tab (qCt xs ys) (qaF (cLs xs.length xs ys 16) xs xs.length xs.length) else []
noncomputable def qmV (n : Int) (xs ys : List Int) : List Int := if isM n xs ys then tab ys.length (fun v => coTo (cLs xs.length xs ys 16) (nth ys v) xs.length) else []
theorem q_cq (xs ys : List Int) : Cq (cLs xs.length xs ys 16) xs.length (qCt xs ys) := by
  rw [cLs_eq]
  exact cq_of _ _
theorem qm_bad {n : Int} {xs ys : List Int} (h : isM n xs ys = false) : bcC n xs ys = 1 ∧ qmL n xs ys = [] ∧ qmV n xs ys = [] := by
  rw [bcC, qmL, qmV, h]; exact ⟨rfl, rfl, rfl⟩
theorem qm_ok {n : Int} {xs ys : List Int} (h : isM n xs ys = true) : bcC n xs ys = 0 ∧ bcL n xs ys = cLs xs.length xs ys 16 ∧ qmL n xs ys = tab (qCt xs ys) (qaF (cLs xs.length xs ys 16) xs xs.length xs.length) ∧ qmV n xs ys = tab ys.length (fun v => coTo (cLs xs.length xs ys 16) (nth ys v) xs.length) := by
  rw [bcC, bcL, qmL, qmV, h]; exact ⟨rfl, rfl, rfl, rfl⟩
theorem QuotientModel_len (n : Int) (xs ys : List Int) : (qmL n xs ys).length ≤ 1048576 ∧ (qmV n xs ys).length ≤ 1048576 := by
  cases h : isM n xs ys
  · obtain ⟨-, e1, e2⟩ := qm_bad h
    rw [e1, e2]; simp
  · obtain ⟨-, -, e1, e2⟩ := qm_ok h
    obtain ⟨-, -, h8, -, h6, -⟩ := isM_ok h
    have := (q_cq xs ys).mn
    rw [e1, e2, tab_len, tab_len]
    omega

set_option maxHeartbeats 4000000 in
set_option maxRecDepth 100000 in
theorem implQuotientModel_any (n : Int) (xs ys : List Int) (v : Value) (lo hi : Nat) (w : World) (hl : xs.length ≤ 1048576) (hm : ys.length ≤ 1048576) (h : InM w lo hi v n xs ys) :
    Calls Try.prog 25 #[v] w fun e w' => RM w' w.heap.size (qmL n xs ys).length (bcC n xs ys) (qmL n xs ys) (qmV n xs ys) e ∧ Below w.heap.size w w' := by
  obtain ⟨a, cap, b, d, e0, hat, hat', -⟩ := h.at
  subst e0
  obtain ⟨W, hW, HB, X, Z, hWs⟩ := boxM2 w n a xs.length cap b ys.length d
  have H := Lib.hid (hat.keep HB.out (Nat.le_refl _))
  have H' := Lib.hid (hat'.keep HB.out (Nat.le_refl _))
  have CB := Lib.hid (implBisimulationClasses_v n xs ys _ lo hi W hl hm (h.below HB.out h.hi))
  have hz0 : w.heap.size + 1 + 1 ≤ W.heap.size := by omega
  have HW := Lib.hid hW
  obtain ⟨lt, x0, x1, x2⟩ := X.out
  clear h hat hat' hW hWs
  cases hf : isM n xs ys
  · obtain ⟨c1, l1, l2⟩ := qm_bad hf
    have C := Lib.hid c1
    have L1 := Lib.hid l1
    have L2 := Lib.hid l2
    clear hf c1 l1 l2
    go_enter Try.func25, Try.ntmps25
    go_wp2_with fail
    rw [← HW.out]
    refine CB.out.mono ?_
    rw [C.out]
    rintro e w1 ⟨v1, rfl, -, hb⟩
    have B1 := Lib.hid (HB.out.trans (hb.mono HB.out.size))
    obtain ⟨lt2, z0, z1, z2, z3, z4, z5⟩ := (Z.out.keep hb).all
    clear hb x0 x1 x2
    go_wp2
    exact bodyPost_ret (v := .tuple #[.agg #[.int .i64 0, .slice none 0 0, .slice none 0 0], .int .i64 1]) (by simp [results, Try.results25, go_sem, z0, z1, z2]) rfl ⟨RM.bad C.out.symm (by rw [L1.out]; rfl) L1.out L2.out, ((B1.out.setCell (by show _ ≤ _; simp) _).setCell (by show _ ≤ _; simp) _).setCell (by show _ ≤ _; simp) _⟩
  · obtain ⟨c1, cl, l1, l2⟩ := qm_ok hf
    obtain ⟨e1, e2, e3, e4⟩ := isM_rel hf
    obtain ⟨-, -, -, -, h6, -⟩ := isM_ok hf
    have Y6 := Lib.hid h6
    have C := Lib.hid c1
    have CL := Lib.hid cl
    have L1 := Lib.hid l1
    have L2 := Lib.hid l2
    have E3 := Lib.hid e3
    subst e1
    clear hf c1 cl l1 l2 e3 e4 h6
    go_enter Try.func25, Try.ntmps25
    go_wp2_with fail
    rw [← HW.out]
    refine CB.out.mono ?_
    rw [C.out, CL.out]
    rintro e w1 ⟨v1, rfl, ho, hb⟩
    have T1 := Lib.hid hb
    obtain ⟨a1, k1, e1, hat1, -, -, -⟩ := ho.at
    rw [cLs_len] at e1 hat1
    subst e1
    have A1 := Lib.hid hat1
    clear hb ho hat1 x0 x1 x2
    obtain ⟨lt, x0, x1, x2⟩ := X.out.keep T1.out
    go_wp2_with fail
    clear x0 x1 x2
    refine (mquo_any (cLs xs.length xs ys 16) xs ys xs.length (qCt xs ys) _ _ _ _ _ _ _ (q_cq xs ys) e2 (by have := Y6.out; omega) E3.out (H.out.keep T1.out (Nat.le_refl _)) (H'.out.keep T1.out (Nat.le_refl _)) A1.out).mono ?_
    rw [← L1.out, ← L2.out]
    rintro e w3 ⟨v3, rfl, ho, hb⟩
    obtain ⟨a3, k3, b3, d3, rfl⟩ := ho.form
    have B3 := Lib.hid (T1.out.trans (hb.mono T1.out.size))
    obtain ⟨lt2, z0, z1, z2, z3, z4, z5⟩ := (Z.out.keep B3.out).all
    have B4 := Lib.hid (HB.out.trans (B3.out.mono HB.out.size))
    have hs1 := T1.out.size
    have NL := Lib.hid (show (qCt xs ys : Int) = ((qmL (xs.length : Int) xs ys).length : Nat) by rw [L1.out, tab_len])
    have O3 := Lib.hid ho
    clear ho hb
    go_wp2
    exact bodyPost_ret (v := .tuple #[.agg #[.int .i64 (qCt xs ys), .slice a3 (qmL (xs.length : Int) xs ys).length k3, .slice b3 (qmV (xs.length : Int) xs ys).length d3], .int .i64 0]) (by simp [results, Try.results25, go_sem, z0, z1, z2]) rfl ⟨RM.good C.out NL.out.symm rfl rfl (O3.out.out3 (by omega)) (by omega), ((B4.out.setCell (by show _ ≤ _; simp) _).setCell (by show _ ≤ _; simp) _).setCell (by show _ ≤ _; simp) _⟩

set_option maxHeartbeats 8000000 in
set_option maxRecDepth 100000 in
theorem specQuotientModel_any (n : Int) (xs ys : List Int) (v : Value) (lo hi : Nat) (w : World) (hl : xs.length ≤ 1048576) (hm : ys.length ≤ 1048576) (h : InM w lo hi v n xs ys) :
    Calls Try.prog 24 #[v] w fun e w' => RM w' w.heap.size (qmL n xs ys).length (bcC n xs ys) (qmL n xs ys) (qmV n xs ys) e ∧ Below w.heap.size w w' := by
  obtain ⟨a, cap, b, d, e0, hat, hat', -⟩ := h.at
  subst e0
  obtain ⟨W, hW, HB, X, Z, hWs⟩ := boxM2 w n a xs.length cap b ys.length d
  have H := Lib.hid (hat.keep HB.out (Nat.le_refl _))
  have H' := Lib.hid (hat'.keep HB.out (Nat.le_refl _))
  have IS := Lib.hid (l06Is_any n xs ys a xs.length cap b ys.length d W hl hm H.out H'.out)
  have hz0 : w.heap.size + 1 + 1 ≤ W.heap.size := by omega
  have HW := Lib.hid hW
  obtain ⟨lt, x0, x1, x2⟩ := X.out
  clear h hat hat' hW hWs
  cases hf : isM n xs ys
  · obtain ⟨c1, l1, l2⟩ := qm_bad hf
    have F := Lib.hid hf
    have C := Lib.hid c1
    have L1 := Lib.hid l1
    have L2 := Lib.hid l2
    clear hf c1 l1 l2
    go_enter Try.func24, Try.ntmps24
    go_wp2_with fail
    rw [← HW.out]
    refine IS.out.mono ?_
    rw [F.out]
    rintro e w1 ⟨rfl, hb⟩
    have B1 := Lib.hid (HB.out.trans (hb.mono HB.out.size))
    obtain ⟨lt2, z0, z1, z2, z3, z4, z5⟩ := (Z.out.keep hb).all
    clear hb x0 x1 x2
    go_wp2
    exact bodyPost_ret (v := .tuple #[.agg #[.int .i64 0, .slice none 0 0, .slice none 0 0], .int .i64 1]) (by simp [results, Try.results24, go_sem, z0, z1, z2]) rfl ⟨RM.bad C.out.symm (by rw [L1.out]; rfl) L1.out L2.out, ((B1.out.setCell (by show _ ≤ _; simp) _).setCell (by show _ ≤ _; simp) _).setCell (by show _ ≤ _; simp) _⟩
  · obtain ⟨c1, cl, l1, l2⟩ := qm_ok hf
    obtain ⟨e1, e2, e3, e4⟩ := isM_rel hf
    obtain ⟨-, -, -, -, h6, -⟩ := isM_ok hf
    have Y6 := Lib.hid h6
    have F := Lib.hid hf
    have C := Lib.hid c1
    have L1 := Lib.hid l1
    have L2 := Lib.hid l2
    have E3 := Lib.hid e3
    subst e1
    clear hf c1 cl l1 l2 e3 e4 h6
    go_enter Try.func24, Try.ntmps24
    go_wp2_with fail
    rw [← HW.out]
    refine IS.out.mono ?_
    rw [F.out]
    rintro e w1 ⟨rfl, hb⟩
    have T1 := Lib.hid hb
    clear hb x0 x1 x2
    obtain ⟨lt, x0, x1, x2⟩ := X.out.keep T1.out
    obtain ⟨lt2, z0, z1, z2, z3, z4, z5⟩ := (Z.out.keep T1.out).all
    have CC := Lib.hid (fun w' (hw : Below w1.heap.size w1 w') => l07Classes_any xs.length xs ys a cap b d w' F.out (Mo.of F.out (H.out.keep (T1.out.trans (hw.mono T1.out.size)) (Nat.le_refl _)) (H'.out.keep (T1.out.trans (hw.mono T1.out.size)) (Nat.le_refl _))))
    have QQ := Lib.hid (fun w' ac cc (hw : Below w1.heap.size w1 w') (hc : At w' ac xs.length (cLs xs.length xs ys 16)) => l07Quotient_any (cLs xs.length xs ys 16) xs ys xs.length (qCt xs ys) a cap b d ac cc w' (q_cq xs ys) e2 (by have := Y6.out; omega) E3.out (H.out.keep (T1.out.trans (hw.mono T1.out.size)) (Nat.le_refl _)) (H'.out.keep (T1.out.trans (hw.mono T1.out.size)) (Nat.le_refl _)) hc)
    have NL := Lib.hid (show (qCt xs ys : Int) = ((qmL (xs.length : Int) xs ys).length : Nat) by rw [L1.out, tab_len])
    have XX := Lib.hid (fun w' (hw : Below w1.heap.size w1 w') => And.intro (X.out.keep (T1.out.trans (hw.mono T1.out.size))) ((Z.out.keep (T1.out.trans (hw.mono T1.out.size))).all))
    have hs1 := T1.out.size
    go_wp2
    go_region_held3 (fun w' => w'.cell? ⟨w.heap.size, 0, none⟩ = some (.int .i64 xs.length) ∧ w'.cell? ⟨w.heap.size, 1, none⟩ = some (.slice a xs.length cap) ∧ w'.cell? ⟨w.heap.size, 2, none⟩ = some (.slice b ys.length d)) (first | exact ⟨s0, s1, s2⟩ | exact ⟨r0, r1, r2⟩ | exact ⟨x0, x1, x2⟩ | go_keep) (first | (go_at_call 32; refine (CC.out _ (by first | exact (Below.refl _ _).drew | exact Below.refl _ _)).mono ?_; rintro e w2 ⟨v2, rfl, ho, hb⟩; have T2 := Lib.hid (show Below w1.heap.size w1 w2 from below_of_drew hb); obtain ⟨a2, k2, e2, hat2, -⟩ := ho.at; rw [cLs_len] at e2 hat2; subst e2; have A2 := Lib.hid hat2; clear hb ho hat2; obtain ⟨⟨lr, r0, r1, r2⟩, -⟩ := XX.out _ T2.out) | (go_at_call 52; refine (QQ.out _ _ _ T2.out A2.out).mono ?_; rw [← L1.out, ← L2.out]; rintro e w3 ⟨v3, rfl, ho, hb⟩; obtain ⟨a3, k3, b3, d3, rfl⟩ := ho.form; have T3 := Lib.hid (T2.out.trans (hb.mono T2.out.size)); have O3 := Lib.hid (ho.mono T2.out.size); clear ho hb; obtain ⟨⟨ls, s0, s1, s2⟩, ⟨lz, y0, y1, y2, y3, y4, y5⟩⟩ := XX.out _ T3.out))
    all_goals
      have B4 := Lib.hid (HB.out.trans ((T1.out.trans (T3.out.mono T1.out.size)).mono HB.out.size))
      go_wp2
      exact bodyPost_ret (v := .tuple #[.agg #[.int .i64 (qCt xs ys), .slice a3 (qmL (xs.length : Int) xs ys).length k3, .slice b3 (qmV (xs.length : Int) xs ys).length d3], .int .i64 0]) (by simp [results, Try.results24, go_sem, y0, y1, y2]) rfl ⟨RM.good C.out NL.out.symm rfl rfl (O3.out.out3 (by omega)) (by omega), ((B4.out.setCell (by show _ ≤ _; simp) _).setCell (by show _ ≤ _; simp) _).setCell (by show _ ≤ _; simp) _⟩

theorem specQuotientModel_v (n : Int) (xs ys : List Int) (v : Value) (lo hi : Nat) (w : World) (hl : xs.length ≤ 1048576) (hm : ys.length ≤ 1048576) (h : InM w lo hi v n xs ys) :
    Calls Try.prog 24 #[v] w fun e w' => ∃ v', e = .returned (.tuple #[v', .int .i64 (bcC n xs ys)]) ∧ OwnM w' w.heap.size v' (qmL n xs ys).length (qmL n xs ys) (qmV n xs ys) ∧ Below w.heap.size w w' :=
  (specQuotientModel_any n xs ys v lo hi w hl hm h).mono fun e w' ⟨⟨v, e1, o⟩, b⟩ => ⟨v, e1, o, b⟩
theorem implQuotientModel_v (n : Int) (xs ys : List Int) (v : Value) (lo hi : Nat) (w : World) (hl : xs.length ≤ 1048576) (hm : ys.length ≤ 1048576) (h : InM w lo hi v n xs ys) :
    Calls Try.prog 25 #[v] w fun e w' => ∃ v', e = .returned (.tuple #[v', .int .i64 (bcC n xs ys)]) ∧ OwnM w' w.heap.size v' (qmL n xs ys).length (qmL n xs ys) (qmV n xs ys) ∧ Below w.heap.size w w' :=
  (implQuotientModel_any n xs ys v lo hi w hl hm h).mono fun e w' ⟨⟨v, e1, o⟩, b⟩ => ⟨v, e1, o, b⟩

end Go.Proofs.Ytecjmibnoldpgab
