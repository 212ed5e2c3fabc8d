/- FrameHolds: entries of both sides. Conditions: those in the theorems. -/
import Derived.Test.YtbfnagmjnaacoaaFhB
namespace Go.Proofs.Ytbfnagmjnaacoaa
open Go.RowKit

noncomputable def fhE (ps : List Pd) : Bool := decide ((toPt ps).fre = 0) && nvB ps
noncomputable def fhC (n : Int) (ps : List Pd) (b : Bool) : Int := if b && isP ps ps.length then (if fhE ps then voC n.toNat (toPt ps) else 5) else 1
noncomputable def fhV (n : Int) (xs : List Int) (ps : List Pd) (b : Bool) : Bool := if b && isP ps ps.length then (if fhE ps then voR xs [] n.toNat (toPt ps) z10 else false) else false
theorem fh_no {n : Int} {xs : List Int} {ps : List Pd} {b : Bool} (h : (b && isP ps ps.length) = false) : Ending.returned (.tuple #[.bool false, .int .i64 1]) = .returned (.tuple #[.bool (fhV n xs ps b), .int .i64 (fhC n ps b)]) := by
  rw [fhV, fhC, h]; rfl
theorem fh_st {n : Int} {xs : List Int} {ps : List Pd} {b : Bool} (h : (b && isP ps ps.length) = true) (h2 : fhE ps = false) : Ending.returned (.tuple #[.bool false, .int .i64 5]) = .returned (.tuple #[.bool (fhV n xs ps b), .int .i64 (fhC n ps b)]) := by
  rw [fhV, fhC, h, h2]; rfl
theorem fh_ok {n : Int} {xs : List Int} {ps : List Pd} {b : Bool} (h : (b && isP ps ps.length) = true) (h2 : fhE ps = true) : Ending.returned (.tuple #[.bool (voR xs [] n.toNat (toPt ps) z10), .int .i64 (voC n.toNat (toPt ps))]) = .returned (.tuple #[.bool (fhV n xs ps b), .int .i64 (fhC n ps b)]) := by
  rw [fhV, fhC, h, h2]; rfl

/-- The box of a frame. -/
theorem box2 (w : World) (v0 v1 : Value) (T : TypeId) : ∃ W, W = w.alloc (.cells #[v0, v1] T) ∧ Hid (Below w.heap.size w W) ∧ W.heap.size = w.heap.size + 1 ∧
    Hid (∀ w1, Below W.heap.size W w1 → w1.cell? ⟨w.heap.size, 0, none⟩ = some v0 ∧ w1.cell? ⟨w.heap.size, 1, none⟩ = some v1) := by
  have hs : w.heap.size < (w.alloc (.cells #[v0, v1] T)).heap.size := by simp
  refine ⟨_, rfl, Lib.hid ((Below.refl _ _).alloc (Nat.le_refl _) _), by simp, Lib.hid (fun w1 hb => ⟨?_, ?_⟩)⟩
  · exact (hb.cell (p := ⟨w.heap.size, 0, none⟩) hs).trans (World.cell?_alloc_new _ _ _ 0)
  · exact (hb.cell (p := ⟨w.heap.size, 1, none⟩) hs).trans (World.cell?_alloc_new _ _ _ 1)

set_option maxHeartbeats 4000000 in
set_option maxRecDepth 100000 in
theorem specFrameHolds_v (n : Int) (xs : List Int) (ps : List Pd) (v : Value) (lo hi : Nat) (v' : Value) (lo' hi' : Nat) (w : World) (hl : xs.length ≤ 1048576) (hz : ps.length ≤ 1048576) (h : InF w lo hi v n xs) (h' : InP w lo' hi' v' ps) :
    Calls Try.prog 23 #[v, v'] w fun e w' => e = .returned (.tuple #[.bool (fhV n xs ps (frB n xs)), .int .i64 (fhC n ps (frB n xs))]) ∧ Below w.heap.size w w' := by
  obtain ⟨a, cap, rfl, hat, -⟩ := h.at
  obtain ⟨c, cp, rfl, hn, hc1, hc2⟩ := h'.at'
  obtain ⟨W, hW, HB, hWs, X⟩ := box2 w (.int .i64 n) (.slice a xs.length cap) 38
  have H := Lib.hid (hat.keep HB.out (Nat.le_refl _))
  have HN := Lib.hid (hn.keep HB.out (Nat.le_refl _))
  have HW := Lib.hid hW
  clear h h' hW hat hn hWs
  cases h1 : frB n xs
  · have F := Lib.hid h1
    have E := Lib.hid (fh_no (n := n) (xs := xs) (ps := ps) (b := false) rfl)
    clear h1
    go_enter Try.func23, Try.ntmps23
    go_wp2_with fail
    rw [← HW.out]
    obtain ⟨x0, x1⟩ := X.out W (Below.refl _ _)
    go_wp2_with fail
    refine (l05Is_any n xs _ _ _ _ hl H.out).mono ?_
    rw [F.out]
    rintro e w1 ⟨rfl, hb⟩
    have T1 := Lib.hid hb
    have A1 := Lib.hid (HN.out.keep hb (Nat.le_refl _))
    clear hb x0 x1
    go_wp2
    go_ret2
    exact ⟨E.out, HB.out.trans (T1.out.mono HB.out.size)⟩
  · have F := Lib.hid h1
    cases h2 : isP ps ps.length
    · have F2 := Lib.hid h2
      have E := Lib.hid (fh_no (n := n) (xs := xs) (ps := ps) (b := true) (by rw [h2]; rfl))
      clear h1 h2
      go_enter Try.func23, Try.ntmps23
      go_wp2_with fail
      rw [← HW.out]
      obtain ⟨x0, x1⟩ := X.out W (Below.refl _ _)
      go_wp2_with fail
      refine (l05Is_any n xs _ _ _ _ hl H.out).mono ?_
      rw [F.out]
      rintro e w1 ⟨rfl, hb⟩
      have T1 := Lib.hid hb
      have A1 := Lib.hid (HN.out.keep hb (Nat.le_refl _))
      clear hb x0 x1
      go_wp2_with fail
      refine (specIsP_any _ _ _ _ _ hz A1.out).mono ?_
      rw [F2.out]
      rintro e w2 ⟨rfl, hb2⟩
      have T2 := Lib.hid (T1.out.trans (hb2.mono T1.out.size))
      clear hb2
      go_wp2
      go_ret2
      exact ⟨E.out, HB.out.trans (T2.out.mono HB.out.size)⟩
    · have F2 := Lib.hid h2
      have hMP := Lib.hid (show (true && isP ps ps.length) = true by rw [h2]; rfl)
      obtain ⟨e1, e2, -⟩ := frB_ok h1
      obtain ⟨f1, f2, f3⟩ := toPt_of h2
      obtain ⟨bp, op, rfl, hT⟩ := HN.out.pformula h2 hc1 hc2
      have HT := Lib.hid hT
      have NV := Lib.hid (fun (h : nvB ps = true) => nov_of h f2)
      obtain ⟨ff, hff⟩ : ∃ ff, ff = toPt ps := ⟨_, rfl⟩
      have EE := Lib.hid (show fhE ps = (decide (ff.fre = 0) && nvB ps) by rw [hff]; rfl)
      have HFF := Lib.hid hff
      rw [← hff] at f1 f3 HT NV
      obtain ⟨N, rfl⟩ : ∃ N : Nat, n = N := ⟨xs.length, e1⟩
      have hN : N ≤ 8 := by omega
      have HXN := Lib.hid (show xs.length = N by omega)
      clear h1 h2 e1 e2 f2 hT hff
      obtain ⟨m, hm⟩ : ∃ m, m = ff.fre := ⟨_, rfl⟩
      obtain ⟨q, hq⟩ : ∃ q, q = nvB ps := ⟨_, rfl⟩
      have FR := Lib.hid (fun (W' : World) (hW' : Below W.heap.size W W') => l10Free_any ff f1 bp op _ cp W' hz (HT.out.keep hW' (Nat.le_refl _)))
      have VA := Lib.hid (fun (W' : World) (hW' : Below W.heap.size W W') => l10Values_any ps _ cp W' hz (HN.out.keep hW' (Nat.le_refl _)))
      rw [← hm] at FR
      rw [← hq] at VA
      have HM := Lib.hid hm
      have HQ := Lib.hid hq
      clear hm hq
      by_cases hm0 : m = 0
      · subst hm0
        cases q
        · have E := Lib.hid (fh_st (n := N) (xs := xs) (b := true) hMP.out (by rw [EE.out, ← HM.out, ← HQ.out]; simp))
          go_enter Try.func23, Try.ntmps23
          go_wp2_with fail
          rw [← HW.out]
          obtain ⟨x0, x1⟩ := X.out W (Below.refl _ _)
          go_wp2_with fail
          refine (l05Is_any N xs _ _ _ _ hl H.out).mono ?_
          rw [F.out]
          rintro e w1 ⟨rfl, hb⟩
          have T1 := Lib.hid hb
          have A1 := Lib.hid (HN.out.keep hb (Nat.le_refl _))
          clear hb x0 x1
          go_wp2_with fail
          refine (specIsP_any _ _ _ _ _ hz A1.out).mono ?_
          rw [F2.out]
          rintro e w2 ⟨rfl, hb2⟩
          have T2 := Lib.hid (T1.out.trans (hb2.mono T1.out.size))
          clear hb2
          go_wp2_with fail
          refine (FR.out _ T2.out).mono ?_
          rintro e w_T3 ⟨rfl, hb3⟩
          have T3 := Lib.hid (T2.out.trans (hb3.mono T2.out.size))
          clear hb3
          go_wp2_with fail
          refine (VA.out _ T3.out).mono ?_
          rintro e w_T4 ⟨rfl, hb3⟩
          have T4 := Lib.hid (T3.out.trans (hb3.mono T3.out.size))
          clear hb3
          go_wp2
          go_ret2
          exact ⟨E.out, HB.out.trans (T4.out.mono HB.out.size)⟩
        · have E := Lib.hid (fh_ok (n := N) (xs := xs) (b := true) hMP.out (by rw [EE.out, ← HM.out, ← HQ.out]; rfl))
          have NO := Lib.hid (NV.out HQ.out.symm)
          have VK := Lib.hid (show ∀ k, vok N k ff from fun k => by
            by_cases h0 : N = 0
            · rw [h0]; exact vok_zero ff f1 HM.out.symm
            · exact vok_nov h0 ff NO.out)
          have EV := Lib.hid (show voR xs [] (N : Int).toNat (toPt ps) z10 = (fitP N (nst ff) && hol xs z6 N ff z10) ∧ voC (N : Int).toNat (toPt ps) = (if fitP N (nst ff) then 0 else 3) by rw [← HFF.out, hol_nov xs z6 [] N ff NO.out]; exact ⟨rfl, rfl⟩)
          have FI := Lib.hid (fun (W' : World) (hW' : Below W.heap.size W W') => l10Fits_any ff f1 N (by omega) bp op _ cp W' hz (HT.out.keep hW' (Nat.le_refl _)))
          have HH := Lib.hid (fun (W' : World) (hW' : Below W.heap.size W W') => l10Frame_any ff f1 N hN xs HXN.out a cap bp op _ cp W' hz (VK.out 6) (H.out.keep hW' (Nat.le_refl _)) (HT.out.keep hW' (Nat.le_refl _)))
          obtain ⟨u, hu⟩ : ∃ u, u = fitP N (nst ff) := ⟨_, rfl⟩
          obtain ⟨r, hr⟩ : ∃ r, r = hol xs z6 N ff z10 := ⟨_, rfl⟩
          rw [← hu] at FI EV
          rw [← hr] at HH EV
          rw [EV.out.1, EV.out.2] at E
          clear hu hr
          cases u
          · go_enter Try.func23, Try.ntmps23
            go_wp2_with fail
            rw [← HW.out]
            obtain ⟨x0, x1⟩ := X.out W (Below.refl _ _)
            go_wp2_with fail
            refine (l05Is_any N xs _ _ _ _ hl H.out).mono ?_
            rw [F.out]
            rintro e w1 ⟨rfl, hb⟩
            have T1 := Lib.hid hb
            have A1 := Lib.hid (HN.out.keep hb (Nat.le_refl _))
            clear hb x0 x1
            go_wp2_with fail
            refine (specIsP_any _ _ _ _ _ hz A1.out).mono ?_
            rw [F2.out]
            rintro e w2 ⟨rfl, hb2⟩
            have T2 := Lib.hid (T1.out.trans (hb2.mono T1.out.size))
            clear hb2
            go_wp2_with fail
            refine (FR.out _ T2.out).mono ?_
            rintro e w_T3 ⟨rfl, hb3⟩
            have T3 := Lib.hid (T2.out.trans (hb3.mono T2.out.size))
            clear hb3
            go_wp2_with fail
            refine (VA.out _ T3.out).mono ?_
            rintro e w_T4 ⟨rfl, hb3⟩
            have T4 := Lib.hid (T3.out.trans (hb3.mono T3.out.size))
            clear hb3
            obtain ⟨x0, x1⟩ := X.out _ T4.out
            go_wp2_with fail
            refine (FI.out _ T4.out).mono ?_
            rintro e w_T5 ⟨rfl, rfl⟩
            go_wp2
            go_ret2
            exact ⟨E.out, HB.out.trans (T4.out.mono HB.out.size)⟩
          · go_enter Try.func23, Try.ntmps23
            go_wp2_with fail
            rw [← HW.out]
            obtain ⟨x0, x1⟩ := X.out W (Below.refl _ _)
            go_wp2_with fail
            refine (l05Is_any N xs _ _ _ _ hl H.out).mono ?_
            rw [F.out]
            rintro e w1 ⟨rfl, hb⟩
            have T1 := Lib.hid hb
            have A1 := Lib.hid (HN.out.keep hb (Nat.le_refl _))
            clear hb x0 x1
            go_wp2_with fail
            refine (specIsP_any _ _ _ _ _ hz A1.out).mono ?_
            rw [F2.out]
            rintro e w2 ⟨rfl, hb2⟩
            have T2 := Lib.hid (T1.out.trans (hb2.mono T1.out.size))
            clear hb2
            go_wp2_with fail
            refine (FR.out _ T2.out).mono ?_
            rintro e w_T3 ⟨rfl, hb3⟩
            have T3 := Lib.hid (T2.out.trans (hb3.mono T2.out.size))
            clear hb3
            go_wp2_with fail
            refine (VA.out _ T3.out).mono ?_
            rintro e w_T4 ⟨rfl, hb3⟩
            have T4 := Lib.hid (T3.out.trans (hb3.mono T3.out.size))
            clear hb3
            obtain ⟨x0, x1⟩ := X.out _ T4.out
            go_wp2_with fail
            refine (FI.out _ T4.out).mono ?_
            rintro e w_T5 ⟨rfl, rfl⟩
            go_wp2_with fail
            refine (HH.out _ T4.out).mono ?_
            rintro e w_T6 ⟨rfl, hb3⟩
            have T6 := Lib.hid (T4.out.trans (hb3.mono T4.out.size))
            clear hb3
            clear x0 x1
            go_wp2
            go_ret2
            exact ⟨E.out, HB.out.trans (T6.out.mono HB.out.size)⟩
      · have E := Lib.hid (fh_st (n := N) (xs := xs) (b := true) hMP.out (by rw [EE.out, ← HM.out, ← HQ.out]; rw [decide_eq_false hm0, Bool.false_and]))
        go_enter Try.func23, Try.ntmps23
        go_wp2_with fail
        rw [← HW.out]
        obtain ⟨x0, x1⟩ := X.out W (Below.refl _ _)
        go_wp2_with fail
        refine (l05Is_any N xs _ _ _ _ hl H.out).mono ?_
        rw [F.out]
        rintro e w1 ⟨rfl, hb⟩
        have T1 := Lib.hid hb
        have A1 := Lib.hid (HN.out.keep hb (Nat.le_refl _))
        clear hb x0 x1
        go_wp2_with fail
        refine (specIsP_any _ _ _ _ _ hz A1.out).mono ?_
        rw [F2.out]
        rintro e w2 ⟨rfl, hb2⟩
        have T2 := Lib.hid (T1.out.trans (hb2.mono T1.out.size))
        clear hb2
        go_wp2_with fail
        refine (FR.out _ T2.out).mono ?_
        rintro e w_T3 ⟨rfl, hb3⟩
        have T3 := Lib.hid (T2.out.trans (hb3.mono T2.out.size))
        clear hb3
        go_wp2
        go_ret2
        exact ⟨E.out, HB.out.trans (T3.out.mono HB.out.size)⟩

set_option maxHeartbeats 4000000 in
set_option maxRecDepth 100000 in
theorem implFrameHolds_v (n : Int) (xs : List Int) (ps : List Pd) (v : Value) (lo hi : Nat) (v' : Value) (lo' hi' : Nat) (w : World) (hl : xs.length ≤ 1048576) (hz : ps.length ≤ 1048576) (h : InF w lo hi v n xs) (h' : InP w lo' hi' v' ps) :
    Calls Try.prog 25 #[v, v'] w fun e w' => e = .returned (.tuple #[.bool (fhV n xs ps (frB n xs)), .int .i64 (fhC n ps (frB n xs))]) ∧ Below w.heap.size w w' := by
  obtain ⟨a, cap, rfl, hat, -⟩ := h.at
  obtain ⟨c, cp, rfl, hn, hc1, hc2⟩ := h'.at'
  obtain ⟨W, hW, HB, hWs, X⟩ := box2 w (.int .i64 n) (.slice a xs.length cap) 38
  have H := Lib.hid (hat.keep HB.out (Nat.le_refl _))
  have HN := Lib.hid (hn.keep HB.out (Nat.le_refl _))
  have HW := Lib.hid hW
  clear h h' hW hat hn hWs
  cases h1 : frB n xs
  · have F := Lib.hid h1
    have E := Lib.hid (fh_no (n := n) (xs := xs) (ps := ps) (b := false) rfl)
    clear h1
    go_enter Try.func25, Try.ntmps25
    go_wp2_with fail
    rw [← HW.out]
    obtain ⟨x0, x1⟩ := X.out W (Below.refl _ _)
    go_wp2_with fail
    refine (implIsFrame_any n xs _ _ _ _ hl H.out).mono ?_
    rw [F.out]
    rintro e w1 ⟨rfl, hb⟩
    have T1 := Lib.hid hb
    have A1 := Lib.hid (HN.out.keep hb (Nat.le_refl _))
    clear hb x0 x1
    go_wp2
    go_ret2
    exact ⟨E.out, HB.out.trans (T1.out.mono HB.out.size)⟩
  · have F := Lib.hid h1
    cases h2 : isP ps ps.length
    · have F2 := Lib.hid h2
      have E := Lib.hid (fh_no (n := n) (xs := xs) (ps := ps) (b := true) (by rw [h2]; rfl))
      clear h1 h2
      go_enter Try.func25, Try.ntmps25
      go_wp2_with fail
      rw [← HW.out]
      obtain ⟨x0, x1⟩ := X.out W (Below.refl _ _)
      go_wp2_with fail
      refine (implIsFrame_any n xs _ _ _ _ hl H.out).mono ?_
      rw [F.out]
      rintro e w1 ⟨rfl, hb⟩
      have T1 := Lib.hid hb
      have A1 := Lib.hid (HN.out.keep hb (Nat.le_refl _))
      clear hb x0 x1
      go_wp2_with fail
      refine (implIsP_any _ _ _ _ _ hz A1.out).mono ?_
      rw [F2.out]
      rintro e w2 ⟨rfl, hb2⟩
      have T2 := Lib.hid (T1.out.trans (hb2.mono T1.out.size))
      clear hb2
      go_wp2
      go_ret2
      exact ⟨E.out, HB.out.trans (T2.out.mono HB.out.size)⟩
    · have F2 := Lib.hid h2
      have hMP := Lib.hid (show (true && isP ps ps.length) = true by rw [h2]; rfl)
      obtain ⟨e1, e2, -⟩ := frB_ok h1
      obtain ⟨f1, f2, f3⟩ := toPt_of h2
      obtain ⟨bp, op, rfl, hT⟩ := HN.out.pformula h2 hc1 hc2
      have HT := Lib.hid hT
      have NV := Lib.hid (fun (h : nvB ps = true) => nov_of h f2)
      obtain ⟨ff, hff⟩ : ∃ ff, ff = toPt ps := ⟨_, rfl⟩
      have EE := Lib.hid (show fhE ps = (decide (ff.fre = 0) && nvB ps) by rw [hff]; rfl)
      have HFF := Lib.hid hff
      rw [← hff] at f1 f3 HT NV
      obtain ⟨N, rfl⟩ : ∃ N : Nat, n = N := ⟨xs.length, e1⟩
      have hN : N ≤ 8 := by omega
      have HXN := Lib.hid (show xs.length = N by omega)
      clear h1 h2 e1 e2 f2 hT hff
      obtain ⟨m, hm⟩ : ∃ m, m = ff.fre := ⟨_, rfl⟩
      obtain ⟨q, hq⟩ : ∃ q, q = nvB ps := ⟨_, rfl⟩
      have TR := Lib.hid (fun (W' : World) (hW' : Below W.heap.size W W') => treeOf_any ff f1 bp op _ cp W' hz (HT.out.keep hW' (Nat.le_refl _)).1)
      have FR := Lib.hid (freeIn_any ff f1)
      have VA := Lib.hid (fun (W' : World) (hW' : Below W.heap.size W W') => ctV_any ps _ cp W' hz (HN.out.keep hW' (Nat.le_refl _)))
      obtain ⟨t, ht⟩ : ∃ t, t = tv ff := ⟨_, rfl⟩
      rw [← ht] at TR FR
      rw [← hm] at FR
      rw [← hq] at VA
      have HM := Lib.hid hm
      have HQ := Lib.hid hq
      clear hm hq ht
      cases q
      · have E := Lib.hid (fh_st (n := N) (xs := xs) (b := true) hMP.out (by rw [EE.out, ← HM.out, ← HQ.out]; rw [Bool.and_false]))
        go_enter Try.func25, Try.ntmps25
        go_wp2_with fail
        rw [← HW.out]
        obtain ⟨x0, x1⟩ := X.out W (Below.refl _ _)
        go_wp2_with fail
        refine (implIsFrame_any N xs _ _ _ _ hl H.out).mono ?_
        rw [F.out]
        rintro e w1 ⟨rfl, hb⟩
        have T1 := Lib.hid hb
        have A1 := Lib.hid (HN.out.keep hb (Nat.le_refl _))
        clear hb x0 x1
        go_wp2_with fail
        refine (implIsP_any _ _ _ _ _ hz A1.out).mono ?_
        rw [F2.out]
        rintro e w2 ⟨rfl, hb2⟩
        have T2 := Lib.hid (T1.out.trans (hb2.mono T1.out.size))
        clear hb2
        go_wp2_with fail
        refine (VA.out _ T2.out).mono ?_
        rintro e w_T3 ⟨rfl, hb3⟩
        have T3 := Lib.hid (T2.out.trans (hb3.mono T2.out.size))
        clear hb3
        go_wp2
        go_ret2
        exact ⟨E.out, HB.out.trans (T3.out.mono HB.out.size)⟩
      · by_cases hm0 : m = 0
        · subst hm0
          have E := Lib.hid (fh_ok (n := N) (xs := xs) (b := true) hMP.out (by rw [EE.out, ← HM.out, ← HQ.out]; rfl))
          have NO := Lib.hid (NV.out HQ.out.symm)
          have VK := Lib.hid (show ∀ k, vok N k ff from fun k => by
            by_cases h0 : N = 0
            · rw [h0]; exact vok_zero ff f1 HM.out.symm
            · exact vok_nov h0 ff NO.out)
          have VO := Lib.hid (fun (W' : World) (hW' : Below W.heap.size W W') => valueOf_any ff f1 (by omega) N a cap xs none 0 [] z10 bp op _ cp W' hz hl (by decide) ⟨hN, HXN.out, H.out.keep hW' (Nat.le_refl _), ⟨rfl, .inl rfl⟩, wz_10 N⟩ (VK.out 0) (HT.out.keep hW' (Nat.le_refl _)).1)
          unfold plc at VO
          rw [Int.toNat_natCast, ← HFF.out] at E
          go_enter Try.func25, Try.ntmps25
          go_wp2_with fail
          rw [← HW.out]
          obtain ⟨x0, x1⟩ := X.out W (Below.refl _ _)
          go_wp2_with fail
          refine (implIsFrame_any N xs _ _ _ _ hl H.out).mono ?_
          rw [F.out]
          rintro e w1 ⟨rfl, hb⟩
          have T1 := Lib.hid hb
          have A1 := Lib.hid (HN.out.keep hb (Nat.le_refl _))
          clear hb x0 x1
          go_wp2_with fail
          refine (implIsP_any _ _ _ _ _ hz A1.out).mono ?_
          rw [F2.out]
          rintro e w2 ⟨rfl, hb2⟩
          have T2 := Lib.hid (T1.out.trans (hb2.mono T1.out.size))
          clear hb2
          go_wp2_with fail
          refine (VA.out _ T2.out).mono ?_
          rintro e w_T3 ⟨rfl, hb3⟩
          have T3 := Lib.hid (T2.out.trans (hb3.mono T2.out.size))
          clear hb3
          go_wp2_with fail
          refine (TR.out _ T3.out).mono ?_
          rintro e w_T4 ⟨rfl, hb3⟩
          have T4 := Lib.hid (T3.out.trans (hb3.mono T3.out.size))
          clear hb3
          go_wp2_with fail
          refine (FR.out _).mono ?_
          rintro e w_T5 ⟨rfl, hb3⟩
          have T5 := Lib.hid (T4.out.trans (hb3.mono T4.out.size))
          clear hb3
          obtain ⟨x0, x1⟩ := X.out _ T5.out
          go_wp2_with fail
          refine (VO.out _ T5.out).mono ?_
          rintro e w_T6 ⟨rfl, hb3⟩
          have T6 := Lib.hid (T5.out.trans (hb3.mono T5.out.size))
          clear hb3
          clear x0 x1
          go_wp2
          go_ret2
          exact ⟨E.out, HB.out.trans (T6.out.mono HB.out.size)⟩
        · have E := Lib.hid (fh_st (n := N) (xs := xs) (b := true) hMP.out (by rw [EE.out, ← HM.out, ← HQ.out]; rw [decide_eq_false hm0, Bool.false_and]))
          go_enter Try.func25, Try.ntmps25
          go_wp2_with fail
          rw [← HW.out]
          obtain ⟨x0, x1⟩ := X.out W (Below.refl _ _)
          go_wp2_with fail
          refine (implIsFrame_any N xs _ _ _ _ hl H.out).mono ?_
          rw [F.out]
          rintro e w1 ⟨rfl, hb⟩
          have T1 := Lib.hid hb
          have A1 := Lib.hid (HN.out.keep hb (Nat.le_refl _))
          clear hb x0 x1
          go_wp2_with fail
          refine (implIsP_any _ _ _ _ _ hz A1.out).mono ?_
          rw [F2.out]
          rintro e w2 ⟨rfl, hb2⟩
          have T2 := Lib.hid (T1.out.trans (hb2.mono T1.out.size))
          clear hb2
          go_wp2_with fail
          refine (VA.out _ T2.out).mono ?_
          rintro e w_T3 ⟨rfl, hb3⟩
          have T3 := Lib.hid (T2.out.trans (hb3.mono T2.out.size))
          clear hb3
          go_wp2_with fail
          refine (TR.out _ T3.out).mono ?_
          rintro e w_T4 ⟨rfl, hb3⟩
          have T4 := Lib.hid (T3.out.trans (hb3.mono T3.out.size))
          clear hb3
          go_wp2_with fail
          refine (FR.out _).mono ?_
          rintro e w_T5 ⟨rfl, hb3⟩
          have T5 := Lib.hid (T4.out.trans (hb3.mono T4.out.size))
          clear hb3
          go_wp2
          go_ret2
          exact ⟨E.out, HB.out.trans (T5.out.mono HB.out.size)⟩

end Go.Proofs.Ytbfnagmjnaacoaa
