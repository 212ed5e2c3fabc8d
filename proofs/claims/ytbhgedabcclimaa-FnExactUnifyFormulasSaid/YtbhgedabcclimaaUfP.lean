/- Contract of the program's UnifyFormulas, at every argument. Conditions: those in the theorem. -/
import Derived.Test.YtbhgedabcclimaaUfN
import Derived.Test.YtbhgedabcclimaaUfC
namespace Go.Proofs.Ytbhgedabcclimaa
open Go.RowKit

set_option maxHeartbeats 16000000 in
set_option maxRecDepth 100000 in
theorem implUnifyFormulas_g (x0 x1 : List Nd) (a : Option Addr) (cap : Nat) (a' : Option Addr) (cap' : Nat) (w : World) (hl : x0.length ≤ 1048576) (hl' : x1.length ≤ 1048576) (hat : AtN w a x0.length x0) (hca0 : x0.length ≤ cap) (hcb0 : cap ≤ maxLen) (hat' : AtN w a' x1.length x1) (hca : x1.length ≤ cap') (hcb : cap' ≤ maxLen) :
    Calls Try.prog 34 #[.slice a x0.length cap, .slice a' x1.length cap'] w fun e w' => ∃ v', e = .returned (.tuple #[v', .int .i64 (ufC x0 x1)]) ∧ OwnL w' w.heap.size v' (ufR x0 x1) ∧ Below w.heap.size w w' := by
  have H := Lib.hid hat
  have H' := Lib.hid hat'
  clear hat hat'
  unfold maxLen at hcb hcb0
  have CN := areF2_any x0 x1 a a' x0.length cap x1.length cap' w.heap.size w hl hl' H.out H'.out 26 rfl
  cases hb : (isB x0 x0.length && isB x1 x1.length)
  · obtain ⟨e1, e2⟩ := uf_bad hb
    rw [e1, e2]
    rw [hb] at CN
    have C := Lib.hid CN
    clear hb e1 e2 CN
    go_enter Try.func34, Try.ntmps34
    go_wp2_with fail
    refine C.out.mono ?_
    rintro e w1 ⟨rfl, hb1⟩
    go_wp2
    go_ret2
    exact ⟨_, rfl, ownL_nil _ _, hb1⟩
  · have hbb : isB x0 x0.length = true ∧ isB x1 x1.length = true := by simpa using hb
    rw [hb] at CN
    have C := Lib.hid CN
    have HB := Lib.hid hbb.1
    have HB' := Lib.hid hbb.2
    obtain ⟨Rim, hRim⟩ : ∃ Rim, Rim = ufR x0 x1 := ⟨_, rfl⟩
    obtain ⟨Rc, hRc⟩ : ∃ Rc, Rc = ufC x0 x1 := ⟨_, rfl⟩
    have HR := Lib.hid (show uf 7 x0 x1 (selfTo 6) = (Rim, Rc) by rw [hRim, hRc]; exact uf_good hb)
    rw [← hRim, ← hRc]
    have C1 := Lib.hid (And.intro hca0 hcb0)
    have C2 := Lib.hid (And.intro hca hcb)
    clear hb hbb CN hRim hRc hca0 hcb0 hca hcb
    go_enter Try.func34, Try.ntmps34
    go_wp2_with fail
    refine C.out.mono ?_
    rintro e w1 ⟨rfl, hb1⟩
    have B1 := Lib.hid hb1
    clear hb1
    go_wp2_with fail
    refine (varImages_any _).mono ?_
    rintro e w2 ⟨v2, rfl, ho2, hb2⟩
    obtain ⟨g2, c2, rfl, -⟩ := ho2.img six_self
    have O2 := Lib.hid (ho2.mono B1.out.size)
    have B2 := Lib.hid (B1.out.trans (hb2.mono B1.out.size))
    clear ho2 hb2
    have UR := Lib.hid (show UnR (w2.alloc (.cells #[.slice a x0.length cap, .slice a' x1.length cap', .slice (some ⟨g2, 0, none⟩) 6 c2] 85)) w2.heap.size _ _ _ from Array.getElem?_push_size)
    have B3 := Lib.hid (B2.out.alloc B2.out.size (.cells #[.slice a x0.length cap, .slice a' x1.length cap', .slice (some ⟨g2, 0, none⟩) 6 c2] 85))
    have S3 := Lib.hid (UfS.mk (H.out.keep B3.out (Nat.le_refl _)) (H'.out.keep B3.out (Nat.le_refl _)) (by have := C1.out; omega) (by have := C2.out; omega) HB.out HB'.out (O2.out.alloc _) fms_self (selfTo_len 6))
    have N0 := Lib.hid (nv_le x0 x1)
    obtain ⟨R, hRR⟩ : ∃ R, R = w2.heap.size := ⟨_, rfl⟩
    have RB := Lib.hid (show w.heap.size ≤ R by rw [hRR]; exact B2.out.size)
    go_wp2
    rw [← hRR] at UR ⊢
    clear hRR
    go_loopg [7] 7 (fun n _v7 wr => ∃ (xs ys : List Nd) (im : List (List Nd)) (pa pb : Option Addr) (ca cb : Nat) (vi : Value), Hid (UnR wr R (.slice pa xs.length ca) (.slice pb ys.length cb) vi ∧ UfS wr w.heap.size pa pb ca cb vi xs ys im) ∧ Hid (nv xs ys < n) ∧ Hid (uf n xs ys im = (Rim, Rc)) ∧ Below w.heap.size w wr)
    case atStart => exact ⟨x0, x1, selfTo 6, a, a', cap, cap', _, (show _ ∧ _ from ⟨UR.out, S3.out⟩), (show _ < _ from Nat.lt_of_le_of_lt N0.out (by omega)), HR, B3.out⟩
    case round =>
      rename World => wo
      obtain ⟨xs, ys, im, pa, pb, ca, cb, vi, hS, hn, hu, hbel⟩ := hrel
      have B := Lib.hid hbel
      clear hbel UR B3 S3 N0 HR O2 B2 B1 C1 C2 HB HB' C H H'
      have hix := hS.out.2.ix
      have hiy := hS.out.2.iy
      have hlx := (is_pos' hix)
      have hly := (is_pos' hiy)
      obtain ⟨g6, c6, rfl, hg6⟩ := hS.out.2.oi.img (fms_six hS.out.2.fm hS.out.2.six)
      obtain ⟨bx, ox, rfl⟩ := hS.out.2.ax.ex hlx.1
      obtain ⟨by', oy, rfl⟩ := hS.out.2.ay.ex hly.1
      obtain ⟨m, hm⟩ : ∃ m, gk = m + 1 := ⟨gk - 1, by have := hn.out; omega⟩
      have hu2 : uf (m + 1) xs ys im = (Rim, Rc) := by rw [← hm]; exact hu.out
      have hn2 : nv xs ys < m + 1 := by rw [← hm]; exact hn.out
      have U := Lib.hid hu2
      have NV := Lib.hid hn2
      have GK := Lib.hid hm
      have IX := Lib.hid hix
      have IY := Lib.hid hiy
      have IG := Lib.hid hg6.1
      have UR := Lib.hid hS.out.1
      clear hu hu2 hn hn2 hm hix hiy hg6
      go_wp2_with fail
      refine (isDone_any xs ys R _ _ _ _ _ _ _ _ (by omega) (by omega) UR.out hS.out.2.ax hS.out.2.ay).mono ?_
      by_cases hEq : xs = ys
      · have E := Lib.hid (show im = Rim ∧ (0 : Int) = Rc by have h1 := U.out; rw [uf_eq hEq] at h1; simpa using h1)
        rw [decide_eq_true hEq]
        rintro e w3 ⟨rfl, hb3⟩
        have r2 := (UR.out.keep hb3 (Nat.le_refl _)).cells.2.2.1
        have O := Lib.hid (show OwnL w3 w.heap.size _ Rim by rw [← E.out.1]; exact hS.out.2.oi.keep hb3 (Nat.le_refl _))
        have B3 := Lib.hid (B.out.trans (hb3.mono B.out.size))
        clear hb3 hEq
        go_wp2
        go_ret2
        exact ⟨_, (by rw [← E.out.2] <;> rfl), O.out, B3.out⟩
      · have NE := Lib.hid hEq
        rw [decide_eq_false hEq]
        rintro e w3 ⟨rfl, hb3⟩
        have B3 := Lib.hid (B.out.trans (hb3.mono B.out.size))
        have UR3 := Lib.hid (UR.out.keep hb3 (Nat.le_refl _))
        have AX3 := Lib.hid (hS.out.2.ax.keep hb3 (Nat.le_refl _))
        have AY3 := Lib.hid (hS.out.2.ay.keep hb3 (Nat.le_refl _))
        have IG3 := Lib.hid (IG.out.keep hb3 (Nat.le_refl _))
        clear hb3 hEq
        go_wp2_with fail
        refine (next_any xs ys R bx ox ca by' oy cb _ _ IX.out IY.out hS.out.2.cx hS.out.2.cy NE.out UR3.out AX3.out AY3.out).mono ?_
        rintro e w4 ⟨hn4, hb4⟩
        rcases hn4 with ⟨NX, rfl⟩ | ⟨q, yb, yo, yc, Y, NX, rfl, hYW, hYI, hq5, -⟩
        · have E := Lib.hid (show ([] : List (List Nd)) = Rim ∧ (4 : Int) = Rc by
            have h1 := U.out
            rw [uf_no NE.out NX] at h1
            simpa using h1)
          have B4 := Lib.hid (B3.out.trans (hb4.mono B3.out.size))
          clear hb4 NX
          go_wp2
          go_ret2
          exact ⟨.slice none 0 0, (by rw [← E.out.2] <;> rfl), by rw [← E.out.1]; exact ownL_nil _ _, B4.out⟩
        · have US := Lib.hid ((uf_step (n := m) (im := im) NE.out NX).symm.trans U.out)
          have NVB := Lib.hid (nv_bd IX.out IY.out NE.out NX)
          have B4 := Lib.hid (B3.out.trans (hb4.mono B3.out.size))
          have UR4 := Lib.hid (UR3.out.keep hb4 (Nat.le_refl _))
          have AX4 := Lib.hid (AX3.out.keep hb4 (Nat.le_refl _))
          have AY4 := Lib.hid (AY3.out.keep hb4 (Nat.le_refl _))
          have IG4 := Lib.hid (IG3.out.keep hb4 (Nat.le_refl _))
          have IYY := Lib.hid hYI
          have YW4 := Lib.hid (hYW.keep hb4 (Nat.le_refl _))
          have TSZ := Lib.hid (show ∀ j, j < 6 → (nthL (thTo (sgB q Y) im 6) j).length ≤ 1048576 by
            intro j hj
            rw [thTo_at hj]
            have := bd_len (q := q) (hS.out.2.fm j (by rw [hS.out.2.six]; exact hj)) IYY.out
            unfold bd at this
            omega)
          clear hb4 NX hYI hYW
          go_wp2_with fail
          refine (bind_any xs ys Y im q R w.heap.size _ _ _ _ _ _ _ _ _ _ IX.out IY.out IYY.out hq5 hS.out.2.fm hS.out.2.six RB.out UR4.out AX4.out AY4.out IG4.out YW4.out).mono ?_
          rintro e w5 ⟨⟨v5, rfl⟩, va, vb, vi, hU5, ho5a, ho5b, ho5i, hb5⟩
          obtain ⟨a5, c5, rfl, at5, l5, m5⟩ := ho5a.inn.at'
          obtain ⟨a6, c6', rfl, at6, l6, m6⟩ := ho5b.inn.at'
          obtain ⟨g7, c7, hv6, h7⟩ : ∃ g c, vi = .slice g 6 c ∧ AtNN w5 g 6 (thTo (sgB q Y) im 6) := by
            obtain ⟨aa, cc, hv, hh⟩ := ho5i.at
            rw [thTo_len] at hv hh
            exact ⟨aa, cc, hv, hh⟩
          subst hv6
          have B5 := Lib.hid (B4.out.trans hb5)
          have U5 := Lib.hid hU5
          have A5 := Lib.hid at5
          have A6 := Lib.hid at6
          have L5 := Lib.hid (And.intro l5 m5)
          have L6 := Lib.hid (And.intro l6 m6)
          have O5 := Lib.hid (ho5i.mono B4.out.size)
          have G7 := Lib.hid h7
          have lx : (bd q Y xs).length ≤ 1600 := bd_len (q := q) IX.out IYY.out
          have ly : (bd q Y ys).length ≤ 1600 := bd_len (q := q) IY.out IYY.out
          clear hU5 ho5a ho5b ho5i hb5 at5 at6 l5 l6 m5 m6 h7
          obtain ⟨X', hX'⟩ : ∃ X', X' = bd q Y xs := ⟨_, rfl⟩
          obtain ⟨Y', hY'⟩ : ∃ Y', Y' = bd q Y ys := ⟨_, rfl⟩
          obtain ⟨T', hT'⟩ : ∃ T', T' = thTo (sgB q Y) im 6 := ⟨_, rfl⟩
          rw [← hX'] at US A5 L5 U5 lx NVB
          rw [← hY'] at US A6 L6 U5 ly NVB
          rw [← hT'] at US O5 G7 TSZ
          have EX := Lib.hid hX'
          have EY := Lib.hid hY'
          have ET := Lib.hid hT'
          clear hX' hY' hT'
          go_wp2_with fail
          refine (isLimit_any X' Y' T' R a5 a6 g7 X'.length Y'.length 6 c5 c6' c7 _ (by omega) (by omega) (by omega) TSZ.out U5.out A5.out A6.out G7.out).mono ?_
          cases hb : ((decide (X'.length ≤ 40) && decide (Y'.length ≤ 40)) && limB T' 6)
          · have E := Lib.hid (show ([] : List (List Nd)) = Rim ∧ (3 : Int) = Rc by
              have h1 := US.out
              rw [if_neg (by rw [okU, Bool.and_comm, hb]; simp)] at h1
              simpa using h1)
            rintro e w6 ⟨rfl, hb6⟩
            have B6 := Lib.hid (B5.out.trans (hb6.mono B5.out.size))
            clear hb6 hb
            go_wp2
            go_ret2
            exact ⟨.slice none 0 0, (by rw [← E.out.2] <;> rfl), by rw [← E.out.1]; exact ownL_nil _ _, B6.out⟩
          · have UN := Lib.hid (show uf m X' Y' T' = (Rim, Rc) by
              have h1 := US.out
              rw [if_pos (by rw [okU, Bool.and_comm, hb])] at h1
              exact h1)
            have hbb : (X'.length ≤ 40 ∧ Y'.length ≤ 40) ∧ limB T' 6 = true := by simpa using hb
            have BB := Lib.hid hbb
            rintro e w6 ⟨rfl, hb6⟩
            have B6 := Lib.hid (B5.out.trans (hb6.mono B5.out.size))
            have NN := Lib.hid (show nv X' Y' < m by have := NVB.out; have := NV.out; omega)
            have SN := Lib.hid (show UnR w6 R _ _ _ ∧ UfS w6 w.heap.size a5 a6 c5 c6' _ X' Y' T' from ⟨U5.out.keep hb6 (Nat.le_refl _), UfS.mk (A5.out.keep hb6 (Nat.le_refl _)) (A6.out.keep hb6 (Nat.le_refl _)) ⟨L5.out.1, by have := L5.out.2; unfold maxLen at this; omega⟩ ⟨L6.out.1, by have := L6.out.2; unfold maxLen at this; omega⟩
              (by have h40 := BB.out.1.1; rw [EX.out] at h40 ⊢; exact sub_is (sOK_B IYY.out) IX.out (by unfold bd at h40; exact h40)) (by have h40 := BB.out.1.2; rw [EY.out] at h40 ⊢; exact sub_is (sOK_B IYY.out) IY.out (by unfold bd at h40; exact h40))
              (O5.out.keep hb6 (Nat.le_refl _)) (by have hl := BB.out.2; rw [ET.out] at hl ⊢; exact fms_bind hS.out.2.fm hS.out.2.six IYY.out hl) (by rw [ET.out, thTo_len])⟩)
            clear hb6 hb hbb
            go_wp2
            go_roundg m
            case measure => rw [GK.out]; omega
            case rel => exact ⟨X', Y', T', _, _, _, _, _, SN, NN, UN, B6.out⟩
theorem implUnifyFormulas_v (x0 x1 : List Nd) (v : Value) (lo hi : Nat) (u : Value) (lo' hi' : Nat) (w : World) (hl : x0.length ≤ 1048576) (hl' : x1.length ≤ 1048576) (h : InN w lo hi v x0) (h' : InN w lo' hi' u x1) :
    Calls Try.prog 34 #[v, u] w fun e w' => ∃ v', e = .returned (.tuple #[v', .int .i64 (ufC x0 x1)]) ∧ OwnL w' w.heap.size v' (ufR x0 x1) ∧ Below w.heap.size w w' := by
  obtain ⟨a, cap, rfl, hat, hca0, hcb0⟩ := h.at'
  obtain ⟨a', cap', rfl, hat', hca, hcb⟩ := h'.at'
  exact implUnifyFormulas_g x0 x1 a cap a' cap' w hl hl' hat hca0 hcb0 hat' hca hcb

end Go.Proofs.Ytbhgedabcclimaa
