/- The program's reader of formulas: one letter, and the end. Conditions: those in the theorems. -/
import Derived.Test.YtpccocmiadpgiaaFr2
namespace Go.Proofs.Ytpccocmiadpgiaa
open Go.RowKit Go.Shelf

/-- What a search for a letter of a variable answers. -/
def IxC (r : Int) : Prop := ∀ w, Calls Try.prog 87 #[.string ⟨#[112, 113, 114, 115, 116, 117]⟩, .int .i32 r] w fun e w' => e = .returned (.int .i64 (vaI r)) ∧ Below w.heap.size w w'

set_option maxHeartbeats 2000000 in
set_option maxRecDepth 100000 in
theorem readPart_any (R lo n : Nat) (W : List Int) (P : List Fm) (r : Int) (w : World) (hn : n ≤ 200) (hwp : WP 0 n W P) (hlo : lo ≤ w.heap.size) (h : Fl w R lo 0 W P) (IX : IxC r) :
    Calls Try.prog 65 #[.pointer (some ⟨R, 0, none⟩), .int .i32 r] w fun e w' => ∃ b, e = .returned (.bool b) ∧ Ans w' R lo (prtR W P r) b ∧ BX R lo w w' := by
  have HWP := Lib.hid hwp
  have H := Lib.hid h
  have HX := Lib.hid IX
  have hPl : P.length ≤ 700 := by
    have := hwp.2.1; have := hwp.2.2.2; have := nb_le W; omega
  have hWl : W.length ≤ 300 := by have := hwp.2.2.2; omega
  clear hwp h IX
  by_cases e126 : r = 126
  · subst e126
    have E := Lib.hid (show prtR W P 126 = some ⟨0, -2 :: W, P⟩ from rfl)
    go_enter Try.func65, Try.ntmps65
    go_wp2_with fail
    refine (begin_any R lo 0 W P (-2) w (by omega) hlo H.out).mono ?_
    rintro e w2 ⟨⟨v, rfl⟩, hF, hB⟩
    have F2 := Lib.hid hF
    have B2 := Lib.hid hB
    clear hF hB
    go_wp2
    go_ret
    exact ⟨true, rfl, by rw [E.out]; exact ⟨rfl, F2.out⟩, B2.out⟩
  by_cases e40 : r = 40
  · subst e40
    have E := Lib.hid (show prtR W P 40 = some ⟨0, -1 :: W, P⟩ from rfl)
    go_enter Try.func65, Try.ntmps65
    go_wp2_with fail
    refine (begin_any R lo 0 W P (-1) w (by omega) hlo H.out).mono ?_
    rintro e w2 ⟨⟨v, rfl⟩, hF, hB⟩
    have F2 := Lib.hid hF
    have B2 := Lib.hid hB
    clear hF hB
    go_wp2
    go_ret
    exact ⟨true, rfl, by rw [E.out]; exact ⟨rfl, F2.out⟩, B2.out⟩
  by_cases e91 : r = 91
  · subst e91
    have E := Lib.hid (show prtR W P 91 = some ⟨1, W, P⟩ from rfl)
    obtain ⟨hF, hB, c0, f0⟩ := fl_ex H.out 1
    have F2 := Lib.hid hF
    have B2 := Lib.hid hB
    clear hF hB
    go_enter Try.func65, Try.ntmps65
    go_wp2
    go_ret
    exact ⟨true, rfl, by rw [E.out]; exact ⟨rfl, F2.out⟩, B2.out⟩
  by_cases e60 : r = 60
  · subst e60
    have E := Lib.hid (show prtR W P 60 = some ⟨2, W, P⟩ from rfl)
    obtain ⟨hF, hB, c0, f0⟩ := fl_ex H.out 2
    have F2 := Lib.hid hF
    have B2 := Lib.hid hB
    clear hF hB
    go_enter Try.func65, Try.ntmps65
    go_wp2
    go_ret
    exact ⟨true, rfl, by rw [E.out]; exact ⟨rfl, F2.out⟩, B2.out⟩
  by_cases e70 : r = 70
  · subst e70
    have E := Lib.hid (show prtR W P 70 = some ⟨3, W, .fa :: P⟩ from rfl)
    go_enter Try.func65, Try.ntmps65
    go_wp2_with fail
    refine (falseNodes_any _).mono ?_
    rintro e w1 ⟨v, rfl, ho, hb⟩
    have O1 := Lib.hid (ownsRow_mono ho hlo)
    have F1 := Lib.hid (Fl.below H.out hb)
    have B1 := Lib.hid (Below.bx (R := R) hb hlo)
    have L1 := Lib.hid (Nat.le_trans hlo hb.size)
    clear ho hb
    go_wp2_with fail
    refine (addAtom_any R lo 0 W P .fa v w1 (by omega) L1.out F1.out O1.out).mono ?_
    rintro e w2 ⟨⟨u, rfl⟩, hF, hB⟩
    have F2 := Lib.hid hF
    have B2 := Lib.hid (B1.out.trans hB)
    clear hF hB
    go_wp2
    go_ret
    exact ⟨true, rfl, by rw [E.out]; exact ⟨rfl, F2.out⟩, B2.out⟩
  by_cases e84 : r = 84
  · subst e84
    have E := Lib.hid (show prtR W P 84 = some ⟨3, W, .bi 4 .fa .fa :: P⟩ from rfl)
    go_enter Try.func65, Try.ntmps65
    go_wp2_with fail
    refine (falseNodes_any _).mono ?_
    rintro e w1 ⟨v, rfl, ho, hb⟩
    obtain ⟨a1, c1, rfl, at1, -⟩ := ho.at
    have A1 := Lib.hid at1
    have F1 := Lib.hid (Fl.below H.out hb)
    have B1 := Lib.hid (Below.bx (R := R) hb hlo)
    have L1 := Lib.hid (Nat.le_trans hlo hb.size)
    clear ho hb at1
    go_wp2_with fail
    refine (notNodes_any [(1, 0)] a1 1 c1 w1 (by decide) (by decide) A1.out).mono ?_
    rintro e w3 ⟨v3, rfl, ho, hb⟩
    have O3 := Lib.hid (ownsRow_mono ho L1.out)
    have F3 := Lib.hid (Fl.below F1.out hb)
    have B3 := Lib.hid (B1.out.trans (Below.bx (R := R) hb L1.out))
    have L3 := Lib.hid (Nat.le_trans L1.out hb.size)
    clear ho hb
    go_wp2_with fail
    refine (addAtom_any R lo 0 W P (.bi 4 .fa .fa) v3 w3 (by omega) L3.out F3.out O3.out).mono ?_
    rintro e w2 ⟨⟨u, rfl⟩, hF, hB⟩
    have F2 := Lib.hid hF
    have B2 := Lib.hid (B3.out.trans hB)
    clear hF hB
    go_wp2
    go_ret
    exact ⟨true, rfl, by rw [E.out]; exact ⟨rfl, F2.out⟩, B2.out⟩
  have E := Lib.hid (show prtR W P r = varR W P r by rw [prtR, if_neg e126, if_neg e40, if_neg e91, if_neg e60, if_neg e70, if_neg e84])
  go_enter Try.func65, Try.ntmps65
  go_wp2_with fail
  refine (readVariable_any R lo 0 n W P r w hn HWP.out hlo H.out HX.out).mono ?_
  rintro e w1 ⟨b, rfl, hA, hB⟩
  have HA := Lib.hid hA
  have HB := Lib.hid hB
  clear hA hB
  go_wp2
  go_ret
  exact ⟨b, rfl, by rw [E.out]; exact HA.out, HB.out⟩

set_option maxHeartbeats 2000000 in
set_option maxRecDepth 100000 in
theorem read_any (R lo n : Nat) (st : St) (r : Int) (w : World) (hn : n ≤ 200) (hwf : WF n st) (hlo : lo ≤ w.heap.size) (h : Fl w R lo st.ex st.W st.P) (IX : IxC r) :
    Calls Try.prog 58 #[.pointer (some ⟨R, 0, none⟩), .int .i32 r] w fun e w' => ∃ b, e = .returned (.bool b) ∧ Ans w' R lo (rdR st r) b ∧ BX R lo w w' := by
  obtain ⟨ex, W, P⟩ := st
  obtain ⟨hx, hwp⟩ := hwf
  dsimp only at hx hwp h
  obtain ⟨-, -, c0, f0⟩ := fl_ex h ex
  have H := Lib.hid h
  have HX := Lib.hid IX
  have hWl : W.length ≤ 300 := by have := hwp.2.2.2; omega
  have HWP := Lib.hid hwp
  clear hwp h IX
  by_cases x1 : ex = 1
  · subst x1
    by_cases er : r = 93
    · subst er
      have E := Lib.hid (show rdR ⟨1, W, P⟩ 93 = some ⟨0, 5 :: W, P⟩ from rfl)
      go_enter Try.func58, Try.ntmps58
      go_wp2_with fail
      refine (begin_any R lo 1 W P 5 w (by omega) hlo H.out).mono ?_
      rintro e w2 ⟨⟨v, rfl⟩, hF, hB⟩
      have F2 := Lib.hid hF
      have B2 := Lib.hid hB
      clear hF hB c0 f0
      go_wp2
      go_ret
      exact ⟨true, rfl, by rw [E.out]; exact ⟨rfl, F2.out⟩, B2.out⟩
    · have E := Lib.hid (show rdR ⟨1, W, P⟩ r = none by simp [rdR, er])
      go_enter Try.func58, Try.ntmps58
      go_wp2_with fail
      refine (begin_any R lo 1 W P 5 w (by omega) hlo H.out).mono ?_
      rintro e w2 ⟨⟨v, rfl⟩, hF, hB⟩
      have B2 := Lib.hid hB
      clear hF hB c0 f0
      go_wp2
      go_ret
      exact ⟨_, rfl, by rw [E.out]; simp [Ans, er], B2.out⟩
  by_cases x2 : ex = 2
  · subst x2
    by_cases er : r = 62
    · subst er
      have E := Lib.hid (show rdR ⟨2, W, P⟩ 62 = some ⟨0, 6 :: W, P⟩ from rfl)
      go_enter Try.func58, Try.ntmps58
      go_wp2_with fail
      refine (begin_any R lo 2 W P 6 w (by omega) hlo H.out).mono ?_
      rintro e w2 ⟨⟨v, rfl⟩, hF, hB⟩
      have F2 := Lib.hid hF
      have B2 := Lib.hid hB
      clear hF hB c0 f0
      go_wp2
      go_ret
      exact ⟨true, rfl, by rw [E.out]; exact ⟨rfl, F2.out⟩, B2.out⟩
    · have E := Lib.hid (show rdR ⟨2, W, P⟩ r = none by simp [rdR, er])
      go_enter Try.func58, Try.ntmps58
      go_wp2_with fail
      refine (begin_any R lo 2 W P 6 w (by omega) hlo H.out).mono ?_
      rintro e w2 ⟨⟨v, rfl⟩, hF, hB⟩
      have B2 := Lib.hid hB
      clear hF hB c0 f0
      go_wp2
      go_ret
      exact ⟨_, rfl, by rw [E.out]; simp [Ans, er], B2.out⟩
  by_cases x0 : ex = 0
  · subst x0
    have E := Lib.hid (show rdR ⟨0, W, P⟩ r = prtR W P r from rfl)
    have RP := Lib.hid (readPart_any R lo n W P r w hn (by have q := HWP.out; simpa using q) hlo H.out HX.out)
    go_enter Try.func58, Try.ntmps58
    go_wp2_with fail
    refine RP.out.mono ?_
    rintro e w1 ⟨b, rfl, hA, hB⟩
    have HA := Lib.hid hA
    have HB := Lib.hid hB
    clear hA hB c0 f0
    go_wp2
    go_ret
    exact ⟨b, rfl, by rw [E.out]; exact HA.out, HB.out⟩
  · obtain rfl : ex = 3 := by omega
    have E := Lib.hid (show rdR ⟨3, W, P⟩ r = lnkR W P r from rfl)
    have RL := Lib.hid (readLink_any R lo n W P r w hn (by have q := HWP.out; simpa using q) hlo H.out)
    go_enter Try.func58, Try.ntmps58
    go_wp2_with fail
    refine RL.out.mono ?_
    rintro e w1 ⟨b, rfl, hA, hB⟩
    have HA := Lib.hid hA
    have HB := Lib.hid hB
    clear hA hB c0 f0
    go_wp2
    go_ret
    exact ⟨b, rfl, by rw [E.out]; exact HA.out, HB.out⟩

set_option maxHeartbeats 2000000 in
set_option maxRecDepth 100000 in
theorem finish_any (R lo n : Nat) (st : St) (w : World) (hn : n ≤ 200) (hwf : WF n st) (hlo : lo ≤ w.heap.size) (h : Fl w R lo st.ex st.W st.P) :
    Calls Try.prog 59 #[.pointer (some ⟨R, 0, none⟩)] w fun e w' => BX R lo w w' ∧ ((ends st = none ∧ e = .returned (.tuple #[.slice none 0 0, .bool false])) ∨ ∃ f v, ends st = some f ∧ e = .returned (.tuple #[v, .bool true]) ∧ OwnN w' lo v f.enc ∧ f.sz ≤ 600) := by
  obtain ⟨ex, W, P⟩ := st
  obtain ⟨hx, hwp⟩ := hwf
  dsimp only at hx hwp h
  obtain ⟨-, -, c0, f0⟩ := fl_ex h ex
  have H := Lib.hid h
  have HWP := Lib.hid hwp
  clear hwp h
  by_cases x3 : ex = 3
  · subst x3
    have JF := Lib.hid (joinFrom_any R lo 3 n 1 W P w hn (by omega) (by omega) (by have q := HWP.out; simpa using q) hlo H.out)
    have JW := Lib.hid (jn_wp (b := 1) (by omega) W P (by have q := HWP.out; simpa using q))
    have E := Lib.hid (show ends ⟨3, W, P⟩ = (match jn 1 W P with | ([], P) => last P | _ => none) from rfl)
    obtain ⟨J, hJ⟩ : ∃ J, J = jn 1 W P := ⟨_, rfl⟩
    rw [← hJ] at JF JW E
    clear hJ
    obtain ⟨W1, P1⟩ := J
    go_enter Try.func59, Try.ntmps59
    go_wp2_with fail
    refine JF.out.mono ?_
    rintro e w1 ⟨⟨v, rfl⟩, hF, hB⟩
    have HB := Lib.hid hB
    cases W1 with
    | nil =>
      have E2 := Lib.hid (show ends ⟨3, W, P⟩ = last P1 from E.out)
      have hP1 : P1.length = 1 := by have := JW.out.2.1; simpa [nb] using this
      match P1, hP1, hF, E2 with
      | [f], _, hF, E2 =>
        have E3 := Lib.hid (show ends ⟨3, W, P⟩ = some f from E2.out)
        obtain ⟨a, c, c1⟩ := fl_empty hF
        obtain ⟨vW, vP, us, hR, hRl, hW, hP, hPa⟩ := hF
        obtain ⟨-, -, c2, -, -, -⟩ := fl_cells hR
        obtain ⟨g, cP, rfl, hgl⟩ := row_some hP (by simp)
        have hcell := hP.cellAt 0 (by simp)
        have hul : us.length = 1 := by have := hP.1; simpa using this
        rw [atV_some (by omega)] at hcell
        have FZ := Lib.hid (show f.sz ≤ 600 by have q := JW.out.2.2.2; simp only [ms'] at q; omega)
        have ho := hPa 0 (by simp)
        have OO := Lib.hid (show OwnN w1 lo (atV us 0) f.enc from ho)
        obtain ⟨u, hu⟩ : ∃ u, u = atV us 0 := ⟨_, rfl⟩
        rw [← hu] at hcell OO
        simp only [List.length_cons, List.length_nil] at c2
        clear hR hW hP hPa hul ho hu hB
        go_wp2
        go_ret2
        exact ⟨HB.out, .inr ⟨f, u, E3.out, rfl, OO.out, FZ.out⟩⟩
    | cons m W2 =>
      have E2 := Lib.hid (show ends ⟨3, W, P⟩ = none from E.out)
      obtain ⟨g0, cW, c1, f1, cm, hcap, -, -, -⟩ := fl_pop (Nat.le_trans hlo hB.size) hF
      have hi : (0 : Int) < (W2.length : Int) + 1 := by omega
      clear hF hB
      go_wp2
      go_ret2
      exact ⟨HB.out, .inl ⟨E2.out, rfl⟩⟩
  · have E := Lib.hid (show ends ⟨ex, W, P⟩ = none by unfold ends; rw [if_neg x3])
    have hx3 : ¬ (ex : Int) = 3 := by omega
    go_enter Try.func59, Try.ntmps59
    go_wp2
    go_ret2
    exact ⟨BX.refl _ _ _, .inl ⟨E.out, rfl⟩⟩

end Go.Proofs.Ytpccocmiadpgiaa
