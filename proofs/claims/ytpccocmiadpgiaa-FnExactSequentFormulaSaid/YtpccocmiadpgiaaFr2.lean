/- The program's reader of formulas: the methods that take a letter. Conditions: those in the theorems. -/
import Derived.Test.YtpccocmiadpgiaaFk2
import Derived.Test.YtpccocmiadpgiaaJn02
import Derived.Test.YtpccocmiadpgiaaIxr
namespace Go.Proofs.Ytpccocmiadpgiaa
open Go.RowKit Go.Shelf

/-- The next state behind a letter, told by its number. -/
def lnkR (W : List Int) (P : List Fm) (r : Int) : Option St :=
  if r = 38 then some ⟨0, 2 :: (jn 3 W P).1, (jn 3 W P).2⟩
  else if r = 124 then some ⟨0, 3 :: (jn 2 W P).1, (jn 2 W P).2⟩
  else if r = 62 then some ⟨0, 4 :: (jn 2 W P).1, (jn 2 W P).2⟩
  else if r = 41 then closed (jn 1 W P) else none
def varR (W : List Int) (P : List Fm) (r : Int) : Option St := if 112 ≤ r ∧ r ≤ 117 then some ⟨3, W, .va (r - 112) :: P⟩ else none
def prtR (W : List Int) (P : List Fm) (r : Int) : Option St :=
  if r = 126 then some ⟨0, -2 :: W, P⟩ else if r = 40 then some ⟨0, -1 :: W, P⟩ else if r = 91 then some ⟨1, W, P⟩ else if r = 60 then some ⟨2, W, P⟩
  else if r = 70 then some ⟨3, W, .fa :: P⟩ else if r = 84 then some ⟨3, W, .bi 4 .fa .fa :: P⟩ else varR W P r
def rdR (st : St) (r : Int) : Option St :=
  if st.ex = 1 then (if r = 93 then some ⟨0, 5 :: st.W, st.P⟩ else none)
  else if st.ex = 2 then (if r = 62 then some ⟨0, 6 :: st.W, st.P⟩ else none)
  else if st.ex = 0 then prtR st.W st.P r else lnkR st.W st.P r
theorem u8_int (c : UInt8) (k : Nat) (hk : k < 256) : ((c.toNat : Int) = (k : Int)) ↔ c = UInt8.ofNat k := by
  constructor
  · intro h
    have : c.toNat = k := by omega
    rw [← this]; simp
  · intro h
    subst h
    simp [Nat.mod_eq_of_lt hk]
theorem rd_stp (st : St) (c : UInt8) : rdR st (c.toNat : Int) = stp st c := by
  unfold rdR stp prtR lnkR varR
  have e : ∀ k : Nat, k < 256 → (((c.toNat : Int) = (k : Int)) = (c = UInt8.ofNat k)) := fun k hk => propext (u8_int c k hk)
  have e93 := e 93 (by decide); have e62 := e 62 (by decide); have e126 := e 126 (by decide); have e40 := e 40 (by decide); have e91 := e 91 (by decide); have e60 := e 60 (by decide); have e70 := e 70 (by decide); have e84 := e 84 (by decide); have e38 := e 38 (by decide); have e124 := e 124 (by decide); have e41 := e 41 (by decide)
  have ev : (((112 : Int) ≤ (c.toNat : Int) ∧ (c.toNat : Int) ≤ 117)) = (112 ≤ c ∧ c ≤ 117) := propext ⟨fun h => ⟨by rw [UInt8.le_iff_toNat_le]; show 112 ≤ c.toNat; omega, by rw [UInt8.le_iff_toNat_le]; show c.toNat ≤ 117; omega⟩, fun h => by
    have h1 := UInt8.le_iff_toNat_le.1 h.1
    have h2 := UInt8.le_iff_toNat_le.1 h.2
    exact ⟨by have : (112 : UInt8).toNat = 112 := rfl; omega, by have : (117 : UInt8).toNat = 117 := rfl; omega⟩⟩
  simp only [Int.cast_ofNat_Int] at e93 e62 e126 e40 e91 e60 e70 e84 e38 e124 e41
  simp only [e93, e62, e126, e40, e91, e60, e70, e84, e38, e124, e41, ev]
  rfl

theorem al_keep (w : World) (o : Obj) : Below w.heap.size w (w.alloc o) ∧ w.heap.size + 1 ≤ (w.alloc o).heap.size := ⟨(Below.refl _ _).alloc (Nat.le_refl _) _, by simp⟩
theorem fl_ex {w : World} {R lo ex : Nat} {W : List Int} {P : List Fm} (h : Fl w R lo ex W P) (e : Nat) : Fl (w.setCell ⟨R, 0, none⟩ (.int .i64 e)) R lo e W P ∧ BX R lo w (w.setCell ⟨R, 0, none⟩ (.int .i64 e)) ∧ w.cell? ⟨R, 0, none⟩ = some (.int .i64 ex) ∧ w.frozen? ⟨R, 0, none⟩ = false := by
  obtain ⟨vW, vP, us, hR, hRl, hW, hP, hPa⟩ := h
  obtain ⟨c0, -, -, f0, -, -⟩ := fl_cells hR
  exact ⟨⟨vW, vP, us, set_heap hR 0 _, hRl, row_set hW hR (Ne.symm tys.2.2.1) 0 _, row_set hP hR (Ne.symm tys.2.2.2.2.1) 0 _, hPa.kept (grown_set w R 0 _) (rec_other hR (Ne.symm tys.2.2.2.2.2))⟩, (BX.refl R lo w).setCell (p := ⟨R, 0, none⟩) (.inl rfl) _, c0, f0⟩

theorem Fl.below {w w1 : World} {R lo ex : Nat} {W : List Int} {P : List Fm} (h : Fl w R lo ex W P) (hb : Below w.heap.size w w1) : Fl w1 R lo ex W P := by
  obtain ⟨vW, vP, us, hR, hRl, hW, hP, hPa⟩ := h
  exact ⟨vW, vP, us, (hb.block R (Array.getElem?_eq_some_iff.1 hR).1).trans hR, hRl, ownsRow_below hW (row_lt hW) hb, ownsRow_below hP (row_lt hP) hb, hPa.below hb⟩

set_option maxHeartbeats 2000000 in
set_option maxRecDepth 100000 in
theorem readLink_any (R lo n : Nat) (W : List Int) (P : List Fm) (r : Int) (w : World) (hn : n ≤ 200) (hwp : WP 1 n W P) (hlo : lo ≤ w.heap.size) (h : Fl w R lo 3 W P) :
    Calls Try.prog 66 #[.pointer (some ⟨R, 0, none⟩), .int .i32 r] w fun e w' => ∃ b, e = .returned (.bool b) ∧ Ans w' R lo (lnkR W P r) b ∧ BX R lo w w' := by
  have HWP := Lib.hid hwp
  have H := Lib.hid h
  clear hwp h
  by_cases e38 : r = 38
  · subst e38
    have JF := Lib.hid (joinFrom_any R lo 3 n 3 W P w hn (by omega) (by omega) HWP.out hlo H.out)
    have JW := Lib.hid (jn_wp (b := 3) (by omega) W P HWP.out)
    have E := Lib.hid (show lnkR W P 38 = some ⟨0, 2 :: (jn 3 W P).1, (jn 3 W P).2⟩ from rfl)
    obtain ⟨J, hJ⟩ : ∃ J, J = jn 3 W P := ⟨_, rfl⟩
    rw [← hJ] at JF JW E
    clear hJ
    obtain ⟨W1, P1⟩ := J
    have hl3 : W1.length ≤ 300 := by have := JW.out.2.2.2; dsimp only at this; omega
    go_enter Try.func66, Try.ntmps66
    go_wp2_with fail
    refine JF.out.mono ?_
    rintro e w1 ⟨⟨v, rfl⟩, hF, hB⟩
    have F1 := Lib.hid hF
    have B1 := Lib.hid hB
    have L1 := Lib.hid (Nat.le_trans hlo hB.size)
    clear hF hB
    go_wp2_with fail
    refine (begin_any R lo 3 W1 P1 2 w1 (by omega) L1.out F1.out).mono ?_
    rintro e w2 ⟨⟨v, rfl⟩, hF, hB⟩
    have F2 := Lib.hid hF
    have B2 := Lib.hid (B1.out.trans hB)
    clear hF hB
    go_wp2
    go_ret
    exact ⟨true, rfl, by rw [E.out]; exact ⟨rfl, F2.out⟩, B2.out⟩
  by_cases e124 : r = 124
  · subst e124
    have JF := Lib.hid (joinFrom_any R lo 3 n 2 W P w hn (by omega) (by omega) HWP.out hlo H.out)
    have JW := Lib.hid (jn_wp (b := 2) (by omega) W P HWP.out)
    have E := Lib.hid (show lnkR W P 124 = some ⟨0, 3 :: (jn 2 W P).1, (jn 2 W P).2⟩ from rfl)
    obtain ⟨J, hJ⟩ : ∃ J, J = jn 2 W P := ⟨_, rfl⟩
    rw [← hJ] at JF JW E
    clear hJ
    obtain ⟨W1, P1⟩ := J
    have hl3 : W1.length ≤ 300 := by have := JW.out.2.2.2; dsimp only at this; omega
    go_enter Try.func66, Try.ntmps66
    go_wp2_with fail
    refine JF.out.mono ?_
    rintro e w1 ⟨⟨v, rfl⟩, hF, hB⟩
    have F1 := Lib.hid hF
    have B1 := Lib.hid hB
    have L1 := Lib.hid (Nat.le_trans hlo hB.size)
    clear hF hB
    go_wp2_with fail
    refine (begin_any R lo 3 W1 P1 3 w1 (by omega) L1.out F1.out).mono ?_
    rintro e w2 ⟨⟨v, rfl⟩, hF, hB⟩
    have F2 := Lib.hid hF
    have B2 := Lib.hid (B1.out.trans hB)
    clear hF hB
    go_wp2
    go_ret
    exact ⟨true, rfl, by rw [E.out]; exact ⟨rfl, F2.out⟩, B2.out⟩
  by_cases e62 : r = 62
  · subst e62
    have JF := Lib.hid (joinFrom_any R lo 3 n 2 W P w hn (by omega) (by omega) HWP.out hlo H.out)
    have JW := Lib.hid (jn_wp (b := 2) (by omega) W P HWP.out)
    have E := Lib.hid (show lnkR W P 62 = some ⟨0, 4 :: (jn 2 W P).1, (jn 2 W P).2⟩ from rfl)
    obtain ⟨J, hJ⟩ : ∃ J, J = jn 2 W P := ⟨_, rfl⟩
    rw [← hJ] at JF JW E
    clear hJ
    obtain ⟨W1, P1⟩ := J
    have hl3 : W1.length ≤ 300 := by have := JW.out.2.2.2; dsimp only at this; omega
    go_enter Try.func66, Try.ntmps66
    go_wp2_with fail
    refine JF.out.mono ?_
    rintro e w1 ⟨⟨v, rfl⟩, hF, hB⟩
    have F1 := Lib.hid hF
    have B1 := Lib.hid hB
    have L1 := Lib.hid (Nat.le_trans hlo hB.size)
    clear hF hB
    go_wp2_with fail
    refine (begin_any R lo 3 W1 P1 4 w1 (by omega) L1.out F1.out).mono ?_
    rintro e w2 ⟨⟨v, rfl⟩, hF, hB⟩
    have F2 := Lib.hid hF
    have B2 := Lib.hid (B1.out.trans hB)
    clear hF hB
    go_wp2
    go_ret
    exact ⟨true, rfl, by rw [E.out]; exact ⟨rfl, F2.out⟩, B2.out⟩
  by_cases e41 : r = 41
  · subst e41
    have CL := Lib.hid (closeParenthesis_any R lo n W P w hn HWP.out hlo H.out)
    have E := Lib.hid (show lnkR W P 41 = closed (jn 1 W P) from rfl)
    go_enter Try.func66, Try.ntmps66
    go_wp2_with fail
    refine CL.out.mono ?_
    rintro e w1 ⟨b, rfl, hA, hB⟩
    have HA := Lib.hid hA
    have HB := Lib.hid hB
    clear hA hB
    go_wp2
    go_ret
    exact ⟨b, rfl, by rw [E.out]; exact HA.out, HB.out⟩
  have E := Lib.hid (show lnkR W P r = none by rw [lnkR, if_neg e38, if_neg e124, if_neg e62, if_neg e41])
  go_enter Try.func66, Try.ntmps66
  go_wp2
  go_ret
  exact ⟨false, rfl, by rw [E.out]; exact rfl, BX.refl _ _ _⟩

set_option maxHeartbeats 2000000 in
set_option maxRecDepth 100000 in
theorem readVariable_any (R lo ex n : Nat) (W : List Int) (P : List Fm) (r : Int) (w : World) (hn : n ≤ 200) (hwp : WP 0 n W P) (hlo : lo ≤ w.heap.size) (h : Fl w R lo ex W P)
    (IX : ∀ w, Calls Try.prog 87 #[.string ⟨#[112, 113, 114, 115, 116, 117]⟩, .int .i32 r] w fun e w' => e = .returned (.int .i64 (vaI r)) ∧ Below w.heap.size w w') :
    Calls Try.prog 77 #[.pointer (some ⟨R, 0, none⟩), .int .i32 r] w fun e w' => ∃ b, e = .returned (.bool b) ∧ Ans w' R lo (varR W P r) b ∧ BX R lo w w' := by
  have HX := Lib.hid IX
  have H := Lib.hid h
  have hPl : P.length ≤ 700 := by
    have := hwp.2.1; have := hwp.2.2.2; have := nb_le W; omega
  clear IX h hwp
  by_cases hv : 112 ≤ r ∧ r ≤ 117
  · have E := Lib.hid (show varR W P r = some ⟨3, W, .va (r - 112) :: P⟩ by rw [varR, if_pos hv])
    have V := Lib.hid (show vaI r = r - 112 by rw [vaI, if_pos hv])
    obtain ⟨v, hvv⟩ : ∃ v, v = r - 112 := ⟨_, rfl⟩
    rw [← hvv] at E V
    have hv0 : ¬ v < 0 := by omega
    have hv1 : 0 ≤ v := by omega
    clear hvv hv
    go_enter Try.func77, Try.ntmps77
    go_wp2_with fail
    refine (HX.out _).mono ?_
    rw [V.out]
    rintro e w1 ⟨rfl, hb⟩
    have B1 := Lib.hid (Below.bx (R := R) hb hlo)
    have F1 := Lib.hid (Fl.below H.out hb)
    have L1 := Lib.hid (Nat.le_trans hlo hb.size)
    clear hb
    have OV := Lib.hid (show OwnN (w1.alloc (.cells #[.int .i64 0, .int .i64 v] 55)) lo (.slice (some ⟨w1.heap.size, 0, none⟩) 1 1) (Fm.va v).enc from World.ownsRow_lit w1 #[.int .i64 0, .int .i64 v] 1 L1.out (by decide) rfl)
    have F2 := Lib.hid (Fl.below F1.out (al_keep w1 (.cells #[.int .i64 0, .int .i64 v] 55)).1)
    have B2 := Lib.hid (B1.out.trans (Below.bx (R := R) (al_keep w1 (.cells #[.int .i64 0, .int .i64 v] 55)).1 L1.out))
    go_wp2_with fail
    refine (addAtom_any R lo ex W P (.va v) _ _ (by omega) (Nat.le_trans L1.out (al_keep _ _).1.size) F2.out OV.out).mono ?_
    rintro e w3 ⟨⟨u, rfl⟩, hF, hB⟩
    have F3 := Lib.hid hF
    have B3 := Lib.hid (B2.out.trans hB)
    clear hF hB
    go_wp2
    go_ret
    exact ⟨true, rfl, by rw [E.out]; exact ⟨rfl, F3.out⟩, B3.out⟩
  · have E := Lib.hid (show varR W P r = none by rw [varR, if_neg hv])
    have V := Lib.hid (show vaI r = -1 by rw [vaI, if_neg hv])
    go_enter Try.func77, Try.ntmps77
    go_wp2_with fail
    refine (HX.out _).mono ?_
    rw [V.out]
    rintro e w1 ⟨rfl, hb⟩
    have B1 := Lib.hid (Below.bx (R := R) hb hlo)
    clear hb
    go_wp2
    go_ret
    exact ⟨false, rfl, by rw [E.out]; exact rfl, B1.out⟩

end Go.Proofs.Ytpccocmiadpgiaa
