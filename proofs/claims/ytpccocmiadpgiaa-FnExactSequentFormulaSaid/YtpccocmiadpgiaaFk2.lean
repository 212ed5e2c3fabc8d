/- The program's reader of formulas: the method that joins from a binding on. Conditions: those in the theorems. -/
import Derived.Sort.LoopGhostIn
import Derived.Test.YtpccocmiadpgiaaJn09
namespace Go.Proofs.Ytpccocmiadpgiaa
open Go.RowKit

theorem wV_last (m : Int) (W : List Int) : (wV (m :: W))[W.length]? = some (.int .i64 m) := by
  rw [← wV_cons, List.getElem?_append_right (by simp [wV])]
  simp [wV]
theorem wV_take (m : Int) (W : List Int) : (wV (m :: W)).take W.length = wV W := by
  rw [← wV_cons, List.take_append_of_le_length (by simp [wV]), List.take_of_length_le (by simp [wV])]
theorem fl_pop {w : World} {R lo ex : Nat} {m : Int} {W : List Int} {P : List Fm} (hlo : lo ≤ w.heap.size) (h : Fl w R lo ex (m :: W) P) :
    ∃ g cW, w.cell? ⟨R, 1, none⟩ = some (.slice (some ⟨g, 0, none⟩) (W.length + 1) cW) ∧ w.frozen? ⟨R, 1, none⟩ = false ∧ w.cell? ⟨g, W.length, none⟩ = some (.int .i64 m) ∧ W.length + 1 ≤ cW ∧
      Fl (w.setCell ⟨R, 1, none⟩ (.slice (some ⟨g, 0, none⟩) W.length cW)) R lo ex W P ∧ BX R lo w (w.setCell ⟨R, 1, none⟩ (.slice (some ⟨g, 0, none⟩) W.length cW)) ∧ lo ≤ (w.setCell ⟨R, 1, none⟩ (.slice (some ⟨g, 0, none⟩) W.length cW)).heap.size := by
  obtain ⟨vW, vP, us, hR, hRl, hW, hP, hPa⟩ := h
  obtain ⟨g, cW, rfl, hgl⟩ := row_some hW (by simp)
  simp only [List.length_cons] at hW hR
  obtain ⟨-, c1, -, -, f1, -⟩ := fl_cells hR
  have hc := hW.cellAt W.length (by omega)
  rw [wV_last] at hc
  have hcap : W.length + 1 ≤ cW := by
    rcases hW.2 with ⟨e, -⟩ | ⟨g', cap, cur, hv, -, -, hcc, -⟩
    · cases e
    · cases hv; exact hcc
  have hW2 := row_take hW W.length (by omega)
  rw [wV_take] at hW2
  have hRw : R < w.heap.size := (Array.getElem?_eq_some_iff.1 hR).1
  exact ⟨g, cW, c1, f1, hc, hcap, ⟨_, vP, us, set_heap hR 1 _, hRl, row_set hW2 hR (Ne.symm tys.2.2.1) 1 _, row_set hP hR (Ne.symm tys.2.2.2.2.1) 1 _, hPa.kept (grown_set w R 1 _) (rec_other hR (Ne.symm tys.2.2.2.2.2))⟩, (BX.refl R lo w).setCell (p := ⟨R, 1, none⟩) (.inl rfl) _, by simpa [World.setCell] using hlo⟩
theorem fl_empty {w : World} {R lo ex : Nat} {P : List Fm} (h : Fl w R lo ex [] P) : ∃ a c, w.cell? ⟨R, 1, none⟩ = some (.slice a 0 c) := by
  obtain ⟨vW, vP, us, hR, hRl, hW, hP, hPa⟩ := h
  obtain ⟨aW, cW, rfl⟩ := row_slice hW
  exact ⟨aW, cW, (fl_cells hR).2.1⟩
theorem Fl.lt {w : World} {R lo ex : Nat} {W : List Int} {P : List Fm} (h : Fl w R lo ex W P) : R < w.heap.size := by
  obtain ⟨vW, vP, us, hR, -⟩ := h
  exact (Array.getElem?_eq_some_iff.1 hR).1

set_option maxHeartbeats 4000000 in
set_option maxRecDepth 100000 in
theorem joinFrom_any (R lo ex n b : Nat) (W : List Int) (P : List Fm) (w : World) (hn : n ≤ 200) (hb1 : 1 ≤ b) (hb3 : b ≤ 3) (hwp : WP 1 n W P) (hlo : lo ≤ w.heap.size) (h : Fl w R lo ex W P) :
    Calls Try.prog 67 #[.pointer (some ⟨R, 0, none⟩), .int .i64 b] w fun e w' => (∃ v, e = .returned v) ∧ Fl w' R lo ex (jn b W P).1 (jn b W P).2 ∧ BX R lo w w' := by
  have H := Lib.hid h
  have HWP := Lib.hid hwp
  have hlen : W.length ≤ 300 := by have := hwp.2.2.2; omega
  obtain ⟨J, hJ⟩ : ∃ J, J = jn b W P := ⟨_, rfl⟩
  have JJ := Lib.hid hJ.symm
  rw [← hJ]
  clear h hwp hJ
  go_enter Try.func67, Try.ntmps67
  go_wp2
  go_loopg [6] (W.length + 1) (fun g _ wr => ∃ (W' : List Int) (P' : List Fm), W'.length < g ∧ W'.length ≤ 300 ∧ Hid (WP 1 n W' P') ∧ Hid (jn b W' P' = J) ∧ Hid (Fl wr R lo ex W' P') ∧ Hid (BX R lo w wr) ∧ lo ≤ wr.heap.size)
  case atStart => exact ⟨W, P, by omega, hlen, HWP, JJ, H, Lib.hid (BX.refl _ _ _), hlo⟩
  case round =>
    obtain ⟨W', P', hg, hl3, HP, HJ, HF, HB, hlo2⟩ := hrel
    cases W' with
    | nil =>
      obtain ⟨a, c, c1⟩ := fl_empty HF.out
      have E := Lib.hid (show J = ([], P') from HJ.out.symm)
      go_wp2
      go_end0
      exact ⟨⟨_, rfl⟩, by rw [E.out]; exact HF.out, HB.out⟩
    | cons m W2 =>
      obtain ⟨g0, cW, c1, f1, cm, hcap, hF2, hB2, hlo3⟩ := fl_pop hlo2 HF.out
      have F2 := Lib.hid hF2
      have B2 := Lib.hid hB2
      have L3 := Lib.hid hlo3
      obtain ⟨L, hL⟩ : ∃ L, L = W2.length := ⟨_, rfl⟩
      simp only [List.length_cons, ← hL] at hg hl3
      rw [← hL] at c1 cm hcap F2 B2 L3
      have HL := Lib.hid hL
      clear hF2 hB2 hlo3 hL
      have hi0 : (0 : Int) ≤ (L : Int) := by omega
      have hi1 : (0 : Int) < (L : Int) + 1 := by omega
      have hi2 : IntKind.i64.wrap ((L : Int) + 1 - 1) = (L : Int) := by rw [IntKind.wrap_i64]; omega
      have hi3 : (L : Int) < (L : Int) + 1 := by omega
      have hi4 : (L : Int) ≤ (cW : Int) := by omega
      by_cases hb : bnd m < b
      · have E := Lib.hid (show J = (m :: W2, P') by rw [← HJ.out, jn, if_pos hb])
        have hbi : ((bnd m : Nat) : Int) < (b : Int) := by omega
        go_wp2_with (go_at_call 79; refine (bindOf_any _ _).mono ?_; rintro e w' ⟨rfl, rfl⟩)
        exact bodyPost_ret (results_none rfl _ _ _) rfl ⟨⟨_, rfl⟩, by rw [E.out]; exact HF.out, HB.out⟩
      · have E := Lib.hid (show jn b W2 (jp m P') = J by rw [← HJ.out, jn, if_neg hb])
        have hbi : ¬ ((bnd m : Nat) : Int) < (b : Int) := by omega
        have hm1 : m ≠ -1 := fun e => by subst e; exact hb (by show 0 < b; omega)
        have NP := Lib.hid (jp_wp HP.out hm1)
        go_wp2_with (first | (go_at_call 79; refine (bindOf_any _ _).mono ?_; rintro e w' ⟨rfl, rfl⟩) | (go_at_call 80; fail))
        refine (joinParts_any R lo ex n m W2 P' _ hn HP.out hm1 L3.out F2.out).mono ?_
        rintro e w2 ⟨⟨v, rfl⟩, hF, hB⟩
        have F3 := Lib.hid hF
        have B3 := Lib.hid (HB.out.trans (B2.out.trans hB))
        have L4 := Lib.hid (Nat.le_trans L3.out hB.size)
        clear hF hB
        go_wp2
        go_roundg (L + 1)
        case rel => exact ⟨W2, jp m P', by have := HL.out; omega, by have := HL.out; omega, NP, E, F3, B3, L4.out⟩
        case measure => omega

/-- What a method of the reader answers, and its record behind it. -/
def Ans (w : World) (R lo : Nat) (o : Option St) (b : Bool) : Prop := match o with
  | none => b = false
  | some st => b = true ∧ Fl w R lo st.ex st.W st.P

set_option maxHeartbeats 4000000 in
set_option maxRecDepth 100000 in
theorem closeParenthesis_any (R lo n : Nat) (W : List Int) (P : List Fm) (w : World) (hn : n ≤ 200) (hwp : WP 1 n W P) (hlo : lo ≤ w.heap.size) (h : Fl w R lo 3 W P) :
    Calls Try.prog 78 #[.pointer (some ⟨R, 0, none⟩)] w fun e w' => ∃ b, e = .returned (.bool b) ∧ Ans w' R lo (closed (jn 1 W P)) b ∧ BX R lo w w' := by
  have JF := Lib.hid (joinFrom_any R lo 3 n 1 W P w hn (by omega) (by omega) hwp hlo h)
  have JW := Lib.hid (jn_wp (b := 1) (by omega) W P hwp)
  clear h hwp
  obtain ⟨J, hJ⟩ : ∃ J, J = jn 1 W P := ⟨_, rfl⟩
  rw [← hJ] at JF JW ⊢
  clear hJ
  obtain ⟨W1, P1⟩ := J
  go_enter Try.func78, Try.ntmps78
  go_wp2_with fail
  refine JF.out.mono ?_
  rintro e w1 ⟨⟨v, rfl⟩, hF, hB⟩
  have HB := Lib.hid hB
  cases W1 with
  | nil =>
    obtain ⟨a, c, c1⟩ := fl_empty hF
    clear hF hB
    go_wp2
    go_ret
    exact ⟨false, rfl, rfl, HB.out⟩
  | cons m W2 =>
    obtain ⟨g0, cW, c1, f1, cm, hcap, hF2, hB2, hlo3⟩ := fl_pop (Nat.le_trans hlo hB.size) hF
    have F2 := Lib.hid hF2
    have B2 := Lib.hid (hB.trans hB2)
    have hl3 : W2.length ≤ 300 := by
      have h := JW.out.2.2.2
      simp only [List.length_cons] at h
      omega
    obtain ⟨L, hL⟩ : ∃ L, L = W2.length := ⟨_, rfl⟩
    rw [← hL] at c1 cm hcap F2 B2 hl3
    clear hF hB hF2 hB2 hlo3 hL
    have hi0 : (0 : Int) ≤ (L : Int) := by omega
    have hi2 : IntKind.i64.wrap ((L : Int) + 1 - 1) = (L : Int) := by rw [IntKind.wrap_i64]; omega
    have hi4 : (L : Int) ≤ (cW : Int) := by omega
    go_wp2
    go_region
    all_goals
      go_wp2
      go_ret
      exact ⟨true, rfl, (show true = true ∧ Fl _ R lo 3 W2 P1 from ⟨rfl, F2.out⟩), BX.drew B2.out⟩

end Go.Proofs.Ytpccocmiadpgiaa
