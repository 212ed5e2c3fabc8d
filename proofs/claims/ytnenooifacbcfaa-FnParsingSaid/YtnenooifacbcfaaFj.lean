/- The program's reader of formulas: the contract of the method that joins the last parts. Conditions: those in the theorems. -/
import Derived.Deep.RegionWith
import Derived.BigRegion
import Derived.Test.YtnenooifacbcfaaFl
import Derived.Test.YtnenooifacbcfaaJn08
namespace Go.Proofs.Ytnenooifacbcfaa
open Go.RowKit

theorem Pa.set {w : World} {lo : Nat} {P : List Fm} {us : List Value} {b f : Fm} {v : Value} (h : Pa w lo (b :: P) us) (hl : us.length = P.length + 1) (hv : OwnN w lo v f.enc) : Pa w lo (f :: P) (us.set P.length v) := by
  intro j hj
  simp only [List.length_cons] at hj
  rw [atV_set]
  by_cases e : j = P.length
  · subst e
    rw [if_pos ⟨rfl, by omega⟩]
    have e2 : nthF (f :: P).reverse P.length = f := by unfold nthF; simp [List.getD_eq_getElem?_getD]
    rw [e2]
    exact hv
  · rw [if_neg (by omega)]
    have hj2 : j < P.length := by omega
    have := h j (by simp; omega)
    have e2 : nthF (f :: P).reverse j = nthF (b :: P).reverse j := by unfold nthF; simp [List.getD_eq_getElem?_getD, List.getElem?_append, hj2]
    rw [e2]
    exact this
theorem Pa.top {w : World} {lo : Nat} {P : List Fm} {us : List Value} {b : Fm} (h : Pa w lo (b :: P) us) : OwnN w lo (atV us P.length) b.enc := by
  have := h P.length (by simp)
  have e2 : nthF (b :: P).reverse P.length = b := by unfold nthF; simp [List.getD_eq_getElem?_getD]
  rwa [e2] at this
theorem Pa.pop {w : World} {lo : Nat} {P : List Fm} {us : List Value} {b : Fm} (h : Pa w lo (b :: P) us) : Pa w lo P (us.take P.length) := by
  intro j hj
  have := h j (by simp; omega)
  have e1 : atV (us.take P.length) j = atV us j := by unfold atV; simp [List.getD_eq_getElem?_getD, hj]
  have e2 : nthF (b :: P).reverse j = nthF P.reverse j := by unfold nthF; simp [List.getD_eq_getElem?_getD, List.getElem?_append, hj]
  rw [e1, ← e2]
  exact this

/-- What stands behind a call that only makes memory, for the store of its result into a row. -/

theorem Pa.below {w w1 : World} {lo : Nat} {P : List Fm} {us : List Value} (h : Pa w lo P us) (hb : Below w.heap.size w w1) : Pa w1 lo P us := fun j hj => ownsRow_below (h j hj) (row_lt (h j hj)) hb
/-- The last part is another one. -/
theorem fl_put {w w1 : World} {R lo ex g cP : Nat} {W : List Int} {P : List Fm} {b f : Fm} {us : List Value} {vW v : Value} (hR : w.heap[R]? = some (.cells #[.int .i64 ex, vW, .slice (some ⟨g, 0, none⟩) (P.length + 1) cP] 48 (0, 0))) (hRl : True) (hW : w.ownsRow lo 2 1 vW W.length (wV W))
    (hP : w.ownsRow lo 25 1 (.slice (some ⟨g, 0, none⟩) (P.length + 1) cP) (P.length + 1) us) (hPa : Pa w lo (b :: P) us) (hlo : lo ≤ w.heap.size) (hb : Below w.heap.size w w1) (ho : OwnN w1 w.heap.size v f.enc) :
    Fl (w1.setCell ⟨g, P.length, none⟩ v) R lo ex W (f :: P) ∧ BX R lo w (w1.setCell ⟨g, P.length, none⟩ v) := by
  have hul := hP.1
  have hR1 := (hb.block R (Array.getElem?_eq_some_iff.1 hR).1).trans hR
  have hW1 := ownsRow_below hW (row_lt hW) hb
  have hP1 := ownsRow_below hP (row_lt hP) hb
  have hPa1 := (hPa.below hb).set (by omega) (ownsRow_mono ho hlo)
  have hst := hP1.stored P.length v
  have hgl : lo ≤ g := (row_type hP g rfl).1
  exact ⟨⟨vW, _, _, rec_kept hR1 hst.2 (row_other hP1 tys.2.2.2.2.1), hRl, row_kept hW1 hst.2 (row_other hP1 (Ne.symm tys.1)), hst.1, hPa1.kept hst.2 (row_other hP1 tys.2.2.2.1)⟩, (Below.bx hb hlo).setCell (p := ⟨g, P.length, none⟩) (.inr hgl) v⟩

set_option maxHeartbeats 4000000 in
theorem joinNot_any (R lo ex : Nat) (W : List Int) (P : List Fm) (b : Fm) (w : World) (hl : P.length ≤ 4096) (hlo : lo ≤ w.heap.size) (hs : b.sz ≤ 4096) (h : Fl w R lo ex W (b :: P)) :
    Calls Try.prog 62 #[.pointer (some ⟨R, 0, none⟩), .int .i64 (-2)] w fun e w' => (∃ v, e = .returned v) ∧ Fl w' R lo ex W (.bi 4 b .fa :: P) ∧ BX R lo w w' := by
  obtain ⟨vW, vP, us, hR, hRl, hW, hP, hPa⟩ := h
  obtain ⟨c0, c1, c2, f0, f1, f2⟩ := fl_cells hR
  have hul : us.length = P.length + 1 := by have := hP.1; simpa using this
  obtain ⟨g, cP, rfl, hgl⟩ := row_some hP (by simp)
  simp only [List.length_cons] at hP c2 ⊢
  have hcell := hP.cellAt P.length (by omega)
  rw [atV_some (by omega)] at hcell
  have hfro : w.frozen? ⟨g, P.length, none⟩ = false := hP.frozenAt _
  obtain ⟨aF, cF, hvF, atF, -⟩ := hPa.top.at
  rw [hvF] at hcell
  have hsz := Fm.enc_len b
  have hpos := b.sz_pos
  obtain ⟨nF, hnF⟩ : ∃ n, n = b.enc.length := ⟨_, rfl⟩
  have hn1 : nF ≤ 4096 := by omega
  have hn0 : 0 < nF := by omega
  rw [← hnF] at hcell atF
  have HR := Lib.hid hR
  have HW := Lib.hid hW
  have HP := Lib.hid hP
  have HPa := Lib.hid hPa
  have UL := Lib.hid hul
  have AF := Lib.hid atF
  have hi0 : (0 : Int) ≤ (P.length : Int) := by omega
  have hwr : IntKind.i64.wrap ((P.length : Int) + 1 - 1) = (P.length : Int) := by rw [IntKind.wrap_i64]; omega
  have hRw : R < w.heap.size := (Array.getElem?_eq_some_iff.1 hR).1
  clear hR hW hP hPa hul atF hnF hvF hsz hs hpos
  go_enter Try.func62, Try.ntmps62
  go_wp2
  have NN : ∀ q : Nat, Calls Try.prog 58 #[.slice aF nF cF] (w.drewN q) fun e w1 => ∃ a1 n1 c1x, e = .returned (.slice a1 n1 c1x) ∧ Hid (OwnN w1 w.heap.size (.slice a1 n1 c1x) ((4, 0) :: (b.enc ++ [(1, 0)])) ∧ Below w.heap.size w w1) ∧ w1.cell? ⟨g, P.length, none⟩ = some (atV us P.length) ∧ w1.frozen? ⟨g, P.length, none⟩ = false ∧ w1.cell? ⟨R, 2, none⟩ = some (.slice (some ⟨g, 0, none⟩) (P.length + 1) cP) := fun q => by
    refine (notNodes_any b.enc aF nF cF _ (by omega) hn0 (show AtN (w.drewN q) aF nF b.enc from AF.out)).mono ?_
    rintro e w1 ⟨v1, rfl, ho, hb⟩
    have hb1 : Below w.heap.size w w1 := (below_drewN' (Below.refl w.heap.size w) q).trans hb
    obtain ⟨a1, c1x, rfl, -⟩ := ho.at
    obtain ⟨-, h2, h3⟩ := made_row (k := P.length) HP.out (by omega) hb1
    exact ⟨_, _, _, rfl, (show _ ∧ _ from ⟨ho, hb1⟩), h2, h3, (hb1.cell (p := ⟨R, 2, none⟩) hRw).trans c2⟩
  go_region_with (go_at_call 58; refine (NN 1).mono ?_; rintro e w1 ⟨a1, n1, c1x, rfl, hh1, hc1, hf1, hc2⟩)
  all_goals
    obtain ⟨z1, z2⟩ := fl_put (f := .bi 4 b .fa) HR.out hRl HW.out HP.out HPa.out hlo hh1.out.2 hh1.out.1
    have Z1 := Lib.hid z1
    have Z2 := Lib.hid z2
    clear z1 z2 hh1
    go_wp2
    go_end0
    exact ⟨⟨_, rfl⟩, Z1.out, Z2.out⟩

set_option maxHeartbeats 4000000 in
theorem joinUn_any (R lo ex : Nat) (W : List Int) (P : List Fm) (b : Fm) (m : Int) (hm : m = 5 ∨ m = 6) (w : World) (hl : P.length ≤ 4096) (hlo : lo ≤ w.heap.size) (hs : b.sz ≤ 4096) (h : Fl w R lo ex W (b :: P)) :
    Calls Try.prog 62 #[.pointer (some ⟨R, 0, none⟩), .int .i64 m] w fun e w' => (∃ v, e = .returned v) ∧ Fl w' R lo ex W (.un m b :: P) ∧ BX R lo w w' := by
  obtain ⟨vW, vP, us, hR, hRl, hW, hP, hPa⟩ := h
  obtain ⟨c0, c1, c2, f0, f1, f2⟩ := fl_cells hR
  have hul : us.length = P.length + 1 := by have := hP.1; simpa using this
  obtain ⟨g, cP, rfl, hgl⟩ := row_some hP (by simp)
  simp only [List.length_cons] at hP c2 ⊢
  have hcell := hP.cellAt P.length (by omega)
  rw [atV_some (by omega)] at hcell
  have hfro : w.frozen? ⟨g, P.length, none⟩ = false := hP.frozenAt _
  obtain ⟨aF, cF, hvF, atF, -⟩ := hPa.top.at
  rw [hvF] at hcell
  have hsz := Fm.enc_len b
  have hpos := b.sz_pos
  obtain ⟨nF, hnF⟩ : ∃ n, n = b.enc.length := ⟨_, rfl⟩
  have hn1 : nF ≤ 4096 := by omega
  have hn0 : 0 < nF := by omega
  rw [← hnF] at hcell atF
  have HR := Lib.hid hR
  have HW := Lib.hid hW
  have HP := Lib.hid hP
  have HPa := Lib.hid hPa
  have UL := Lib.hid hul
  have AF := Lib.hid atF
  have hi0 : (0 : Int) ≤ (P.length : Int) := by omega
  have hwr : IntKind.i64.wrap ((P.length : Int) + 1 - 1) = (P.length : Int) := by rw [IntKind.wrap_i64]; omega
  have hRw : R < w.heap.size := (Array.getElem?_eq_some_iff.1 hR).1
  clear hR hW hP hPa hul atF hnF hvF hsz hs hpos
  have NN : ∀ (k : Int) (q : Nat), Calls Try.prog 83 #[.int .i64 k, .slice (some ⟨w.heap.size, 0, none⟩) 1 1] ((w.drewN q).alloc (.cells #[.slice aF nF cF] 25)) fun e w1 => ∃ a1 n1 c1x, e = .returned (.slice a1 n1 c1x) ∧ Hid (OwnN w1 w.heap.size (.slice a1 n1 c1x) ((k, 0) :: b.enc) ∧ Below w.heap.size w w1) ∧ w1.cell? ⟨g, P.length, none⟩ = some (atV us P.length) ∧ w1.frozen? ⟨g, P.length, none⟩ = false ∧ w1.cell? ⟨R, 2, none⟩ = some (.slice (some ⟨g, 0, none⟩) (P.length + 1) cP) := fun k q => by
    refine (join1_any k b.enc aF nF cF w.heap.size (w.drewN q) (by omega) hn0 (show AtN (w.drewN q) aF nF b.enc from AF.out) 25 rfl).mono ?_
    rintro e w1 ⟨v1, rfl, ho, hb⟩
    have hb1 : Below w.heap.size w w1 := (below_drewN' (Below.refl w.heap.size w) q).trans hb
    obtain ⟨a1, c1x, rfl, -⟩ := ho.at
    obtain ⟨-, h2, h3⟩ := made_row (k := P.length) HP.out (by omega) hb1
    exact ⟨_, _, _, rfl, (show _ ∧ _ from ⟨ho, hb1⟩), h2, h3, (hb1.cell (p := ⟨R, 2, none⟩) hRw).trans c2⟩
  rcases hm with rfl | rfl
  all_goals
    go_enter Try.func62, Try.ntmps62
    go_wp2_with fail
    refine (partCount_any _ _).mono ?_
    first | rw [show prt 5 = 1 from rfl] | rw [show prt 6 = 1 from rfl]
    rintro e w' ⟨rfl, rfl⟩
    go_wp2
    go_region_with (go_at_call 83; refine (NN _ 1).mono ?_; rintro e w1 ⟨a1, n1, c1x, rfl, hh1, hc1, hf1, hc2⟩)
    all_goals
      obtain ⟨z1, z2⟩ := fl_put (f := .un _ b) HR.out hRl HW.out HP.out HPa.out hlo hh1.out.2 hh1.out.1
      have Z1 := Lib.hid z1
      have Z2 := Lib.hid z2
      clear z1 z2 hh1
      go_wp2
      go_end0
      exact ⟨⟨_, rfl⟩, Z1.out, Z2.out⟩

end Go.Proofs.Ytnenooifacbcfaa
