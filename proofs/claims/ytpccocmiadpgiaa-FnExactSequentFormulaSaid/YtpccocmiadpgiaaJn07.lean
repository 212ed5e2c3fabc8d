/- 3 texts in one: Fl, Fj, Fj2. -/
import Derived.Test.YtpccocmiadpgiaaJn04
import Derived.Test.YtpccocmiadpgiaaJn06
import Derived.Test.YtpccocmiadpgiaaGst
import Derived.Deep.RegionWith
import Derived.BigRegion
import Derived.Test.YtpccocmiadpgiaaJn08
/- The program's reader of formulas: its record in memory and the contracts of its small methods. Conditions: those in the theorems. -/
namespace Go.Proofs.Ytpccocmiadpgiaa
open Go.RowKit

/-- What a method of the reader leaves as it was: all blocks below lo but R. -/
structure BX (R lo : Nat) (w w' : World) : Prop where
  os : w'.os = w.os
  tape : w'.tape = w.tape
  output : w'.output = w.output
  size : w.heap.size ≤ w'.heap.size
  block : ∀ k, k < lo → k ≠ R → w'.heap[k]? = w.heap[k]?
theorem BX.refl (R lo : Nat) (w : World) : BX R lo w w := ⟨rfl, rfl, rfl, Nat.le_refl _, fun _ _ _ => rfl⟩
theorem BX.trans {R lo : Nat} {a b c : World} (h : BX R lo a b) (k : BX R lo b c) : BX R lo a c :=
  ⟨k.os.trans h.os, k.tape.trans h.tape, k.output.trans h.output, Nat.le_trans h.size k.size, fun i hi hn => (k.block i hi hn).trans (h.block i hi hn)⟩
theorem Below.bx {R lo C : Nat} {w w' : World} (h : Below C w w') (hC : lo ≤ C) : BX R lo w w' := ⟨h.os, h.tape, h.output, h.size, fun k hk _ => h.block k (Nat.lt_of_lt_of_le hk hC)⟩
theorem BX.setCell {R lo : Nat} {a w : World} (h : BX R lo a w) {p : Addr} (hp : p.block = R ∨ lo ≤ p.block) (u : Value) : BX R lo a (w.setCell p u) :=
  h.trans ⟨rfl, rfl, rfl, by simp [World.setCell], fun k hk hn => Below.heap_setCell _ _ _ _ (by omega)⟩
theorem BX.drew {R lo : Nat} {a w : World} (h : BX R lo a w) : BX R lo a w.drew := ⟨h.os, h.tape, h.output, h.size, h.block⟩

def nthF (P : List Fm) (j : Nat) : Fm := P.getD j .fa
def wV (W : List Int) : List Value := W.reverse.map (.int .i64)
/-- The parts, the first one first. -/
def Pa (w : World) (lo : Nat) (P : List Fm) (us : List Value) : Prop := ∀ j, j < P.length → OwnN w lo (atV us j) (nthF P.reverse j).enc
theorem Pa.kept {w w' : World} {lo : Nat} {P : List Fm} {us : List Value} {r : Option Nat} (h : Pa w lo P us) (hg : w.grownBy w' r) (hr : ∀ k, r = some k → ∃ cs T f, w.heap[k]? = some (.cells cs T f) ∧ T ≠ 55) : Pa w' lo P us := fun j hj => row_kept (h j hj) hg hr
/-- Block R holds the program's reader. -/
def Fl (w : World) (R lo ex : Nat) (W : List Int) (P : List Fm) : Prop :=
  ∃ vW vP us, w.heap[R]? = some (.cells #[.int .i64 ex, vW, vP] 78 (0, 0)) ∧ True ∧ w.ownsRow lo 2 1 vW W.length (wV W) ∧ w.ownsRow lo 32 1 vP P.length us ∧ Pa w lo P us
theorem tys : 2 ≠ 32 ∧ 2 ≠ 55 ∧ 2 ≠ 78 ∧ 32 ≠ 55 ∧ 32 ≠ 78 ∧ 55 ≠ 78 := by decide
theorem fl_cells {w : World} {R ex : Nat} {vW vP : Value} {T : TypeId} (h : w.heap[R]? = some (.cells #[.int .i64 ex, vW, vP] T (0, 0))) :
    w.cell? ⟨R, 0, none⟩ = some (.int .i64 ex) ∧ w.cell? ⟨R, 1, none⟩ = some vW ∧ w.cell? ⟨R, 2, none⟩ = some vP ∧ w.frozen? ⟨R, 0, none⟩ = false ∧ w.frozen? ⟨R, 1, none⟩ = false ∧ w.frozen? ⟨R, 2, none⟩ = false :=
  ⟨by simp [World.cell?, h], by simp [World.cell?, h], by simp [World.cell?, h], by simp [World.frozen?, h], by simp [World.frozen?, h], by simp [World.frozen?, h]⟩

/-- Behind stores into the record: the rows stay. -/
theorem set_heap {w : World} {R : Nat} {c : Array Value} {T : TypeId} (h : w.heap[R]? = some (.cells c T (0, 0))) (o : Nat) (v : Value) : (w.setCell ⟨R, o, none⟩ v).heap[R]? = some (.cells (c.setIfInBounds o v) T (0, 0)) := src_set h o v
theorem wV_cons (m : Int) (W : List Int) : wV W ++ [.int .i64 m] = wV (m :: W) := by simp [wV]

set_option maxHeartbeats 1000000 in
theorem begin_any (R lo ex : Nat) (W : List Int) (P : List Fm) (m : Int) (w : World) (hl : W.length ≤ 4096) (hlo : lo ≤ w.heap.size) (h : Fl w R lo ex W P) :
    Calls Try.prog 64 #[.pointer (some ⟨R, 0, none⟩), .int .i64 m] w fun e w' => (∃ v, e = .returned v) ∧ Fl w' R lo 0 (m :: W) P ∧ BX R lo w w' := by
  obtain ⟨vW, vP, us, hR, hRl, hW, hP, hPa⟩ := h
  obtain ⟨c0, c1, c2, f0, f1, f2⟩ := fl_cells hR
  obtain ⟨aW, cW, rfl⟩ := row_slice hW
  obtain ⟨aP, cP, rfl⟩ := row_slice hP
  have HR := Lib.hid hR
  have HW := Lib.hid hW
  have HP := Lib.hid hP
  have HPa := Lib.hid hPa
  clear hR hW hP hPa
  go_enter Try.func64, Try.ntmps64
  go_wp2_with (at_builtin; refine list_app1 rfl _ _ rfl lo _ W.length (wV W) rfl (HW.out.alloc _) ⟨w.heap.size, 0, none⟩ 1 m rfl (World.cell?_alloc_at _ _ _ _ rfl) (by omega) (by simp; omega) ?_)
  intro v' w1 ho hg
  have hR1 := rec_kept (show (w.alloc (.cells #[.int .i64 m] 2)).heap[R]? = _ from (World.grownBy_alloc w _ none).block R (Array.getElem?_eq_some_iff.1 HR.out).1 (by simp) |>.trans HR.out) hg (row_other (HW.out.alloc _) tys.2.2.1)
  have hP1 := row_kept (HP.out.alloc _) hg (row_other (HW.out.alloc _) tys.1)
  have hPa1 : Pa w1 lo P us := (HPa.out.kept (World.grownBy_alloc w _ none) (fun k hk => by cases hk)).kept hg (row_other (HW.out.alloc _) tys.2.1)
  rw [wV_cons] at ho
  have hb1 : Below lo w w1 := (((Below.refl lo w).alloc hlo _)).grown hg (by simp; omega) (fun k hk => (row_type HW.out k hk).1)
  obtain ⟨d0, d1, d2, g0, g1, g2⟩ := fl_cells hR1
  obtain ⟨a3, c3, rfl⟩ := row_slice ho
  have HR2 := Lib.hid (set_heap (set_heap hR1 1 (.slice a3 (W.length + 1) c3)) 0 (.int .i64 (0 : Nat)))
  have HW2 := Lib.hid (row_set (row_set ho hR1 (Ne.symm tys.2.2.1) 1 (.slice a3 (W.length + 1) c3)) (set_heap hR1 1 (.slice a3 (W.length + 1) c3)) (Ne.symm tys.2.2.1) 0 (.int .i64 (0 : Nat)))
  have HP2 := Lib.hid (row_set (row_set hP1 hR1 (Ne.symm tys.2.2.2.2.1) 1 (.slice a3 (W.length + 1) c3)) (set_heap hR1 1 (.slice a3 (W.length + 1) c3)) (Ne.symm tys.2.2.2.2.1) 0 (.int .i64 (0 : Nat)))
  have HPa2 := Lib.hid ((hPa1.kept (grown_set w1 R 1 (.slice a3 (W.length + 1) c3)) (rec_other hR1 (Ne.symm tys.2.2.2.2.2))).kept (grown_set _ R 0 (.int .i64 (0 : Nat))) (rec_other (set_heap hR1 1 (.slice a3 (W.length + 1) c3)) (Ne.symm tys.2.2.2.2.2)))
  have HB2 := Lib.hid (((Below.bx hb1 (Nat.le_refl _)).setCell (p := ⟨R, 1, none⟩) (.inl rfl) (.slice a3 (W.length + 1) c3)).setCell (p := ⟨R, 0, none⟩) (.inl rfl) (.int .i64 (0 : Nat)))
  clear ho hg hR1 hP1 hPa1 hb1 HR HW HP HPa c0 c1 c2 f0 f1 f2
  go_wp2
  go_end0
  exact ⟨⟨_, rfl⟩, ⟨_, _, us, HR2.out, hRl, HW2.out, HP2.out, HPa2.out⟩, HB2.out⟩


theorem Pa.add {w : World} {lo : Nat} {P : List Fm} {us : List Value} {f : Fm} {v : Value} (h : Pa w lo P us) (hl : us.length = P.length) (hv : OwnN w lo v f.enc) : Pa w lo (f :: P) (us ++ [v]) := by
  intro j hj
  simp only [List.length_cons] at hj
  by_cases e : j = P.length
  · subst e
    have e1 : atV (us ++ [v]) P.length = v := by unfold atV; simp [List.getD_eq_getElem?_getD, ← hl]
    have e2 : nthF (f :: P).reverse P.length = f := by unfold nthF; simp [List.getD_eq_getElem?_getD]
    rw [e1, e2]
    exact hv
  · have hj2 : j < P.length := by omega
    have e1 : atV (us ++ [v]) j = atV us j := by unfold atV; simp [List.getD_eq_getElem?_getD, List.getElem?_append, hl, hj2]
    have e2 : nthF (f :: P).reverse j = nthF P.reverse j := by unfold nthF; simp [List.getD_eq_getElem?_getD, List.getElem?_append, hj2]
    rw [e1, e2]
    exact h j hj2

set_option maxHeartbeats 1000000 in
theorem addAtom_any (R lo ex : Nat) (W : List Int) (P : List Fm) (f : Fm) (v : Value) (w : World) (hl : P.length ≤ 4096) (hlo : lo ≤ w.heap.size) (h : Fl w R lo ex W P) (hv : OwnN w lo v f.enc) :
    Calls Try.prog 76 #[.pointer (some ⟨R, 0, none⟩), v] w fun e w' => (∃ v, e = .returned v) ∧ Fl w' R lo 3 W (f :: P) ∧ BX R lo w w' := by
  obtain ⟨vW, vP, us, hR, hRl, hW, hP, hPa⟩ := h
  obtain ⟨c0, c1, c2, f0, f1, f2⟩ := fl_cells hR
  have hul : us.length = P.length := by have := hP.1; omega
  obtain ⟨aW, cW, rfl⟩ := row_slice hW
  obtain ⟨aP, cP, rfl⟩ := row_slice hP
  obtain ⟨aF, cF, rfl⟩ := row_slice hv
  have HR := Lib.hid hR
  have HW := Lib.hid hW
  have HP := Lib.hid hP
  have HPa := Lib.hid hPa
  have HV := Lib.hid hv
  have UL := Lib.hid hul
  obtain ⟨nF, hnF⟩ : ∃ n, n = f.enc.length := ⟨_, rfl⟩
  rw [← hnF] at HV ⊢
  clear hR hW hP hPa hv hul hnF
  go_enter Try.func76, Try.ntmps76
  go_wp2_with (at_builtin; refine list_appL rfl _ _ rfl lo _ P.length us rfl (HP.out.alloc _) ⟨w.heap.size, 0, none⟩ 1 (.slice aF nF cF) rfl (World.cell?_alloc_at _ _ _ _ rfl) rfl (by omega) (by simp; omega) ?_)
  intro v' w1 ho hg
  have hR1 := rec_kept (show (w.alloc (.cells #[.slice aF nF cF] 32)).heap[R]? = _ from (World.grownBy_alloc w _ none).block R (Array.getElem?_eq_some_iff.1 HR.out).1 (by simp) |>.trans HR.out) hg (row_other (HP.out.alloc _) tys.2.2.2.2.1)
  have hW1 := row_kept (HW.out.alloc _) hg (row_other (HP.out.alloc _) (Ne.symm tys.1))
  have hV1 := row_kept (World.ownsRow.alloc HV.out _) hg (row_other (HP.out.alloc _) tys.2.2.2.1)
  have hPa1 : Pa w1 lo P us := (HPa.out.kept (World.grownBy_alloc w _ none) (fun k hk => by cases hk)).kept hg (row_other (HP.out.alloc _) tys.2.2.2.1)
  have hPa3 : Pa w1 lo (f :: P) (us ++ [.slice aF nF cF]) := hPa1.add UL.out hV1
  have hb1 : Below lo w w1 := (((Below.refl lo w).alloc hlo _)).grown hg (by simp; omega) (fun k hk => (row_type HP.out k hk).1)
  obtain ⟨d0, d1, d2, g0, g1, g2⟩ := fl_cells hR1
  obtain ⟨a3, c3, rfl⟩ := row_slice ho
  have HR2 := Lib.hid (set_heap (set_heap hR1 2 (.slice a3 (P.length + 1) c3)) 0 (.int .i64 (3 : Nat)))
  have HW2 := Lib.hid (row_set (row_set hW1 hR1 (Ne.symm tys.2.2.1) 2 (.slice a3 (P.length + 1) c3)) (set_heap hR1 2 (.slice a3 (P.length + 1) c3)) (Ne.symm tys.2.2.1) 0 (.int .i64 (3 : Nat)))
  have HP2 := Lib.hid (row_set (row_set ho hR1 (Ne.symm tys.2.2.2.2.1) 2 (.slice a3 (P.length + 1) c3)) (set_heap hR1 2 (.slice a3 (P.length + 1) c3)) (Ne.symm tys.2.2.2.2.1) 0 (.int .i64 (3 : Nat)))
  have HPa2 := Lib.hid ((hPa3.kept (grown_set w1 R 2 (.slice a3 (P.length + 1) c3)) (rec_other hR1 (Ne.symm tys.2.2.2.2.2))).kept (grown_set _ R 0 (.int .i64 (3 : Nat))) (rec_other (set_heap hR1 2 (.slice a3 (P.length + 1) c3)) (Ne.symm tys.2.2.2.2.2)))
  have HB2 := Lib.hid (((Below.bx hb1 (Nat.le_refl _)).setCell (p := ⟨R, 2, none⟩) (.inl rfl) (.slice a3 (P.length + 1) c3)).setCell (p := ⟨R, 0, none⟩) (.inl rfl) (.int .i64 (3 : Nat)))
  clear ho hg hR1 hW1 hV1 hPa1 hPa3 hb1 HR HW HP HPa HV c0 c1 c2 f0 f1 f2
  go_wp2
  go_end0
  exact ⟨⟨_, rfl⟩, ⟨_, _, _, HR2.out, hRl, HW2.out, HP2.out, HPa2.out⟩, HB2.out⟩

end Go.Proofs.Ytpccocmiadpgiaa

/- The program's reader of formulas: the contract of the method that joins the last parts. Conditions: those in the theorems. -/
namespace Go.Proofs.Ytpccocmiadpgiaa
open Go.RowKit

theorem Pa.set {w : World} {lo : Nat} {P : List Fm} {us : List Value} {b f : Fm} {v : Value} (h : Pa w lo (b :: P) us) (hl : us.length = P.length + 1) (hv : OwnN w lo v f.enc) : Pa w lo (f :: P) (us.set P.length v) := by
  intro j hj
  simp only [List.length_cons] at hj
  rw [atV_set]
  by_cases e : j = P.length
  · subst e
    rw [if_pos ⟨rfl, by omega⟩]
    have e2 : nthF (f :: P).reverse P.length = f := by unfold nthF; simp [List.getD_eq_getElem?_getD]
    rw [e2]
    exact hv
  · rw [if_neg (by omega)]
    have hj2 : j < P.length := by omega
    have := h j (by simp; omega)
    have e2 : nthF (f :: P).reverse j = nthF (b :: P).reverse j := by unfold nthF; simp [List.getD_eq_getElem?_getD, List.getElem?_append, hj2]
    rw [e2]
    exact this
theorem Pa.top {w : World} {lo : Nat} {P : List Fm} {us : List Value} {b : Fm} (h : Pa w lo (b :: P) us) : OwnN w lo (atV us P.length) b.enc := by
  have := h P.length (by simp)
  have e2 : nthF (b :: P).reverse P.length = b := by unfold nthF; simp [List.getD_eq_getElem?_getD]
  rwa [e2] at this
theorem Pa.pop {w : World} {lo : Nat} {P : List Fm} {us : List Value} {b : Fm} (h : Pa w lo (b :: P) us) : Pa w lo P (us.take P.length) := by
  intro j hj
  have := h j (by simp; omega)
  have e1 : atV (us.take P.length) j = atV us j := by unfold atV; simp [List.getD_eq_getElem?_getD, hj]
  have e2 : nthF (b :: P).reverse j = nthF P.reverse j := by unfold nthF; simp [List.getD_eq_getElem?_getD, List.getElem?_append, hj]
  rw [e1, ← e2]
  exact this

/-- What stands behind a call that only makes memory, for the store of its result into a row. -/

theorem Pa.below {w w1 : World} {lo : Nat} {P : List Fm} {us : List Value} (h : Pa w lo P us) (hb : Below w.heap.size w w1) : Pa w1 lo P us := fun j hj => ownsRow_below (h j hj) (row_lt (h j hj)) hb
/-- The last part is another one. -/
theorem fl_put {w w1 : World} {R lo ex g cP : Nat} {W : List Int} {P : List Fm} {b f : Fm} {us : List Value} {vW v : Value} (hR : w.heap[R]? = some (.cells #[.int .i64 ex, vW, .slice (some ⟨g, 0, none⟩) (P.length + 1) cP] 78 (0, 0))) (hRl : True) (hW : w.ownsRow lo 2 1 vW W.length (wV W))
    (hP : w.ownsRow lo 32 1 (.slice (some ⟨g, 0, none⟩) (P.length + 1) cP) (P.length + 1) us) (hPa : Pa w lo (b :: P) us) (hlo : lo ≤ w.heap.size) (hb : Below w.heap.size w w1) (ho : OwnN w1 w.heap.size v f.enc) :
    Fl (w1.setCell ⟨g, P.length, none⟩ v) R lo ex W (f :: P) ∧ BX R lo w (w1.setCell ⟨g, P.length, none⟩ v) := by
  have hul := hP.1
  have hR1 := (hb.block R (Array.getElem?_eq_some_iff.1 hR).1).trans hR
  have hW1 := ownsRow_below hW (row_lt hW) hb
  have hP1 := ownsRow_below hP (row_lt hP) hb
  have hPa1 := (hPa.below hb).set (by omega) (ownsRow_mono ho hlo)
  have hst := hP1.stored P.length v
  have hgl : lo ≤ g := (row_type hP g rfl).1
  exact ⟨⟨vW, _, _, rec_kept hR1 hst.2 (row_other hP1 tys.2.2.2.2.1), hRl, row_kept hW1 hst.2 (row_other hP1 (Ne.symm tys.1)), hst.1, hPa1.kept hst.2 (row_other hP1 tys.2.2.2.1)⟩, (Below.bx hb hlo).setCell (p := ⟨g, P.length, none⟩) (.inr hgl) v⟩

set_option maxHeartbeats 4000000 in
theorem joinNot_any (R lo ex : Nat) (W : List Int) (P : List Fm) (b : Fm) (w : World) (hl : P.length ≤ 4096) (hlo : lo ≤ w.heap.size) (hs : b.sz ≤ 4096) (h : Fl w R lo ex W (b :: P)) :
    Calls Try.prog 80 #[.pointer (some ⟨R, 0, none⟩), .int .i64 (-2)] w fun e w' => (∃ v, e = .returned v) ∧ Fl w' R lo ex W (.bi 4 b .fa :: P) ∧ BX R lo w w' := by
  obtain ⟨vW, vP, us, hR, hRl, hW, hP, hPa⟩ := h
  obtain ⟨c0, c1, c2, f0, f1, f2⟩ := fl_cells hR
  have hul : us.length = P.length + 1 := by have := hP.1; simpa using this
  obtain ⟨g, cP, rfl, hgl⟩ := row_some hP (by simp)
  simp only [List.length_cons] at hP c2 ⊢
  have hcell := hP.cellAt P.length (by omega)
  rw [atV_some (by omega)] at hcell
  have hfro : w.frozen? ⟨g, P.length, none⟩ = false := hP.frozenAt _
  obtain ⟨aF, cF, hvF, atF, -⟩ := hPa.top.at
  rw [hvF] at hcell
  have hsz := Fm.enc_len b
  have hpos := b.sz_pos
  obtain ⟨nF, hnF⟩ : ∃ n, n = b.enc.length := ⟨_, rfl⟩
  have hn1 : nF ≤ 4096 := by omega
  have hn0 : 0 < nF := by omega
  rw [← hnF] at hcell atF
  have HR := Lib.hid hR
  have HW := Lib.hid hW
  have HP := Lib.hid hP
  have HPa := Lib.hid hPa
  have UL := Lib.hid hul
  have AF := Lib.hid atF
  have hi0 : (0 : Int) ≤ (P.length : Int) := by omega
  have hwr : IntKind.i64.wrap ((P.length : Int) + 1 - 1) = (P.length : Int) := by rw [IntKind.wrap_i64]; omega
  have hRw : R < w.heap.size := (Array.getElem?_eq_some_iff.1 hR).1
  clear hR hW hP hPa hul atF hnF hvF hsz hs hpos
  go_enter Try.func80, Try.ntmps80
  go_wp2
  have NN : ∀ q : Nat, Calls Try.prog 45 #[.slice aF nF cF] (w.drewN q) fun e w1 => ∃ a1 n1 c1x, e = .returned (.slice a1 n1 c1x) ∧ Hid (OwnN w1 w.heap.size (.slice a1 n1 c1x) ((4, 0) :: (b.enc ++ [(1, 0)])) ∧ Below w.heap.size w w1) ∧ w1.cell? ⟨g, P.length, none⟩ = some (atV us P.length) ∧ w1.frozen? ⟨g, P.length, none⟩ = false ∧ w1.cell? ⟨R, 2, none⟩ = some (.slice (some ⟨g, 0, none⟩) (P.length + 1) cP) := fun q => by
    refine (notNodes_any b.enc aF nF cF _ (by omega) hn0 (show AtN (w.drewN q) aF nF b.enc from AF.out)).mono ?_
    rintro e w1 ⟨v1, rfl, ho, hb⟩
    have hb1 : Below w.heap.size w w1 := (below_drewN' (Below.refl w.heap.size w) q).trans hb
    obtain ⟨a1, c1x, rfl, -⟩ := ho.at
    obtain ⟨-, h2, h3⟩ := made_row (k := P.length) HP.out (by omega) hb1
    exact ⟨_, _, _, rfl, (show _ ∧ _ from ⟨ho, hb1⟩), h2, h3, (hb1.cell (p := ⟨R, 2, none⟩) hRw).trans c2⟩
  go_region_with (go_at_call 45; refine (NN 1).mono ?_; rintro e w1 ⟨a1, n1, c1x, rfl, hh1, hc1, hf1, hc2⟩)
  all_goals
    obtain ⟨z1, z2⟩ := fl_put (f := .bi 4 b .fa) HR.out hRl HW.out HP.out HPa.out hlo hh1.out.2 hh1.out.1
    have Z1 := Lib.hid z1
    have Z2 := Lib.hid z2
    clear z1 z2 hh1
    go_wp2
    go_end0
    exact ⟨⟨_, rfl⟩, Z1.out, Z2.out⟩

set_option maxHeartbeats 4000000 in
theorem joinUn_any (R lo ex : Nat) (W : List Int) (P : List Fm) (b : Fm) (m : Int) (hm : m = 5 ∨ m = 6) (w : World) (hl : P.length ≤ 4096) (hlo : lo ≤ w.heap.size) (hs : b.sz ≤ 4096) (h : Fl w R lo ex W (b :: P)) :
    Calls Try.prog 80 #[.pointer (some ⟨R, 0, none⟩), .int .i64 m] w fun e w' => (∃ v, e = .returned v) ∧ Fl w' R lo ex W (.un m b :: P) ∧ BX R lo w w' := by
  obtain ⟨vW, vP, us, hR, hRl, hW, hP, hPa⟩ := h
  obtain ⟨c0, c1, c2, f0, f1, f2⟩ := fl_cells hR
  have hul : us.length = P.length + 1 := by have := hP.1; simpa using this
  obtain ⟨g, cP, rfl, hgl⟩ := row_some hP (by simp)
  simp only [List.length_cons] at hP c2 ⊢
  have hcell := hP.cellAt P.length (by omega)
  rw [atV_some (by omega)] at hcell
  have hfro : w.frozen? ⟨g, P.length, none⟩ = false := hP.frozenAt _
  obtain ⟨aF, cF, hvF, atF, -⟩ := hPa.top.at
  rw [hvF] at hcell
  have hsz := Fm.enc_len b
  have hpos := b.sz_pos
  obtain ⟨nF, hnF⟩ : ∃ n, n = b.enc.length := ⟨_, rfl⟩
  have hn1 : nF ≤ 4096 := by omega
  have hn0 : 0 < nF := by omega
  rw [← hnF] at hcell atF
  have HR := Lib.hid hR
  have HW := Lib.hid hW
  have HP := Lib.hid hP
  have HPa := Lib.hid hPa
  have UL := Lib.hid hul
  have AF := Lib.hid atF
  have hi0 : (0 : Int) ≤ (P.length : Int) := by omega
  have hwr : IntKind.i64.wrap ((P.length : Int) + 1 - 1) = (P.length : Int) := by rw [IntKind.wrap_i64]; omega
  have hRw : R < w.heap.size := (Array.getElem?_eq_some_iff.1 hR).1
  clear hR hW hP hPa hul atF hnF hvF hsz hs hpos
  have NN : ∀ (k : Int) (q : Nat), Calls Try.prog 33 #[.int .i64 k, .slice (some ⟨w.heap.size, 0, none⟩) 1 1] ((w.drewN q).alloc (.cells #[.slice aF nF cF] 32)) fun e w1 => ∃ a1 n1 c1x, e = .returned (.slice a1 n1 c1x) ∧ Hid (OwnN w1 w.heap.size (.slice a1 n1 c1x) ((k, 0) :: b.enc) ∧ Below w.heap.size w w1) ∧ w1.cell? ⟨g, P.length, none⟩ = some (atV us P.length) ∧ w1.frozen? ⟨g, P.length, none⟩ = false ∧ w1.cell? ⟨R, 2, none⟩ = some (.slice (some ⟨g, 0, none⟩) (P.length + 1) cP) := fun k q => by
    refine (join1_any k b.enc aF nF cF w.heap.size (w.drewN q) (by omega) hn0 (show AtN (w.drewN q) aF nF b.enc from AF.out) 32 rfl).mono ?_
    rintro e w1 ⟨v1, rfl, ho, hb⟩
    have hb1 : Below w.heap.size w w1 := (below_drewN' (Below.refl w.heap.size w) q).trans hb
    obtain ⟨a1, c1x, rfl, -⟩ := ho.at
    obtain ⟨-, h2, h3⟩ := made_row (k := P.length) HP.out (by omega) hb1
    exact ⟨_, _, _, rfl, (show _ ∧ _ from ⟨ho, hb1⟩), h2, h3, (hb1.cell (p := ⟨R, 2, none⟩) hRw).trans c2⟩
  rcases hm with rfl | rfl
  all_goals
    go_enter Try.func80, Try.ntmps80
    go_wp2_with fail
    refine (partCount_any _ _).mono ?_
    first | rw [show prt 5 = 1 from rfl] | rw [show prt 6 = 1 from rfl]
    rintro e w' ⟨rfl, rfl⟩
    go_wp2
    go_region_with (go_at_call 33; refine (NN _ 1).mono ?_; rintro e w1 ⟨a1, n1, c1x, rfl, hh1, hc1, hf1, hc2⟩)
    all_goals
      obtain ⟨z1, z2⟩ := fl_put (f := .un _ b) HR.out hRl HW.out HP.out HPa.out hlo hh1.out.2 hh1.out.1
      have Z1 := Lib.hid z1
      have Z2 := Lib.hid z2
      clear z1 z2 hh1
      go_wp2
      go_end0
      exact ⟨⟨_, rfl⟩, Z1.out, Z2.out⟩

end Go.Proofs.Ytpccocmiadpgiaa

/- The program's reader of formulas: the contract of the method that joins the last two parts. Conditions: those in the theorems. -/
namespace Go.Proofs.Ytpccocmiadpgiaa
open Go.RowKit

theorem fl_bin {w w1 : World} {R lo ex g cP L : Nat} {W : List Int} {P : List Fm} {a b f : Fm} {us : List Value} {vW v : Value} (hL : L = P.length + 1) (hR : w.heap[R]? = some (.cells #[.int .i64 ex, vW, .slice (some ⟨g, 0, none⟩) (L + 1) cP] 78 (0, 0))) (hRl : True) (hW : w.ownsRow lo 2 1 vW W.length (wV W))
    (hP : w.ownsRow lo 32 1 (.slice (some ⟨g, 0, none⟩) (L + 1) cP) (L + 1) us) (hPa : Pa w lo (b :: a :: P) us) (hlo : lo ≤ w.heap.size) (hb : Below w.heap.size w w1) (ho : OwnN w1 w.heap.size v f.enc) :
    Fl ((w1.setCell ⟨g, P.length, none⟩ v).setCell ⟨R, 2, none⟩ (.slice (some ⟨g, 0, none⟩) L cP)) R lo ex W (f :: P) ∧ BX R lo w ((w1.setCell ⟨g, P.length, none⟩ v).setCell ⟨R, 2, none⟩ (.slice (some ⟨g, 0, none⟩) L cP)) ∧
    (w1.setCell ⟨g, P.length, none⟩ v).cell? ⟨R, 2, none⟩ = some (.slice (some ⟨g, 0, none⟩) (L + 1) cP) ∧ (w1.setCell ⟨g, P.length, none⟩ v).frozen? ⟨R, 2, none⟩ = false := by
  subst hL
  have hul := hP.1
  have hR1 := (hb.block R (Array.getElem?_eq_some_iff.1 hR).1).trans hR
  have hW1 := ownsRow_below hW (row_lt hW) hb
  have hP1 := ownsRow_below hP (row_lt hP) hb
  have hPa1 : Pa w1 lo (f :: P) ((us.take (P.length + 1)).set P.length v) := (hPa.below hb).pop.set (by simp; omega) (ownsRow_mono ho hlo)
  have hst := hP1.stored P.length v
  have hgl : lo ≤ g := (row_type hP g rfl).1
  have hR2 := rec_kept hR1 hst.2 (row_other hP1 tys.2.2.2.2.1)
  have hW2 := row_kept hW1 hst.2 (row_other hP1 (Ne.symm tys.1))
  have hP2 := row_take hst.1 (P.length + 1) (by omega)
  have hPa2 := hPa1.kept hst.2 (row_other hP1 tys.2.2.2.1)
  rw [List.take_set] at hP2
  obtain ⟨-, -, d2, -, -, g2⟩ := fl_cells hR2
  exact ⟨⟨vW, _, _, set_heap hR2 2 _, hRl, row_set hW2 hR2 (Ne.symm tys.2.2.1) 2 _, row_set hP2 hR2 (Ne.symm tys.2.2.2.2.1) 2 _, hPa2.kept (grown_set _ R 2 _) (rec_other hR2 (Ne.symm tys.2.2.2.2.2))⟩, ((Below.bx hb hlo).setCell (p := ⟨g, P.length, none⟩) (.inr hgl) v).setCell (p := ⟨R, 2, none⟩) (.inl rfl) _, d2, g2⟩

end Go.Proofs.Ytpccocmiadpgiaa
