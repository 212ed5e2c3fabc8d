/- The translation of a formula into a point formula, of the model: boxes and diamonds. Conditions: those in the theorems. -/
import Derived.Test.YtfdoecnpnfojpaaTrf
namespace Go.Proofs.Ytfdoecnpnfojpaa
open Go.RowKit

theorem undrewF {C : Nat} {w w' : World} (h : Below C w.drew w') : Below C w w' := ⟨h.os, h.tape, h.output, h.size, h.block⟩

set_option maxHeartbeats 8000000 in
set_option maxRecDepth 100000 in
theorem tf_un (k : Int) (f : Fm) (hf : (Fm.un k f).ok) (ih : TfC f) : TfC (.un k f) := by
  intro x b off len cap w hx hl h
  obtain ⟨hb, c1, c2⟩ := h.head
  have hlen := h.len
  have hs : (Fm.un k f).sz = 1 + f.sz := rfl
  have hfp := f.sz_pos
  have h0 : 1 < len := by omega
  replace c1 : w.cell? ⟨b, off, none⟩ = some (.int .i64 k) := c1
  have U := Lib.hid h.under
  obtain ⟨y, hy⟩ : ∃ y, y = 1 - x := ⟨_, rfl⟩
  have hy2 : y = 0 ∨ y = 1 := by omega
  have hw : IntKind.i64.wrap (1 - x) = y := by rw [IntKind.wrap_i64]; omega
  have IH := Lib.hid (fun W (hW : Below w.heap.size w W) => ih y b (off + 2) (len - 1) (cap - 1) W hy2 (by omega) (U.out.keep hW (Nat.le_refl _)))
  have z1 := trP_sz f y
  have p1 := (trP f y).sz_pos
  have ZZ := Lib.hid (show 1 + (trP f y).sz ≤ 1048570 by omega)
  have i1 : (1 : Int) ≤ (len : Int) := by omega
  have i2 : ¬ cap = 1 := by have := h.2.1; omega
  have i3 : (len : Int) ≤ (cap : Int) := by have := h.2.1; omega
  have i4 : (1 : Int) ≤ (cap : Int) := by omega
  have hc2 := h.2.2
  unfold maxLen at hc2
  have hk := hf.1
  have HY := Lib.hid hy
  obtain ⟨T, hT⟩ : ∃ T, T = (trP f y).enc := ⟨_, rfl⟩
  have TL := Lib.hid (show T.length = (trP f y).sz by rw [hT, Pt.enc_len])
  rw [← hT] at IH
  have R5 := Lib.hid (show (trP (.un 5 f) x).enc = (7, y, 0) :: (6, 0, 0) :: ([(0, x, y)] ++ T) by rw [hT]; simp only [trP, Pt.enc, if_pos, ← hy])
  have R6 := Lib.hid (show (trP (.un 6 f) x).enc = (8, y, 0) :: (4, 0, 0) :: ([(0, x, y)] ++ T) by rw [hT]; simp only [trP, Pt.enc, if_neg (show ¬ ((6 : Int) = 5) by omega), ← hy])
  clear h hlen hs ih hf c2 z1 hy hT hx hy2 hfp
  rcases hk with rfl | rfl
  · rw [R5.out]
    clear R5 R6
    go_enter Try.func73, Try.ntmps73
    go_wp2
    clear c1
    go_region_law (first | (go_simp; go_at_call 108; refine (l10One_any _ _ _ _).mono ?_; rintro e w1 ⟨v1, rfl, ho1, hb1⟩; obtain ⟨a1, c1', rfl, at1, -⟩ := ho1.at; have T1 := Lib.hid (show Below w.heap.size w w1 from undrewF hb1); have A1 := Lib.hid at1; clear hb1 ho1 at1) | (go_simp; go_at_call 73; refine (IH.out _ T1.out).mono ?_; rintro e w2 ⟨v2, rfl, ho2, hb2⟩; obtain ⟨a2, c2', rfl, at2, -⟩ := ho2.at; have T2 := Lib.hid (T1.out.trans (hb2.mono T1.out.size)); have A2 := Lib.hid at2; have A1' := Lib.hid (A1.out.keep hb2 (Nat.le_refl _)); clear hb2 ho2 at2) | (go_simp; go_at_call 110; refine (l10Pair_any _ [(0, x, y)] T _ _ _ _ _ _ _ (by have := ZZ.out; have := TL.out; simp; omega) (by simp) (by have := TL.out; omega) A1'.out A2.out).mono ?_; rintro e w3 ⟨v3, rfl, ho3, hb3⟩; obtain ⟨a3, c3', rfl, at3, -⟩ := ho3.at; have T3 := Lib.hid (T2.out.trans (hb3.mono T2.out.size)); have A3 := Lib.hid at3; clear hb3 ho3 at3) | (go_simp; go_at_call 111; refine (l10Bind_any _ _ _ _ _ _ _ (by have := ZZ.out; have := TL.out; simp; omega) (by simp) A3.out).mono ?_; rintro e w4 ⟨v4, rfl, ho4, hb4⟩; have T4 := Lib.hid (T3.out.trans (hb4.mono T3.out.size)); have O4 := Lib.hid (ho4.mono T3.out.size); clear hb4 ho4))
    all_goals
      go_wp2
      go_ret
      exact ⟨_, rfl, O4.out, T4.out⟩
  · rw [R6.out]
    clear R5 R6
    go_enter Try.func73, Try.ntmps73
    go_wp2
    clear c1
    go_region_law (first | (go_simp; go_at_call 108; refine (l10One_any _ _ _ _).mono ?_; rintro e w1 ⟨v1, rfl, ho1, hb1⟩; obtain ⟨a1, c1', rfl, at1, -⟩ := ho1.at; have T1 := Lib.hid (show Below w.heap.size w w1 from undrewF hb1); have A1 := Lib.hid at1; clear hb1 ho1 at1) | (go_simp; go_at_call 73; refine (IH.out _ T1.out).mono ?_; rintro e w2 ⟨v2, rfl, ho2, hb2⟩; obtain ⟨a2, c2', rfl, at2, -⟩ := ho2.at; have T2 := Lib.hid (T1.out.trans (hb2.mono T1.out.size)); have A2 := Lib.hid at2; have A1' := Lib.hid (A1.out.keep hb2 (Nat.le_refl _)); clear hb2 ho2 at2) | (go_simp; go_at_call 110; refine (l10Pair_any _ [(0, x, y)] T _ _ _ _ _ _ _ (by have := ZZ.out; have := TL.out; simp; omega) (by simp) (by have := TL.out; omega) A1'.out A2.out).mono ?_; rintro e w3 ⟨v3, rfl, ho3, hb3⟩; obtain ⟨a3, c3', rfl, at3, -⟩ := ho3.at; have T3 := Lib.hid (T2.out.trans (hb3.mono T2.out.size)); have A3 := Lib.hid at3; clear hb3 ho3 at3) | (go_simp; go_at_call 111; refine (l10Bind_any _ _ _ _ _ _ _ (by have := ZZ.out; have := TL.out; simp; omega) (by simp) A3.out).mono ?_; rintro e w4 ⟨v4, rfl, ho4, hb4⟩; have T4 := Lib.hid (T3.out.trans (hb4.mono T3.out.size)); have O4 := Lib.hid (ho4.mono T3.out.size); clear hb4 ho4))
    all_goals
      go_wp2
      go_ret
      exact ⟨_, rfl, O4.out, T4.out⟩

theorem l10Translate_any (f : Fm) (hf : f.ok) : TfC f := by
  induction f with
  | va s => exact tf_va s
  | fa => exact tf_fa
  | un k a ih => exact tf_un k a hf (ih hf.2)
  | bi k a b iha ihb => exact tf_bi k a b hf (iha hf.2.1) (ihb hf.2.2)

end Go.Proofs.Ytfdoecnpnfojpaa
