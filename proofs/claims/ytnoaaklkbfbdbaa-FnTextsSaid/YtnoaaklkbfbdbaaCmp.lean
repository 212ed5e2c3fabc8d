/- Contracts of CompareFormulas of the model and of the program, at every two lists of nodes. Conditions: those in the theorems. -/
import Derived.Lib.Bytealg
import Derived.Lib.Walk
import Derived.Test.YtnoaaklkbfbdbaaFText
namespace Go.Proofs.Ytnoaaklkbfbdbaa
open Go.RowKit

set_option maxHeartbeats 1000000 in
set_option maxRecDepth 100000 in
theorem compareString_any (a b : ByteArray) (w : World) :
    Calls Try.prog 142 #[.string a, .string b] w fun e w' => e = .returned (.int .i64 (Lib.compareBytes a.data.toList b.data.toList)) ∧ w = w' := by
  go_enter Try.func142, Try.ntmps142
  go_wp2
  rw [run_callFunc_extern Try.func161 (by kernel_rfl) (by kernel_rfl) (by kernel_rfl) (e := Extern.BytealgCompare.compare) (by kernel_rfl), Lib.run_compareString]
  simp only [Result.andThen]
  rw [Oper.upon_value]
  go_wp2
  go_ret
  exact ⟨rfl, rfl⟩
theorem stringsCompare_any (a b : ByteArray) (w : World) :
    Calls Try.prog 105 #[.string a, .string b] w fun e w' => e = .returned (.int .i64 (Lib.compareBytes a.data.toList b.data.toList)) ∧ w = w' := by
  go_enter Try.func105, Try.ntmps105
  go_wp2_with (go_at_call 142; refine (compareString_any _ _ _).mono ?_; rintro e w' ⟨rfl, rfl⟩)
  go_ret
  exact ⟨rfl, rfl⟩

theorem cmp_less (a b : List UInt8) : Lib.compareBytes a b = if Op.bytesLess a b then -1 else if Op.bytesLess b a then 1 else 0 := by
  induction a generalizing b with
  | nil => cases b <;> rfl
  | cons x a ih =>
    cases b with
    | nil => rfl
    | cons y b =>
      rw [Lib.compareBytes, ih b, Op.bytesLess, Op.bytesLess]
      by_cases h1 : x < y
      · simp [h1]
      · by_cases h2 : y < x
        · have hne : ¬ x = y := by intro e; subst e; exact h1 h2
          have hne2 : ¬ y = x := fun e => hne e.symm
          simp [h1, h2, hne, hne2]
        · have he : x = y := by
            have h1' : ¬ x.toNat < y.toNat := h1
            have h2' : ¬ y.toNat < x.toNat := h2
            exact UInt8.toNat_inj.1 (by omega)
          subst he
          simp [h1]
theorem str_list (ys : List UInt8) : (str ys).toList = ys := by rw [Lib.toList_data]; rfl

noncomputable def coR (xs ys : List Nd) : Int := if isB xs xs.length && isB ys ys.length then Lib.compareBytes ((toFm xs).wr 0) ((toFm ys).wr 0) else 0
def coC (xs ys : List Nd) : Int := if isB xs xs.length && isB ys ys.length then 0 else 1
theorem co_bad {xs ys : List Nd} (h : (isB xs xs.length && isB ys ys.length) = false) : coR xs ys = 0 ∧ coC xs ys = 1 := by unfold coR coC; rw [h]; exact ⟨rfl, rfl⟩
theorem co_good {xs ys : List Nd} (h : (isB xs xs.length && isB ys ys.length) = true) : coR xs ys = Lib.compareBytes ((toFm xs).wr 0) ((toFm ys).wr 0) ∧ coC xs ys = 0 := by unfold coR coC; rw [h]; exact ⟨rfl, rfl⟩

set_option maxHeartbeats 800000 in
theorem compareTexts_any (f g : Fm) (f1 : f.ok) (g1 : g.ok) (b off len cap b' off' len' cap' : Nat) (w : World) (hl : len ≤ 4096) (hl' : len' ≤ 4096) (h : AtF w b off len cap f) (h' : AtF w b' off' len' cap' g) :
    Calls Try.prog 74 #[.slice (some ⟨b, off, none⟩) len cap, .slice (some ⟨b', off', none⟩) len' cap'] w fun e w' => e = .returned (.int .i64 (Lib.compareBytes (f.wr 0) (g.wr 0))) ∧ Below w.heap.size w w' := by
  have HF := Lib.hid h
  have HG := Lib.hid h'
  clear h h'
  obtain ⟨S, hS⟩ : ∃ S : ByteArray, S = ⟨(f.wr 0).toArray⟩ := ⟨_, rfl⟩
  obtain ⟨U, hU⟩ : ∃ U : ByteArray, U = ⟨(g.wr 0).toArray⟩ := ⟨_, rfl⟩
  have HS := Lib.hid hS
  have HU := Lib.hid hU
  have E := Lib.hid (show Lib.compareBytes S.data.toList U.data.toList = Lib.compareBytes (f.wr 0) (g.wr 0) by rw [hS, hU])
  clear hS hU
  go_enter Try.func74, Try.ntmps74
  go_wp2_with fail
  refine (textOf_any f f1 b off len cap _ (by omega) HF.out).mono ?_
  rw [← HS.out]
  rintro e w1 ⟨rfl, hb1⟩
  have B1 := Lib.hid hb1
  clear hb1
  go_wp2_with fail
  refine (textOf_any g g1 b' off' len' cap' _ (by omega) (HG.out.keep B1.out (Nat.le_refl _))).mono ?_
  rw [← HU.out]
  rintro e w2 ⟨rfl, hb2⟩
  have B2 := Lib.hid (B1.out.trans (hb2.mono B1.out.size))
  clear hb2
  go_wp2_with fail
  refine (stringsCompare_any _ _ _).mono ?_
  rw [E.out]
  rintro e w' ⟨rfl, rfl⟩
  go_wp2
  go_ret
  exact ⟨rfl, B2.out⟩

set_option maxHeartbeats 800000 in
theorem implCompareFormulas_g (x0 x1 : List Nd) (a : Option Addr) (cap : Nat) (a' : Option Addr) (cap' : Nat) (w : World) (hl : x0.length ≤ 1048576) (hl' : x1.length ≤ 1048576) (hat : AtN w a x0.length x0) (hc1 : x0.length ≤ cap) (hc2 : cap ≤ maxLen) (hat' : AtN w a' x1.length x1) (hc1' : x1.length ≤ cap') (hc2' : cap' ≤ maxLen) :
    Calls Try.prog 34 #[.slice a x0.length cap, .slice a' x1.length cap'] w fun e w' => e = .returned (.tuple #[.int .i64 (coR x0 x1), .int .i64 (coC x0 x1)]) ∧ Below w.heap.size w w' := by
  have H := Lib.hid hat
  have H' := Lib.hid hat'
  cases hb : isB x0 x0.length
  · obtain ⟨e1, e2⟩ := co_bad (xs := x0) (ys := x1) (by rw [hb]; rfl)
    rw [e1, e2]
    have HB := Lib.hid hb
    clear hb e1 e2 hat hat'
    go_enter Try.func34, Try.ntmps34
    go_wp2_with fail
    refine (implIsF_any _ _ _ _ _ hl H.out).mono ?_
    rw [HB.out]
    rintro e w0 ⟨rfl, hb0⟩
    have B0 := Lib.hid hb0
    clear hb0
    go_wp2
    go_ret2
    exact ⟨rfl, B0.out⟩
  cases hc : isB x1 x1.length
  · obtain ⟨e1, e2⟩ := co_bad (xs := x0) (ys := x1) (by rw [hb, hc]; rfl)
    rw [e1, e2]
    have HB := Lib.hid hb
    have HC := Lib.hid hc
    clear hb hc e1 e2 hat hat'
    go_enter Try.func34, Try.ntmps34
    go_wp2_with fail
    refine (implIsF_any _ _ _ _ _ hl H.out).mono ?_
    rw [HB.out]
    rintro e w0 ⟨rfl, hb0⟩
    have B0 := Lib.hid hb0
    clear hb0
    go_wp2_with fail
    refine (implIsF_any _ _ _ _ _ hl' (H'.out.keep B0.out (Nat.le_refl _))).mono ?_
    rw [HC.out]
    rintro e w9 ⟨rfl, hb9⟩
    have B9 := Lib.hid (B0.out.trans (hb9.mono B0.out.size))
    clear hb9
    go_wp2
    go_ret2
    exact ⟨rfl, B9.out⟩
  obtain ⟨e1, e2⟩ := co_good (xs := x0) (ys := x1) (by rw [hb, hc]; rfl)
  rw [e1, e2]
  have f1 := (toFm_of hb).1
  have g1 := (toFm_of hc).1
  have h40 := (is_pos' hb).2
  have h40' := (is_pos' hc).2
  obtain ⟨b, off, rfl, hF⟩ := hat.formula hb hc1 hc2
  obtain ⟨b', off', rfl, hG⟩ := hat'.formula hc hc1' hc2'
  have HB := Lib.hid hb
  have HC := Lib.hid hc
  have HF := Lib.hid hF
  have HG := Lib.hid hG
  clear hb hc e1 e2 hat hat' hF hG
  obtain ⟨f, hf⟩ : ∃ f, f = toFm x0 := ⟨_, rfl⟩
  obtain ⟨g, hg⟩ : ∃ g, g = toFm x1 := ⟨_, rfl⟩
  rw [← hf] at HF f1 ⊢
  rw [← hg] at HG g1 ⊢
  clear hf hg
  obtain ⟨len, hlen⟩ : ∃ len, len = x0.length := ⟨_, rfl⟩
  rw [← hlen] at H HF HB h40 hl ⊢
  obtain ⟨len', hlen'⟩ : ∃ len', len' = x1.length := ⟨_, rfl⟩
  rw [← hlen'] at H' HG HC h40' hl' ⊢
  clear hlen hlen'
  go_enter Try.func34, Try.ntmps34
  go_wp2_with fail
  refine (implIsF_any _ _ _ _ _ hl H.out).mono ?_
  rw [HB.out]
  rintro e w0 ⟨rfl, hb0⟩
  have B0 := Lib.hid hb0
  clear hb0
  go_wp2_with fail
  refine (implIsF_any _ _ _ _ _ hl' (H'.out.keep B0.out (Nat.le_refl _))).mono ?_
  rw [HC.out]
  rintro e w9 ⟨rfl, hb9⟩
  have B9 := Lib.hid (B0.out.trans (hb9.mono B0.out.size))
  clear hb9
  go_wp2_with fail
  refine (compareTexts_any f g f1 g1 b off len cap b' off' len' cap' _ (by omega) (by omega) (HF.out.keep B9.out (Nat.le_refl _)) (HG.out.keep B9.out (Nat.le_refl _))).mono ?_
  rintro e w2 ⟨rfl, hb2⟩
  have B2 := Lib.hid (B9.out.trans (hb2.mono B9.out.size))
  clear hb2
  go_wp2
  go_ret2
  exact ⟨rfl, B2.out⟩
theorem implCompareFormulas_v (x0 x1 : List Nd) (v : Value) (lo hi : Nat) (u : Value) (lo' hi' : Nat) (w : World) (hl : x0.length ≤ 1048576) (hl' : x1.length ≤ 1048576) (h : InN w lo hi v x0) (h' : InN w lo' hi' u x1) :
    Calls Try.prog 34 #[v, u] w fun e w' => e = .returned (.tuple #[.int .i64 (coR x0 x1), .int .i64 (coC x0 x1)]) ∧ Below w.heap.size w w' := by
  obtain ⟨a, cap, rfl, hat, hc1, hc2⟩ := h.at'
  obtain ⟨a', cap', rfl, hat', hc1', hc2'⟩ := h'.at'
  exact implCompareFormulas_g x0 x1 a cap a' cap' w hl hl' hat hc1 hc2 hat' hc1' hc2'

end Go.Proofs.Ytnoaaklkbfbdbaa
