/- Contracts of NegationNormal of the model and of the program, at every argument. Conditions: those in the theorems. -/
import Derived.Test.YtbhgedabcclimaaNnI
namespace Go.Proofs.Ytbhgedabcclimaa
open Go.RowKit

noncomputable def nnL (xs : List Nd) (p : Bool) : List Nd := ((toFm xs).nn p).enc
noncomputable def nnR (xs : List Nd) (p : Bool) : List Nd := if isB xs xs.length then lim (nnL xs p) else []
noncomputable def nnC (xs : List Nd) (p : Bool) : Int := if isB xs xs.length then limC (nnL xs p) else 1
theorem NegationNormal_len (xs : List Nd) (p : Bool) : (nnR xs p).length ≤ 1048576 := by
  rw [nnR]
  split
  · have := lim_len (nnL xs p); omega
  · simp
theorem nn_bad {xs : List Nd} {p : Bool} (h : isB xs xs.length = false) : nnR xs p = [] ∧ nnC xs p = 1 := by simp [nnR, nnC, h]
theorem nn_good {xs : List Nd} {p : Bool} (h : isB xs xs.length = true) : nnR xs p = lim (nnL xs p) ∧ nnC xs p = limC (nnL xs p) := by simp [nnR, nnC, h]
theorem nnL_len {xs : List Nd} (h : isB xs xs.length = true) (p : Bool) : (nnL xs p).length ≤ 8388608 := by
  obtain ⟨g1, g2, g3⟩ := toFm_of h
  have := (toFm xs).nn_sz p
  rw [nnL, Fm.enc_len]
  omega

set_option maxHeartbeats 1000000 in
theorem specNegationNormal_v (x0 : List Nd) (x1 : Bool) (v : Value) (lo hi : Nat) (w : World) (hl : x0.length ≤ 1048576) (h : InN w lo hi v x0) :
    Calls Try.prog 48 #[v, .bool x1] w fun e w' => ∃ v', e = .returned (.tuple #[v', .int .i64 (nnC x0 x1)]) ∧ OwnN w' w.heap.size v' (nnR x0 x1) ∧ Below w.heap.size w w' := by
  obtain ⟨a, cap, rfl, hat, hc1, hc2⟩ := h.at'
  have H := Lib.hid hat
  clear h hat
  cases hb : isB x0 x0.length
  · obtain ⟨e1, e2⟩ := nn_bad (p := x1) hb
    rw [e1, e2]
    have HB := Lib.hid hb
    clear hb e1 e2
    go_enter Try.func48, Try.ntmps48
    go_wp2_with (go_at_call 53; refine (l02Is_any _ _ _ _ _ hl H.out).mono ?_; rw [HB.out]; rintro e w' ⟨rfl, rfl⟩)
    go_ret2
    exact ⟨_, rfl, ownN_nil _ _, Below.refl _ _⟩
  · obtain ⟨e1, e2⟩ := nn_good (p := x1) hb
    rw [e1, e2]
    have HB := Lib.hid hb
    obtain ⟨b, off, rfl, hF⟩ := H.out.formula hb hc1 hc2
    have HF := Lib.hid hF
    have LL := Lib.hid (nnL_len hb x1)
    have NC := Lib.hid (norm_all (toFm x0) (toFm_of hb).1)
    have hl40 := (is_pos' hb).2
    clear hb e1 e2 hF hc1 hc2
    go_enter Try.func48, Try.ntmps48
    go_wp2_with fail
    refine (l02Is_any _ _ _ _ _ hl H.out).mono ?_
    rw [HB.out]
    rintro e w' ⟨rfl, rfl⟩
    go_wp2_with fail
    refine (NC.out x1 b off _ _ _ (by omega) HF.out).mono ?_
    rintro e w1 ⟨v1, rfl, ho1, hb1⟩
    have B1 := Lib.hid hb1
    have O1 := Lib.hid ho1
    clear ho1 hb1
    go_wp2_with fail
    refine (l02Made_any (nnL x0 x1) v1 w.heap.size _ LL.out O1.out).mono ?_
    rintro e w2 ⟨v2, rfl, ho2, rfl⟩
    have O2 := Lib.hid ho2
    clear ho2
    go_wp2
    go_ret2
    exact ⟨_, rfl, O2.out, B1.out⟩

set_option maxHeartbeats 1000000 in
theorem implNegationNormal_v (x0 : List Nd) (x1 : Bool) (v : Value) (lo hi : Nat) (w : World) (hl : x0.length ≤ 1048576) (h : InN w lo hi v x0) :
    Calls Try.prog 49 #[v, .bool x1] w fun e w' => ∃ v', e = .returned (.tuple #[v', .int .i64 (nnC x0 x1)]) ∧ OwnN w' w.heap.size v' (nnR x0 x1) ∧ Below w.heap.size w w' := by
  obtain ⟨a, cap, rfl, hat, hc1, hc2⟩ := h.at'
  have H := Lib.hid hat
  clear h hat
  cases hb : isB x0 x0.length
  · obtain ⟨e1, e2⟩ := nn_bad (p := x1) hb
    rw [e1, e2]
    have HB := Lib.hid hb
    clear hb e1 e2
    go_enter Try.func49, Try.ntmps49
    go_wp2_with fail
    refine (implIsF_any _ _ _ _ _ hl H.out).mono ?_
    rw [HB.out]
    rintro e w' ⟨rfl, hb⟩
    go_wp2
    go_ret2
    exact ⟨_, rfl, ownN_nil _ _, hb⟩
  · obtain ⟨e1, e2⟩ := nn_good (p := x1) hb
    rw [e1, e2]
    have HB := Lib.hid hb
    obtain ⟨b, off, rfl, hF⟩ := H.out.formula hb hc1 hc2
    have HF := Lib.hid hF
    have LL := Lib.hid (nnL_len hb x1)
    have NC := Lib.hid (nof_all (toFm x0) (toFm_of hb).1)
    have hl40 := (is_pos' hb).2
    clear hb e1 e2 hF hc1 hc2
    go_enter Try.func49, Try.ntmps49
    go_wp2_with fail
    refine (implIsF_any _ _ _ _ _ hl H.out).mono ?_
    rw [HB.out]
    rintro e w0 ⟨rfl, hb0⟩
    have B0 := Lib.hid hb0
    clear hb0
    go_wp2_with fail
    refine (NC.out x1 b off _ _ _ (by omega) (HF.out.keep B0.out (Nat.le_refl _))).mono ?_
    rintro e w1 ⟨v1, rfl, ho1, hb1⟩
    have B1 := Lib.hid (B0.out.trans (hb1.mono B0.out.size))
    have O1 := Lib.hid (ho1.mono B0.out.size)
    clear ho1 hb1
    go_wp2_with fail
    refine (withinLimit_any (nnL x0 x1) v1 w.heap.size _ LL.out O1.out).mono ?_
    rintro e w2 ⟨v2, rfl, ho2, rfl⟩
    have O2 := Lib.hid ho2
    clear ho2
    go_wp2
    go_ret2
    exact ⟨_, rfl, O2.out, B1.out⟩

end Go.Proofs.Ytbhgedabcclimaa
