/- Contracts of the functions of the model and of the program that make a formula of others, at every list of nodes, errors and limits among them. Conditions: those in the theorems. -/
import Derived.Test.YtegdbcdffnopfaaJoin
namespace Go.Proofs.Ytegdbcdffnopfaa
open Go.RowKit

def lim (zs : List Nd) : List Nd := if 40 < zs.length then [] else zs
def limC (zs : List Nd) : Int := if 40 < zs.length then 3 else 0
theorem lim_len (zs : List Nd) : (lim zs).length ≤ 40 := by
  unfold lim
  split
  · exact Nat.zero_le _
  · omega
theorem ownN_nil (w : World) (B : Nat) : OwnN w B (.slice none 0 0) [] := World.ownsRow_nil w B 63 2

theorem withinLimit_any (zs : List Nd) (v : Value) (B : Nat) (w : World) (hl : zs.length ≤ 8388608) (h : OwnN w B v zs) :
    Calls Try.prog 64 #[v] w fun e w' => ∃ v', e = .returned (.tuple #[v', .int .i64 (limC zs)]) ∧ OwnN w' B v' (lim zs) ∧ w = w' := by
  obtain ⟨a, cap, rfl, -, -, -, -⟩ := h.at
  have H := Lib.hid h
  clear h
  by_cases hb : 40 < zs.length
  · have e1 : lim zs = [] := if_pos hb
    have e2 : limC zs = 3 := if_pos hb
    rw [e1, e2]
    have hb' : (40 : Int) < (zs.length : Int) := by omega
    clear e1 e2
    go_enter Try.func64, Try.ntmps64
    go_wp2
    go_ret2
    exact ⟨_, rfl, ownN_nil _ _, rfl⟩
  · have e1 : lim zs = zs := if_neg hb
    have e2 : limC zs = 0 := if_neg hb
    rw [e1, e2]
    have hb' : ¬ (40 : Int) < (zs.length : Int) := by omega
    clear e1 e2
    go_enter Try.func64, Try.ntmps64
    go_wp2
    go_ret2
    exact ⟨_, rfl, H.out, rfl⟩

theorem l02Made_any (zs : List Nd) (v : Value) (B : Nat) (w : World) (hl : zs.length ≤ 8388608) (h : OwnN w B v zs) :
    Calls Try.prog 62 #[v] w fun e w' => ∃ v', e = .returned (.tuple #[v', .int .i64 (limC zs)]) ∧ OwnN w' B v' (lim zs) ∧ w = w' := by
  obtain ⟨a, cap, rfl, -, -, -, -⟩ := h.at
  have H := Lib.hid h
  clear h
  by_cases hb : 40 < zs.length
  · have e1 : lim zs = [] := if_pos hb
    have e2 : limC zs = 3 := if_pos hb
    rw [e1, e2]
    have hb' : (40 : Int) < (zs.length : Int) := by omega
    clear e1 e2
    go_enter Try.func62, Try.ntmps62
    go_wp2
    go_ret2
    exact ⟨_, rfl, ownN_nil _ _, rfl⟩
  · have e1 : lim zs = zs := if_neg hb
    have e2 : limC zs = 0 := if_neg hb
    rw [e1, e2]
    have hb' : ¬ (40 : Int) < (zs.length : Int) := by omega
    clear e1 e2
    go_enter Try.func62, Try.ntmps62
    go_wp2
    go_ret2
    exact ⟨_, rfl, H.out, rfl⟩

theorem is_pos {xs : List Nd} (h : isB xs xs.length = true) : 0 < xs.length ∧ xs.length ≤ 40 := by
  simp only [isB, treeB, Bool.and_eq_true, decide_eq_true_eq] at h
  exact ⟨h.2.1.2, h.1⟩

/-! NotFormula -/
def notL (xs : List Nd) : List Nd := (4, 0) :: (xs ++ [(1, 0)])
def notR (xs : List Nd) : List Nd := if isB xs xs.length then lim (notL xs) else []
def notC (xs : List Nd) : Int := if isB xs xs.length then limC (notL xs) else 1
theorem NotFormula_len (xs : List Nd) : (notR xs).length ≤ 1048576 := by unfold notR; split <;> (try have := lim_len (notL xs)) <;> simp <;> omega
theorem not_bad {xs : List Nd} (h : isB xs xs.length = false) : notR xs = [] ∧ notC xs = 1 := by simp [notR, notC, h]
theorem not_good {xs : List Nd} (h : isB xs xs.length = true) : notR xs = lim (notL xs) ∧ notC xs = limC (notL xs) := by simp [notR, notC, h]

set_option maxHeartbeats 400000 in
theorem specNotFormula_v (x0 : List Nd) (v : Value) (lo hi : Nat) (w : World) (hl : x0.length ≤ 1048576) (h : InN w lo hi v x0) :
    Calls Try.prog 24 #[v] w fun e w' => ∃ v', e = .returned (.tuple #[v', .int .i64 (notC x0)]) ∧ OwnN w' w.heap.size v' (notR x0) ∧ Below w.heap.size w w' := by
  obtain ⟨a, cap, rfl, hat⟩ := h.at
  have H := Lib.hid hat
  clear h hat
  cases hb : isB x0 x0.length
  · obtain ⟨e1, e2⟩ := not_bad hb
    rw [e1, e2]
    have HB := Lib.hid hb
    clear hb e1 e2
    go_enter Try.func24, Try.ntmps24
    go_wp2_with (go_at_call 51; refine (l02Is_any _ _ _ _ _ hl H.out).mono ?_; rw [HB.out]; rintro e w' ⟨rfl, rfl⟩)
    go_ret2
    exact ⟨_, rfl, ownN_nil _ _, Below.refl _ _⟩
  · obtain ⟨e1, e2⟩ := not_good hb
    rw [e1, e2]
    obtain ⟨p1, p2⟩ := is_pos hb
    have HB := Lib.hid hb
    clear hb e1 e2
    go_enter Try.func24, Try.ntmps24
    go_wp2_with fail
    refine (l02Is_any _ _ _ _ _ hl H.out).mono ?_
    rw [HB.out]
    rintro e w' ⟨rfl, rfl⟩
    go_wp2_with fail
    refine (l02Not_any x0 _ _ _ _ (by omega) p1 H.out).mono ?_
    rintro e w1 ⟨v1, rfl, ho, hb⟩
    go_wp2_with fail
    refine (l02Made_any (notL x0) _ _ _ (by simp [notL]; omega) ho).mono ?_
    rintro e w2 ⟨v2, rfl, ho2, rfl⟩
    have O2 := Lib.hid ho2
    clear ho ho2
    go_wp2
    go_ret2
    exact ⟨_, rfl, O2.out, hb⟩

set_option maxHeartbeats 400000 in
theorem implNotFormula_v (x0 : List Nd) (v : Value) (lo hi : Nat) (w : World) (hl : x0.length ≤ 1048576) (h : InN w lo hi v x0) :
    Calls Try.prog 25 #[v] w fun e w' => ∃ v', e = .returned (.tuple #[v', .int .i64 (notC x0)]) ∧ OwnN w' w.heap.size v' (notR x0) ∧ Below w.heap.size w w' := by
  obtain ⟨a, cap, rfl, hat⟩ := h.at
  have H := Lib.hid hat
  clear h hat
  cases hb : isB x0 x0.length
  · obtain ⟨e1, e2⟩ := not_bad hb
    rw [e1, e2]
    have HB := Lib.hid hb
    clear hb e1 e2
    go_enter Try.func25, Try.ntmps25
    go_wp2_with (go_at_call 54; refine (implIsF_any _ _ _ _ _ hl H.out).mono ?_; rw [HB.out]; rintro e w' ⟨rfl, hb⟩)
    go_ret2
    exact ⟨_, rfl, ownN_nil _ _, hb⟩
  · obtain ⟨e1, e2⟩ := not_good hb
    rw [e1, e2]
    obtain ⟨p1, p2⟩ := is_pos hb
    have HB := Lib.hid hb
    clear hb e1 e2
    go_enter Try.func25, Try.ntmps25
    go_wp2_with fail
    refine (implIsF_any _ _ _ _ _ hl H.out).mono ?_
    rw [HB.out]
    rintro e w0 ⟨rfl, hb0⟩
    have B0 := Lib.hid hb0
    clear hb0
    go_wp2_with fail
    refine (notNodes_any x0 _ _ _ _ (by omega) p1 (H.out.keep B0.out (Nat.le_refl _))).mono ?_
    rintro e w1 ⟨v1, rfl, ho, hb⟩
    go_wp2_with fail
    refine (withinLimit_any (notL x0) _ _ _ (by simp [notL]; omega) ho).mono ?_
    rintro e w2 ⟨v2, rfl, ho2, rfl⟩
    have O2 := Lib.hid (ho2.mono B0.out.size)
    have B2 := Lib.hid (B0.out.trans (hb.mono B0.out.size))
    clear ho ho2 hb
    go_wp2
    go_ret2
    exact ⟨_, rfl, O2.out, B2.out⟩

/-! PrefixFormula -/
def preR (k : Int) (xs : List Nd) : List Nd := if isB xs xs.length then (if k == 5 || k == 6 then lim ((k, 0) :: xs) else []) else []
def preC (k : Int) (xs : List Nd) : Int := if isB xs xs.length then (if k == 5 || k == 6 then limC ((k, 0) :: xs) else 2) else 1
theorem PrefixFormula_len (k : Int) (xs : List Nd) : (preR k xs).length ≤ 1048576 := by unfold preR; split <;> (try split) <;> (try have := lim_len ((k, 0) :: xs)) <;> simp <;> omega
theorem pre_bad {k : Int} {xs : List Nd} (h : isB xs xs.length = false) : preR k xs = [] ∧ preC k xs = 1 := by simp [preR, preC, h]
theorem pre_out {k : Int} {xs : List Nd} (h : isB xs xs.length = true) (h2 : (k == 5 || k == 6) = false) : preR k xs = [] ∧ preC k xs = 2 := by simp only [preR, preC, h, h2]; exact ⟨rfl, rfl⟩
theorem pre_good {k : Int} {xs : List Nd} (h : isB xs xs.length = true) (h2 : (k == 5 || k == 6) = true) : preR k xs = lim ((k, 0) :: xs) ∧ preC k xs = limC ((k, 0) :: xs) := by simp only [preR, preC, h, h2]; exact ⟨rfl, rfl⟩

set_option maxHeartbeats 400000 in
theorem specPrefixFormula_v (k : Int) (x0 : List Nd) (v : Value) (lo hi : Nat) (w : World) (hl : x0.length ≤ 1048576) (h : InN w lo hi v x0) :
    Calls Try.prog 30 #[.int .i64 k, v] w fun e w' => ∃ v', e = .returned (.tuple #[v', .int .i64 (preC k x0)]) ∧ OwnN w' w.heap.size v' (preR k x0) ∧ Below w.heap.size w w' := by
  obtain ⟨a, cap, rfl, hat⟩ := h.at
  have H := Lib.hid hat
  clear h hat
  cases hb : isB x0 x0.length
  · obtain ⟨e1, e2⟩ := pre_bad (k := k) hb
    rw [e1, e2]
    have HB := Lib.hid hb
    clear hb e1 e2
    go_enter Try.func30, Try.ntmps30
    go_wp2_with (go_at_call 51; refine (l02Is_any _ _ _ _ _ hl H.out).mono ?_; rw [HB.out]; rintro e w' ⟨rfl, rfl⟩)
    go_ret2
    exact ⟨_, rfl, ownN_nil _ _, Below.refl _ _⟩
  · cases hc : (k == 5 || k == 6)
    · obtain ⟨e1, e2⟩ := pre_out hb hc
      rw [e1, e2]
      have HB := Lib.hid hb
      have h5 : (k != 5) = true := by simp at hc; simpa using hc.1
      have h6 : (k != 6) = true := by simp at hc; simpa using hc.2
      clear hb e1 e2 hc
      go_enter Try.func30, Try.ntmps30
      go_wp2_with (go_at_call 51; refine (l02Is_any _ _ _ _ _ hl H.out).mono ?_; rw [HB.out]; rintro e w' ⟨rfl, rfl⟩)
      go_ret2
      exact ⟨_, rfl, ownN_nil _ _, Below.refl _ _⟩
    · obtain ⟨e1, e2⟩ := pre_good hb hc
      rw [e1, e2]
      obtain ⟨p1, p2⟩ := is_pos hb
      have HB := Lib.hid hb
      clear hb e1 e2
      have hk : k = 5 ∨ k = 6 := by simpa using hc
      clear hc
      rcases hk with rfl | rfl
      all_goals
        go_enter Try.func30, Try.ntmps30
        go_wp2_with fail
        refine (l02Is_any _ _ _ _ _ hl H.out).mono ?_
        rw [HB.out]
        rintro e w' ⟨rfl, rfl⟩
        go_wp2_with fail
        refine (l02Pre_any _ x0 _ _ _ _ (by omega) p1 H.out).mono ?_
        rintro e w1 ⟨v1, rfl, ho, hb⟩
        go_wp2_with fail
        refine (l02Made_any _ _ _ _ (by simp; omega) ho).mono ?_
        rintro e w2 ⟨v2, rfl, ho2, rfl⟩
        have O2 := Lib.hid ho2
        clear ho ho2
        go_wp2
        go_ret2
        exact ⟨_, rfl, O2.out, hb⟩
set_option maxHeartbeats 400000 in
theorem implPrefixFormula_v (k : Int) (x0 : List Nd) (v : Value) (lo hi : Nat) (w : World) (hl : x0.length ≤ 1048576) (h : InN w lo hi v x0) :
    Calls Try.prog 31 #[.int .i64 k, v] w fun e w' => ∃ v', e = .returned (.tuple #[v', .int .i64 (preC k x0)]) ∧ OwnN w' w.heap.size v' (preR k x0) ∧ Below w.heap.size w w' := by
  obtain ⟨a, cap, rfl, hat⟩ := h.at
  have H := Lib.hid hat
  clear h hat
  cases hb : isB x0 x0.length
  · obtain ⟨e1, e2⟩ := pre_bad (k := k) hb
    rw [e1, e2]
    have HB := Lib.hid hb
    clear hb e1 e2
    go_enter Try.func31, Try.ntmps31
    go_wp2_with (go_at_call 54; refine (implIsF_any _ _ _ _ _ hl H.out).mono ?_; rw [HB.out]; rintro e w' ⟨rfl, hb⟩)
    go_ret2
    exact ⟨_, rfl, ownN_nil _ _, hb⟩
  · cases hc : (k == 5 || k == 6)
    · obtain ⟨e1, e2⟩ := pre_out hb hc
      rw [e1, e2]
      have HB := Lib.hid hb
      have HC := Lib.hid hc
      clear hb e1 e2 hc
      go_enter Try.func31, Try.ntmps31
      go_wp2_with (first | (go_at_call 54; refine (implIsF_any _ _ _ _ _ hl H.out).mono ?_; rw [HB.out]; rintro e w' ⟨rfl, hb⟩) | (go_at_call 70; refine (isModal_any _ _).mono ?_; rw [HC.out]; rintro e w' ⟨rfl, rfl⟩))
      go_ret2
      exact ⟨_, rfl, ownN_nil _ _, hb⟩
    · obtain ⟨e1, e2⟩ := pre_good hb hc
      rw [e1, e2]
      obtain ⟨p1, p2⟩ := is_pos hb
      have HB := Lib.hid hb
      have HC := Lib.hid hc
      clear hb e1 e2 hc
      go_enter Try.func31, Try.ntmps31
      go_wp2_with fail
      refine (implIsF_any _ _ _ _ _ hl H.out).mono ?_
      rw [HB.out]
      rintro e w0 ⟨rfl, hb0⟩
      have B0 := Lib.hid hb0
      clear hb0
      go_wp2_with fail
      refine (isModal_any _ _).mono ?_
      rw [HC.out]
      rintro e w' ⟨rfl, rfl⟩
      go_wp2_with fail
      refine (join1_any k x0 _ _ _ _ w0 (by omega) p1 (H.out.keep B0.out (Nat.le_refl _)) _ rfl).mono ?_
      rintro e w1 ⟨v1, rfl, ho, hb⟩
      go_wp2_with fail
      refine (withinLimit_any _ _ _ _ (by simp; omega) ho).mono ?_
      rintro e w2 ⟨v2, rfl, ho2, rfl⟩
      have O2 := Lib.hid (ho2.mono B0.out.size)
      have B2 := Lib.hid (B0.out.trans (hb.mono B0.out.size))
      clear ho ho2 hb
      go_wp2
      go_ret2
      exact ⟨_, rfl, O2.out, B2.out⟩

end Go.Proofs.Ytegdbcdffnopfaa
