/- Contracts of JoinFormulas of the model and of the program, at every two lists of nodes. Conditions: those in the theorems. -/
import Derived.Test.YtegdbcdffnopfaaMade
namespace Go.Proofs.Ytegdbcdffnopfaa
open Go.RowKit

def pairL (k : Int) (xs ys : List Nd) : List Nd := (k, 0) :: (xs ++ ys)
def joiR (k : Int) (xs ys : List Nd) : List Nd := if isB xs xs.length && isB ys ys.length then (if inB k 2 4 then lim (pairL k xs ys) else []) else []
def joiC (k : Int) (xs ys : List Nd) : Int := if isB xs xs.length && isB ys ys.length then (if inB k 2 4 then limC (pairL k xs ys) else 2) else 1
theorem JoinFormulas_len (k : Int) (xs ys : List Nd) : (joiR k xs ys).length ≤ 1048576 := by
  have := lim_len (pairL k xs ys)
  unfold joiR
  split
  · split
    · omega
    · simp
  · simp
theorem joi_bad {k : Int} {xs ys : List Nd} (h : (isB xs xs.length && isB ys ys.length) = false) : joiR k xs ys = [] ∧ joiC k xs ys = 1 := by unfold joiR joiC; rw [h]; exact ⟨rfl, rfl⟩
theorem joi_out {k : Int} {xs ys : List Nd} (h : (isB xs xs.length && isB ys ys.length) = true) (h2 : inB k 2 4 = false) : joiR k xs ys = [] ∧ joiC k xs ys = 2 := by unfold joiR joiC; rw [h, h2]; exact ⟨rfl, rfl⟩
theorem joi_good {k : Int} {xs ys : List Nd} (h : (isB xs xs.length && isB ys ys.length) = true) (h2 : inB k 2 4 = true) : joiR k xs ys = lim (pairL k xs ys) ∧ joiC k xs ys = limC (pairL k xs ys) := by unfold joiR joiC; rw [h, h2]; exact ⟨rfl, rfl⟩
theorem prt_two (k : Int) : (prt k != 2) = !inB k 2 4 := by
  unfold prt inB
  split
  · have : decide (2 ≤ k) = true ∧ decide (k ≤ 4) = true := by simp; omega
    rw [this.1, this.2]; rfl
  · have : (decide (2 ≤ k) && decide (k ≤ 4)) = false := by simp; omega
    rw [this]
    split <;> rfl

set_option maxHeartbeats 800000 in
theorem specJoinFormulas_v (k : Int) (x0 x1 : List Nd) (v : Value) (lo hi : Nat) (u : Value) (lo' hi' : Nat) (w : World) (hl : x0.length ≤ 1048576) (hl' : x1.length ≤ 1048576) (h : InN w lo hi v x0) (h' : InN w lo' hi' u x1) :
    Calls Try.prog 28 #[.int .i64 k, v, u] w fun e w' => ∃ v', e = .returned (.tuple #[v', .int .i64 (joiC k x0 x1)]) ∧ OwnN w' w.heap.size v' (joiR k x0 x1) ∧ Below w.heap.size w w' := by
  obtain ⟨a, cap, rfl, hat⟩ := h.at
  obtain ⟨a', cap', rfl, hat'⟩ := h'.at
  have H := Lib.hid hat
  have H' := Lib.hid hat'
  clear h hat h' hat'
  cases hb : isB x0 x0.length
  · obtain ⟨e1, e2⟩ := joi_bad (k := k) (xs := x0) (ys := x1) (by rw [hb]; rfl)
    rw [e1, e2]
    have HB := Lib.hid hb
    clear hb e1 e2
    go_enter Try.func28, Try.ntmps28
    go_wp2_with fail
    refine (l02Is_any _ _ _ _ _ hl H.out).mono ?_
    rw [HB.out]
    rintro e w' ⟨rfl, rfl⟩
    go_wp2
    go_ret2
    exact ⟨_, rfl, ownN_nil _ _, Below.refl _ _⟩
  cases hc : isB x1 x1.length
  · obtain ⟨e1, e2⟩ := joi_bad (k := k) (xs := x0) (ys := x1) (by rw [hb, hc]; rfl)
    rw [e1, e2]
    have HB := Lib.hid hb
    have HC := Lib.hid hc
    clear hb hc e1 e2
    go_enter Try.func28, Try.ntmps28
    go_wp2_with fail
    refine (l02Is_any _ _ _ _ _ hl H.out).mono ?_
    rw [HB.out]
    rintro e w' ⟨rfl, rfl⟩
    go_wp2_with fail
    refine (l02Is_any _ _ _ _ _ hl' H'.out).mono ?_
    rw [HC.out]
    rintro e w' ⟨rfl, rfl⟩
    go_wp2
    go_ret2
    exact ⟨_, rfl, ownN_nil _ _, Below.refl _ _⟩
  have hbc : (isB x0 x0.length && isB x1 x1.length) = true := by rw [hb, hc]; rfl
  obtain ⟨p1, p2⟩ := is_pos hb
  obtain ⟨p3, p4⟩ := is_pos hc
  have HB := Lib.hid hb
  have HC := Lib.hid hc
  clear hb hc
  cases hd : inB k 2 4
  · obtain ⟨e1, e2⟩ := joi_out hbc hd
    rw [e1, e2]
    have HD := Lib.hid hd
    clear hbc hd e1 e2
    go_enter Try.func28, Try.ntmps28
    go_wp2_with fail
    refine (l02Is_any _ _ _ _ _ hl H.out).mono ?_
    rw [HB.out]
    rintro e w' ⟨rfl, rfl⟩
    go_wp2_with fail
    refine (l02Is_any _ _ _ _ _ hl' H'.out).mono ?_
    rw [HC.out]
    rintro e w' ⟨rfl, rfl⟩
    go_wp2_with fail
    refine (l01In_any _ _ _ _).mono ?_
    rw [HD.out]
    rintro e w' ⟨rfl, rfl⟩
    go_wp2
    go_ret2
    exact ⟨_, rfl, ownN_nil _ _, Below.refl _ _⟩
  · obtain ⟨e1, e2⟩ := joi_good hbc hd
    rw [e1, e2]
    have HD := Lib.hid hd
    clear hbc hd e1 e2
    go_enter Try.func28, Try.ntmps28
    go_wp2_with fail
    refine (l02Is_any _ _ _ _ _ hl H.out).mono ?_
    rw [HB.out]
    rintro e w' ⟨rfl, rfl⟩
    go_wp2_with fail
    refine (l02Is_any _ _ _ _ _ hl' H'.out).mono ?_
    rw [HC.out]
    rintro e w' ⟨rfl, rfl⟩
    go_wp2_with fail
    refine (l01In_any _ _ _ _).mono ?_
    rw [HD.out]
    rintro e w' ⟨rfl, rfl⟩
    go_wp2_with fail
    refine (l02Pair_any k x0 x1 _ _ _ _ _ _ _ (by omega) p1 p3 H.out H'.out).mono ?_
    rintro e w1 ⟨v1, rfl, ho, hb⟩
    go_wp2_with fail
    refine (l02Made_any (pairL k x0 x1) _ _ _ (by simp [pairL]; omega) ho).mono ?_
    rintro e w2 ⟨v2, rfl, ho2, rfl⟩
    have O2 := Lib.hid ho2
    clear ho ho2
    go_wp2
    go_ret2
    exact ⟨_, rfl, O2.out, hb⟩

set_option maxHeartbeats 800000 in
theorem implJoinFormulas_v (k : Int) (x0 x1 : List Nd) (v : Value) (lo hi : Nat) (u : Value) (lo' hi' : Nat) (w : World) (hl : x0.length ≤ 1048576) (hl' : x1.length ≤ 1048576) (h : InN w lo hi v x0) (h' : InN w lo' hi' u x1) :
    Calls Try.prog 29 #[.int .i64 k, v, u] w fun e w' => ∃ v', e = .returned (.tuple #[v', .int .i64 (joiC k x0 x1)]) ∧ OwnN w' w.heap.size v' (joiR k x0 x1) ∧ Below w.heap.size w w' := by
  obtain ⟨a, cap, rfl, hat⟩ := h.at
  obtain ⟨a', cap', rfl, hat'⟩ := h'.at
  have H := Lib.hid hat
  have H' := Lib.hid hat'
  clear h hat h' hat'
  cases hb : isB x0 x0.length
  · obtain ⟨e1, e2⟩ := joi_bad (k := k) (xs := x0) (ys := x1) (by rw [hb]; rfl)
    rw [e1, e2]
    have HB := Lib.hid hb
    clear hb e1 e2
    go_enter Try.func29, Try.ntmps29
    go_wp2_with fail
    refine (implIsF_any _ _ _ _ _ hl H.out).mono ?_
    rw [HB.out]
    rintro e w0 ⟨rfl, hb0⟩
    have B0 := Lib.hid hb0
    clear hb0
    go_wp2
    go_ret2
    exact ⟨_, rfl, ownN_nil _ _, B0.out⟩
  cases hc : isB x1 x1.length
  · obtain ⟨e1, e2⟩ := joi_bad (k := k) (xs := x0) (ys := x1) (by rw [hb, hc]; rfl)
    rw [e1, e2]
    have HB := Lib.hid hb
    have HC := Lib.hid hc
    clear hb hc e1 e2
    go_enter Try.func29, Try.ntmps29
    go_wp2_with fail
    refine (implIsF_any _ _ _ _ _ hl H.out).mono ?_
    rw [HB.out]
    rintro e w0 ⟨rfl, hb0⟩
    have B0 := Lib.hid hb0
    clear hb0
    go_wp2_with fail
    refine (implIsF_any _ _ _ _ _ hl' (H'.out.keep B0.out (Nat.le_refl _))).mono ?_
    rw [HC.out]
    rintro e w9 ⟨rfl, hb9⟩
    have B9 := Lib.hid (B0.out.trans (hb9.mono B0.out.size))
    clear hb9
    go_wp2
    go_ret2
    exact ⟨_, rfl, ownN_nil _ _, B9.out⟩
  have hbc : (isB x0 x0.length && isB x1 x1.length) = true := by rw [hb, hc]; rfl
  obtain ⟨p1, p2⟩ := is_pos hb
  obtain ⟨p3, p4⟩ := is_pos hc
  have HB := Lib.hid hb
  have HC := Lib.hid hc
  clear hb hc
  cases hd : inB k 2 4
  · obtain ⟨e1, e2⟩ := joi_out hbc hd
    rw [e1, e2]
    have hq : (prt k != 2) = true := by rw [prt_two, hd]; rfl
    obtain ⟨q, hqq⟩ : ∃ q, q = prt k := ⟨_, rfl⟩
    rw [← hqq] at hq
    have HQ := Lib.hid hqq
    clear hqq
    have HD := Lib.hid hd
    clear hbc hd e1 e2
    go_enter Try.func29, Try.ntmps29
    go_wp2_with fail
    refine (implIsF_any _ _ _ _ _ hl H.out).mono ?_
    rw [HB.out]
    rintro e w0 ⟨rfl, hb0⟩
    have B0 := Lib.hid hb0
    clear hb0
    go_wp2_with fail
    refine (implIsF_any _ _ _ _ _ hl' (H'.out.keep B0.out (Nat.le_refl _))).mono ?_
    rw [HC.out]
    rintro e w9 ⟨rfl, hb9⟩
    have B9 := Lib.hid (B0.out.trans (hb9.mono B0.out.size))
    clear hb9
    go_wp2_with fail
    refine (partCount_any _ _).mono ?_
    rw [← HQ.out]
    rintro e w' ⟨rfl, rfl⟩
    go_wp2
    go_ret2
    exact ⟨_, rfl, ownN_nil _ _, B9.out⟩
  · obtain ⟨e1, e2⟩ := joi_good hbc hd
    rw [e1, e2]
    have hq : (prt k != 2) = false := by rw [prt_two, hd]; rfl
    obtain ⟨q, hqq⟩ : ∃ q, q = prt k := ⟨_, rfl⟩
    rw [← hqq] at hq
    have HQ := Lib.hid hqq
    clear hqq
    have HD := Lib.hid hd
    clear hbc hd e1 e2
    go_enter Try.func29, Try.ntmps29
    go_wp2_with fail
    refine (implIsF_any _ _ _ _ _ hl H.out).mono ?_
    rw [HB.out]
    rintro e w0 ⟨rfl, hb0⟩
    have B0 := Lib.hid hb0
    clear hb0
    go_wp2_with fail
    refine (implIsF_any _ _ _ _ _ hl' (H'.out.keep B0.out (Nat.le_refl _))).mono ?_
    rw [HC.out]
    rintro e w9 ⟨rfl, hb9⟩
    have B9 := Lib.hid (B0.out.trans (hb9.mono B0.out.size))
    clear hb9
    go_wp2_with fail
    refine (partCount_any _ _).mono ?_
    rw [← HQ.out]
    rintro e w' ⟨rfl, rfl⟩
    go_wp2_with fail
    refine (join2_any k x0 x1 _ _ _ _ _ _ _ w9 (by omega) p1 p3 (H.out.keep B9.out (Nat.le_refl _)) (H'.out.keep B9.out (Nat.le_refl _)) _ rfl).mono ?_
    rintro e w1 ⟨v1, rfl, ho, hb⟩
    go_wp2_with fail
    refine (withinLimit_any (pairL k x0 x1) _ _ _ (by simp [pairL]; omega) ho).mono ?_
    rintro e w2 ⟨v2, rfl, ho2, rfl⟩
    have O2 := Lib.hid (ho2.mono B9.out.size)
    have B2 := Lib.hid (B9.out.trans (hb.mono B9.out.size))
    clear ho ho2 hb
    go_wp2
    go_ret2
    exact ⟨_, rfl, O2.out, B2.out⟩

end Go.Proofs.Ytegdbcdffnopfaa
