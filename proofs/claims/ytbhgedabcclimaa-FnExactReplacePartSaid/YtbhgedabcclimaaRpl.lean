/- Contracts of ReplacePart of the model and of the program, at every argument. Conditions: those in the theorems. -/
import Derived.Test.YtbhgedabcclimaaPut
namespace Go.Proofs.Ytbhgedabcclimaa
open Go.RowKit

set_option maxHeartbeats 2000000 in
theorem specReplacePart_v (x0 : List Nd) (x1 : Int) (x2 : List Nd) (v : Value) (lo hi : Nat) (u : Value) (lo' hi' : Nat) (w : World) (hl : x0.length ≤ 1048576) (hl' : x2.length ≤ 1048576) (h : InN w lo hi v x0) (h' : InN w lo' hi' u x2) :
    Calls Try.prog 41 #[v, .int .i64 x1, u] w fun e w' => ∃ v', e = .returned (.tuple #[v', .int .i64 (rpC x0 x1 x2)]) ∧ OwnN w' w.heap.size v' (rpR x0 x1 x2) ∧ Below w.heap.size w w' := by
  obtain ⟨a, cap, rfl, hat, hca, hcb⟩ := h.at'
  obtain ⟨a', cap', rfl, hat'⟩ := h'.at
  have H := Lib.hid hat
  have H' := Lib.hid hat'
  clear h h' hat hat'
  unfold maxLen at hcb
  cases hb : (isB x0 x0.length && isB x2 x2.length)
  · obtain ⟨e1, e2, -⟩ := rp_bad (i := x1) hb
    rw [e1, e2]
    cases hb0 : isB x0 x0.length
    · have HB := Lib.hid hb0
      clear hb e1 e2 hb0
      go_enter Try.func41, Try.ntmps41
      go_wp2_with (go_at_call 53; refine (l02Is_any _ _ _ _ _ hl H.out).mono ?_; rw [HB.out]; rintro e w' ⟨rfl, rfl⟩)
      go_ret2
      exact ⟨_, rfl, ownN_nil _ _, Below.refl _ _⟩
    · have HB := Lib.hid hb0
      have HB' := Lib.hid (show isB x2 x2.length = false by rw [hb0] at hb; simpa using hb)
      clear hb e1 e2 hb0
      go_enter Try.func41, Try.ntmps41
      go_wp2_with fail
      refine (l02Is_any _ _ _ _ _ hl H.out).mono ?_
      rw [HB.out]
      rintro e w' ⟨rfl, rfl⟩
      go_wp2_with fail
      refine (l02Is_any _ _ _ _ _ hl' H'.out).mono ?_
      rw [HB'.out]
      rintro e w' ⟨rfl, rfl⟩
      go_wp2
      go_ret2
      exact ⟨_, rfl, ownN_nil _ _, Below.refl _ _⟩
  · have hbb : isB x0 x0.length = true ∧ isB x2 x2.length = true := by simpa using hb
    have HB := Lib.hid hbb.1
    have HB' := Lib.hid hbb.2
    have hl40 := (is_pos' hbb.1)
    have hl40' := (is_pos' hbb.2)
    cases hr : rngB x0 x1
    · obtain ⟨e1, e2, -⟩ := rp_out hb hr
      rw [e1, e2]
      have HC := Lib.hid (show inB x1 0 ((x0.length : Int) - 1) = false by unfold rngB at hr; simp [inB] at hr ⊢; omega)
      clear hb e1 e2 hbb hr
      go_enter Try.func41, Try.ntmps41
      go_wp2_with fail
      refine (l02Is_any _ _ _ _ _ hl H.out).mono ?_
      rw [HB.out]
      rintro e w' ⟨rfl, rfl⟩
      go_wp2_with fail
      refine (l02Is_any _ _ _ _ _ hl' H'.out).mono ?_
      rw [HB'.out]
      rintro e w' ⟨rfl, rfl⟩
      go_wp2_with fail
      refine (l01In_any _ _ _ _).mono ?_
      rw [HC.out]
      rintro e w' ⟨rfl, rfl⟩
      go_wp2
      go_ret2
      exact ⟨_, rfl, ownN_nil _ _, Below.refl _ _⟩
    · obtain ⟨k, rfl, hk, e1, e2, -⟩ := rp_good hb hr
      rw [e1, e2]
      obtain ⟨t, ht, ht1, ht2⟩ := part_at hbb.1 hk
      have HC := Lib.hid (show inB (k : Int) 0 ((x0.length : Int) - 1) = true by unfold rngB at hr; simp [inB] at hr ⊢; omega)
      have T := Lib.hid ht
      have PL := Lib.hid (show putL x0 k x2 = x0.take k ++ x2 ++ x0.drop t by rw [putL, ht, Int.toNat_natCast])
      have LP := Lib.hid (show (putL x0 k x2).length ≤ 8388608 by have := putL_len x0 x2 k; omega)
      obtain ⟨b, off, rfl⟩ := H.out.ex hl40.1
      obtain ⟨b', off', rfl⟩ := H'.out.ex hl40'.1
      clear hb e1 e2 hbb hr ht
      go_enter Try.func41, Try.ntmps41
      go_wp2_with fail
      refine (l02Is_any _ _ _ _ _ hl H.out).mono ?_
      rw [HB.out]
      rintro e w' ⟨rfl, rfl⟩
      go_wp2_with fail
      refine (l02Is_any _ _ _ _ _ hl' H'.out).mono ?_
      rw [HB'.out]
      rintro e w' ⟨rfl, rfl⟩
      go_wp2_with fail
      refine (l01In_any _ _ _ _).mono ?_
      rw [HC.out]
      rintro e w' ⟨rfl, rfl⟩
      go_wp2_with fail
      refine (l03Put_any x0 x2 k t _ _ _ _ _ _ _ _ _ (by omega) (by omega) hca (by omega) H.out H'.out hk T.out ht2).mono ?_
      rw [← PL.out]
      rintro e w1 ⟨v1, rfl, ho1, hb1⟩
      have B1 := Lib.hid hb1
      have O1 := Lib.hid ho1
      clear ho1 hb1
      go_wp2_with fail
      refine (l02Made_any (putL x0 k x2) v1 w.heap.size _ LP.out O1.out).mono ?_
      rintro e w2 ⟨v2, rfl, ho2, rfl⟩
      have O2 := Lib.hid ho2
      clear ho2
      go_wp2
      go_ret2
      exact ⟨_, rfl, O2.out, B1.out⟩

theorem AtN.tail {w : World} {b off len e : Nat} {xs : List Nd} (h : AtN w (some ⟨b, off, none⟩) len xs) (he : e ≤ len) : AtN w (some ⟨b, off + e * 2, none⟩) (len - e) (xs.drop e) := by
  have hx := h.1
  have := h.sub e (len - e) (by omega)
  rwa [List.take_of_length_le (by simp; omega)] at this

set_option maxHeartbeats 4000000 in
theorem implReplacePart_v (x0 : List Nd) (x1 : Int) (x2 : List Nd) (v : Value) (lo hi : Nat) (u : Value) (lo' hi' : Nat) (w : World) (hl : x0.length ≤ 1048576) (hl' : x2.length ≤ 1048576) (h : InN w lo hi v x0) (h' : InN w lo' hi' u x2) :
    Calls Try.prog 42 #[v, .int .i64 x1, u] w fun e w' => ∃ v', e = .returned (.tuple #[v', .int .i64 (rpC x0 x1 x2)]) ∧ OwnN w' w.heap.size v' (rpR x0 x1 x2) ∧ Below w.heap.size w w' := by
  obtain ⟨a, cap, rfl, hat, hca, hcb⟩ := h.at'
  obtain ⟨a', cap', rfl, hat'⟩ := h'.at
  have H := Lib.hid hat
  have H' := Lib.hid hat'
  clear h h' hat hat'
  unfold maxLen at hcb
  have CN := cn1_any x0 x2 x1 a a' x0.length cap x2.length cap' w.heap.size w hl hl' H.out H'.out 26 rfl
  cases hb : (isB x0 x0.length && isB x2 x2.length)
  · obtain ⟨e1, e2, e3⟩ := rp_bad (i := x1) hb
    rw [e3] at CN
    rw [e1, e2]
    have C := Lib.hid CN
    clear hb e1 e2 e3 CN
    go_enter Try.func42, Try.ntmps42
    go_wp2_with fail
    refine C.out.mono ?_
    rintro e w1 ⟨rfl, hb1⟩
    go_wp2
    go_ret2
    exact ⟨_, rfl, ownN_nil _ _, hb1⟩
  · cases hr : rngB x0 x1
    · obtain ⟨e1, e2, e3⟩ := rp_out hb hr
      rw [e3] at CN
      rw [e1, e2]
      have C := Lib.hid CN
      clear hb e1 e2 e3 CN hr
      go_enter Try.func42, Try.ntmps42
      go_wp2_with fail
      refine C.out.mono ?_
      rintro e w1 ⟨rfl, hb1⟩
      go_wp2
      go_ret2
      exact ⟨_, rfl, ownN_nil _ _, hb1⟩
    · have hbb : isB x0 x0.length = true ∧ isB x2 x2.length = true := by simpa using hb
      have hl40 := (is_pos' hbb.1)
      have hl40' := (is_pos' hbb.2)
      obtain ⟨k, rfl, hk, e1, e2, e3⟩ := rp_good hb hr
      rw [e3] at CN
      rw [e1, e2]
      have C := Lib.hid CN
      obtain ⟨t, ht, ht1, ht2⟩ := part_at hbb.1 hk
      have T := Lib.hid ht
      have PL := Lib.hid (show catTo [x0.take k, x2, x0.drop t] 3 = putL x0 k x2 by rw [putL, ht, Int.toNat_natCast]; simp [catTo, nthL])
      have SZ := Lib.hid (show 0 < szTo [x0.take k, x2, x0.drop t] 3 ∧ szTo [x0.take k, x2, x0.drop t] 3 ≤ 4194304 by simp [szTo, nthL]; omega)
      have LP := Lib.hid (show (putL x0 k x2).length ≤ 8388608 by have := putL_len x0 x2 k; omega)
      obtain ⟨b, off, rfl⟩ := H.out.ex hl40.1
      obtain ⟨b', off', rfl⟩ := H'.out.ex hl40'.1
      have S1 := Lib.hid (show AtN w (some ⟨b, off, none⟩) k (x0.take k) by have := H.out.sub 0 k (by omega); simpa using this)
      clear hb e1 e2 e3 hbb hr ht CN
      by_cases hce : cap = t
      · have S3 := Lib.hid (show AtN w (some ⟨b, off, none⟩) 0 (x0.drop t) from ⟨by simp; omega, .inl rfl⟩)
        subst hce
        go_enter Try.func42, Try.ntmps42
        go_wp2_with fail
        refine C.out.mono ?_
        rintro e w1 ⟨rfl, hb1⟩
        have B1 := Lib.hid hb1
        have B2 := Lib.hid (hb1.drew)
        clear hb1
        go_wp2
        go_region_with (first | (go_at_call 89; refine (partEnd_any x0 _ _ _ k _ _ hl (by omega) (H.out.keep B2.out (Nat.le_refl _)) T.out (by omega)).mono ?_; rintro e w' ⟨rfl, rfl⟩) | (go_at_call 91; refine (concat0_any [x0.take k, x2, x0.drop cap] _ 3 3 _ (by omega) SZ.out.2 SZ.out.1 (lay3 (S1.out.keep B2.out (Nat.le_refl _)) (H'.out.keep B2.out (Nat.le_refl _)) (S3.out.keep B2.out (Nat.le_refl _)) _ rfl)).mono ?_; rw [PL.out]; rintro e w3 ⟨v3, rfl, ho3, hb3⟩) | (go_at_call 60; refine (withinLimit_any (putL x0 k x2) _ _ _ LP.out ho3).mono ?_; rintro e w4 ⟨v4, rfl, ho4, rfl⟩))
        all_goals
          have bs := B1.out.size
          go_wp2
          go_ret2
          exact ⟨_, rfl, ho4.mono (by simp; omega), (B2.out.alloc B2.out.size _).trans (hb3.mono (by simp; omega))⟩
      · have S3 := Lib.hid (H.out.tail ht2)
        go_enter Try.func42, Try.ntmps42
        go_wp2_with fail
        refine C.out.mono ?_
        rintro e w1 ⟨rfl, hb1⟩
        have B1 := Lib.hid hb1
        have B2 := Lib.hid (hb1.drew)
        clear hb1
        go_wp2
        go_region_with (first | (go_at_call 89; refine (partEnd_any x0 _ _ _ k _ _ hl (by omega) (H.out.keep B2.out (Nat.le_refl _)) T.out (by omega)).mono ?_; rintro e w' ⟨rfl, rfl⟩) | (go_at_call 91; refine (concat0_any [x0.take k, x2, x0.drop t] _ 3 3 _ (by omega) SZ.out.2 SZ.out.1 (lay3 (S1.out.keep B2.out (Nat.le_refl _)) (H'.out.keep B2.out (Nat.le_refl _)) (S3.out.keep B2.out (Nat.le_refl _)) _ rfl)).mono ?_; rw [PL.out]; rintro e w3 ⟨v3, rfl, ho3, hb3⟩) | (go_at_call 60; refine (withinLimit_any (putL x0 k x2) _ _ _ LP.out ho3).mono ?_; rintro e w4 ⟨v4, rfl, ho4, rfl⟩))
        all_goals
          have bs := B1.out.size
          go_wp2
          go_ret2
          exact ⟨_, rfl, ho4.mono (by simp; omega), (B2.out.alloc B2.out.size _).trans (hb3.mono (by simp; omega))⟩

end Go.Proofs.Ytbhgedabcclimaa
