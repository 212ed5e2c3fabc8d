/- Contracts of SubstituteFormula and ReplaceVariable of the model and of the program, told by values. Conditions: those in the theorems. -/
import Derived.Test.YtbhgedabcclimaaSubV
namespace Go.Proofs.Ytbhgedabcclimaa
open Go.RowKit

def suL (xs : List Nd) (xss : List (List Nd)) : List Nd := subTo (sgI xss) xs xs.length
def suR (xs : List Nd) (xss : List (List Nd)) : List Nd := if isB xs xs.length && isS xss then lim (suL xs xss) else []
def suC (xs : List Nd) (xss : List (List Nd)) : Int := if isB xs xs.length && isS xss then limC (suL xs xss) else 1
theorem SubstituteFormula_len (xs : List Nd) (xss : List (List Nd)) : (suR xs xss).length ≤ 1048576 := by
  rw [suR]
  split
  · have := lim_len (suL xs xss); omega
  · simp
theorem su_bad {xs : List Nd} {xss : List (List Nd)} (h : (isB xs xs.length && isS xss) = false) : suR xs xss = [] ∧ suC xs xss = 1 := by simp only [suR, suC, h]; exact ⟨rfl, rfl⟩
theorem su_good {xs : List Nd} {xss : List (List Nd)} (h : (isB xs xs.length && isS xss) = true) : suR xs xss = lim (suL xs xss) ∧ suC xs xss = limC (suL xs xss) := by simp only [suR, suC, h]; exact ⟨rfl, rfl⟩
theorem is_treeTo {xs : List Nd} (h : isB xs xs.length = true) : treeTo xs xs.length = true := by
  simp only [isB, treeB, Bool.and_eq_true] at h
  exact h.2.1.1
theorem su_len {xs : List Nd} {xss : List (List Nd)} (h : isB xs xs.length = true) (h6 : six xss) : (suL xs xss).length ≤ 1600 := by
  have h40 := (is_pos' h).2
  have := subTo_len (s := sgI xss) (m := 40) (by omega) (is_treeTo h) (fun q hq => by rw [sgI, Int.toNat_natCast]; exact (h6.2 q hq).2) xs.length (Nat.le_refl _)
  rw [suL]
  omega

set_option maxHeartbeats 2000000 in
theorem specSubstituteFormula_g (x0 : List Nd) (x1 : List (List Nd)) (a : Option Addr) (cap : Nat) (a' : Option Addr) (cap' : Nat) (w : World) (hl : x0.length ≤ 1048576) (hl' : x1.length ≤ 1048576 ∧ szTo x1 x1.length ≤ 1048576) (hat : AtN w a x0.length x0) (hat' : AtNN w a' x1.length x1) :
    Calls Try.prog 17 #[.slice a x0.length cap, .slice a' x1.length cap'] w fun e w' => ∃ v', e = .returned (.tuple #[v', .int .i64 (suC x0 x1)]) ∧ OwnN w' w.heap.size v' (suR x0 x1) ∧ Below w.heap.size w w' := by
  have H := Lib.hid hat
  have H' := Lib.hid hat'
  have LI := Lib.hid (sz_all hl'.2)
  have hl1 := hl'.1
  clear hat hat' hl'
  cases hb : (isB x0 x0.length && isS x1)
  · obtain ⟨e1, e2⟩ := su_bad hb
    rw [e1, e2]
    cases hb0 : isB x0 x0.length
    · have HB := Lib.hid hb0
      clear hb e1 e2 hb0
      go_enter Try.func17, Try.ntmps17
      go_wp2_with (go_at_call 53; refine (l02Is_any _ _ _ _ _ hl H.out).mono ?_; rw [HB.out]; rintro e w' ⟨rfl, rfl⟩)
      go_ret2
      exact ⟨_, rfl, ownN_nil _ _, Below.refl _ _⟩
    · have HB := Lib.hid hb0
      have HB' := Lib.hid (show isS x1 = false by rw [hb0] at hb; simpa using hb)
      clear hb e1 e2 hb0
      go_enter Try.func17, Try.ntmps17
      go_wp2_with fail
      refine (l02Is_any _ _ _ _ _ hl H.out).mono ?_
      rw [HB.out]
      rintro e w' ⟨rfl, rfl⟩
      go_wp2_with fail
      refine (l03Is_any _ _ _ _ _ hl1 LI.out H'.out).mono ?_
      rw [HB'.out]
      rintro e w' ⟨rfl, rfl⟩
      go_wp2
      go_ret2
      exact ⟨_, rfl, ownN_nil _ _, Below.refl _ _⟩
  · obtain ⟨e1, e2⟩ := su_good hb
    rw [e1, e2]
    have hbb : isB x0 x0.length = true ∧ isS x1 = true := by simpa using hb
    have HB := Lib.hid hbb.1
    have HB' := Lib.hid hbb.2
    have h6 := isS_six hbb.2
    have I := Lib.hid (show Img w a' x1 from ⟨by rw [← h6.1]; exact H'.out, h6.2⟩)
    have hl40 := (is_pos' hbb.1).2
    have LL := Lib.hid (show (suL x0 x1).length ≤ 8388608 by have := su_len hbb.1 h6; omega)
    have L6 := Lib.hid h6.1
    clear hb e1 e2 hbb h6
    go_enter Try.func17, Try.ntmps17
    go_wp2_with fail
    refine (l02Is_any _ _ _ _ _ hl H.out).mono ?_
    rw [HB.out]
    rintro e w' ⟨rfl, rfl⟩
    go_wp2_with fail
    refine (l03Is_any _ _ _ _ _ hl1 LI.out H'.out).mono ?_
    rw [HB'.out]
    rintro e w' ⟨rfl, rfl⟩
    go_wp2_with fail
    rw [L6.out]
    refine (l03Sub_any x0 x1 _ _ _ _ _ _ hl40 (is_treeTo HB.out) H.out I.out).mono ?_
    rintro e w1 ⟨v1, rfl, ho1, hb1⟩
    have B1 := Lib.hid hb1
    have O1 : Hid (OwnN w1 w.heap.size v1 (suL x0 x1)) := ho1
    clear ho1 hb1
    go_wp2_with fail
    refine (l02Made_any (suL x0 x1) v1 w.heap.size _ LL.out O1.out).mono ?_
    rintro e w2 ⟨v2, rfl, ho2, rfl⟩
    have O2 := Lib.hid ho2
    clear ho2
    go_wp2
    go_ret2
    exact ⟨_, rfl, O2.out, B1.out⟩
theorem specSubstituteFormula_v (x0 : List Nd) (x1 : List (List Nd)) (v : Value) (lo hi : Nat) (u : Value) (lo' hi' : Nat) (w : World) (hl : x0.length ≤ 1048576) (hl' : x1.length ≤ 1048576 ∧ szTo x1 x1.length ≤ 1048576) (h : InN w lo hi v x0) (h' : InNN w lo' hi' u x1) :
    Calls Try.prog 17 #[v, u] w fun e w' => ∃ v', e = .returned (.tuple #[v', .int .i64 (suC x0 x1)]) ∧ OwnN w' w.heap.size v' (suR x0 x1) ∧ Below w.heap.size w w' := by
  obtain ⟨a, cap, rfl, hat⟩ := h.at
  obtain ⟨a', cap', rfl, hat'⟩ := h'.at
  exact specSubstituteFormula_g x0 x1 a cap a' cap' w hl hl' hat hat'

set_option maxHeartbeats 2000000 in
theorem implSubstituteFormula_g (x0 : List Nd) (x1 : List (List Nd)) (a : Option Addr) (cap : Nat) (a' : Option Addr) (cap' : Nat) (w : World) (hl : x0.length ≤ 1048576) (hl' : x1.length ≤ 1048576 ∧ szTo x1 x1.length ≤ 1048576) (hat : AtN w a x0.length x0) (hat' : AtNN w a' x1.length x1) :
    Calls Try.prog 20 #[.slice a x0.length cap, .slice a' x1.length cap'] w fun e w' => ∃ v', e = .returned (.tuple #[v', .int .i64 (suC x0 x1)]) ∧ OwnN w' w.heap.size v' (suR x0 x1) ∧ Below w.heap.size w w' := by
  have H := Lib.hid hat
  have H' := Lib.hid hat'
  have LI := Lib.hid (sz_all hl'.2)
  have hl1 := hl'.1
  clear hat hat' hl'
  cases hb : (isB x0 x0.length && isS x1)
  · obtain ⟨e1, e2⟩ := su_bad hb
    rw [e1, e2]
    cases hb0 : isB x0 x0.length
    · have HB := Lib.hid hb0
      clear hb e1 e2 hb0
      go_enter Try.func20, Try.ntmps20
      go_wp2_with fail
      refine (implIsF_any _ _ _ _ _ hl H.out).mono ?_
      rw [HB.out]
      rintro e w1 ⟨rfl, hb1⟩
      go_wp2
      go_ret2
      exact ⟨_, rfl, ownN_nil _ _, hb1⟩
    · have HB := Lib.hid hb0
      have HB' := Lib.hid (show isS x1 = false by rw [hb0] at hb; simpa using hb)
      clear hb e1 e2 hb0
      go_enter Try.func20, Try.ntmps20
      go_wp2_with fail
      refine (implIsF_any _ _ _ _ _ hl H.out).mono ?_
      rw [HB.out]
      rintro e w1 ⟨rfl, hb1⟩
      have B1 := Lib.hid hb1
      clear hb1
      go_wp2_with fail
      refine (isSub_any _ _ _ _ _ hl1 LI.out (H'.out.keep B1.out (Nat.le_refl _))).mono ?_
      rw [HB'.out]
      rintro e w2 ⟨rfl, hb2⟩
      have B2 := Lib.hid (B1.out.trans (hb2.mono B1.out.size))
      clear hb2
      go_wp2
      go_ret2
      exact ⟨_, rfl, ownN_nil _ _, B2.out⟩
  · obtain ⟨e1, e2⟩ := su_good hb
    rw [e1, e2]
    have hbb : isB x0 x0.length = true ∧ isS x1 = true := by simpa using hb
    have HB := Lib.hid hbb.1
    have HB' := Lib.hid hbb.2
    have h6 := isS_six hbb.2
    have I := Lib.hid (show Img w a' x1 from ⟨by rw [← h6.1]; exact H'.out, h6.2⟩)
    have hl40 := (is_pos' hbb.1).2
    have LL := Lib.hid (show (suL x0 x1).length ≤ 8388608 by have := su_len hbb.1 h6; omega)
    have L6 := Lib.hid h6.1
    have S6 := Lib.hid (show ∀ q : Nat, q ≤ 5 → 0 < (sgI x1 q).length ∧ (sgI x1 q).length ≤ 40 from fun q hq => by rw [sgI, Int.toNat_natCast]; exact h6.2 q hq)
    clear hb e1 e2 hbb h6
    go_enter Try.func20, Try.ntmps20
    go_wp2_with fail
    refine (implIsF_any _ _ _ _ _ hl H.out).mono ?_
    rw [HB.out]
    rintro e w1 ⟨rfl, hb1⟩
    have B1 := Lib.hid hb1
    clear hb1
    go_wp2_with fail
    refine (isSub_any _ _ _ _ _ hl1 LI.out (H'.out.keep B1.out (Nat.le_refl _))).mono ?_
    rw [HB'.out]
    rintro e w2 ⟨rfl, hb2⟩
    have B2 := Lib.hid (B1.out.trans (hb2.mono B1.out.size))
    clear hb2
    go_wp2_with fail
    rw [L6.out]
    refine (subOf_any _ _ _).mono ?_
    rintro e w3 ⟨rfl, hc3, hlt3, hb3⟩
    have B3 := Lib.hid (B2.out.trans (hb3.mono B2.out.size))
    have C3 := Lib.hid (subOf_img hc3 hlt3 ((I.out.keep B3.out (Nat.le_refl _))))
    clear hc3 hlt3 hb3
    go_wp2_with fail
    refine (imageS_any _ (sgI x1) x0 _ _ _ _ hl40 (is_treeTo HB.out) (H.out.keep B3.out (Nat.le_refl _)) C3.out S6.out).mono ?_
    rintro e w4 ⟨v4, rfl, ho4, hb4⟩
    have B4 := Lib.hid (B3.out.trans (hb4.mono B3.out.size))
    have O4 : Hid (OwnN w4 w.heap.size v4 (suL x0 x1)) := ho4.mono B3.out.size
    clear ho4 hb4
    go_wp2_with fail
    refine (withinLimit_any (suL x0 x1) v4 w.heap.size _ LL.out O4.out).mono ?_
    rintro e w5 ⟨v5, rfl, ho5, rfl⟩
    have O5 := Lib.hid ho5
    clear ho5
    go_wp2
    go_ret2
    exact ⟨_, rfl, O5.out, B4.out⟩
theorem implSubstituteFormula_v (x0 : List Nd) (x1 : List (List Nd)) (v : Value) (lo hi : Nat) (u : Value) (lo' hi' : Nat) (w : World) (hl : x0.length ≤ 1048576) (hl' : x1.length ≤ 1048576 ∧ szTo x1 x1.length ≤ 1048576) (h : InN w lo hi v x0) (h' : InNN w lo' hi' u x1) :
    Calls Try.prog 20 #[v, u] w fun e w' => ∃ v', e = .returned (.tuple #[v', .int .i64 (suC x0 x1)]) ∧ OwnN w' w.heap.size v' (suR x0 x1) ∧ Below w.heap.size w w' := by
  obtain ⟨a, cap, rfl, hat⟩ := h.at
  obtain ⟨a', cap', rfl, hat'⟩ := h'.at
  exact implSubstituteFormula_g x0 x1 a cap a' cap' w hl hl' hat hat'

def rvL (xs : List Nd) (v : Int) (bs : List Nd) : List Nd := subTo (sgB v bs) xs xs.length
def rvB (v : Int) : Bool := decide (0 ≤ v) && decide (v < 6)
def rvR (xs : List Nd) (v : Int) (bs : List Nd) : List Nd := if isB xs xs.length && isB bs bs.length then (if rvB v then lim (rvL xs v bs) else []) else []
def rvC (xs : List Nd) (v : Int) (bs : List Nd) : Int := if isB xs xs.length && isB bs bs.length then (if rvB v then limC (rvL xs v bs) else 2) else 1
theorem ReplaceVariable_len (xs : List Nd) (v : Int) (bs : List Nd) : (rvR xs v bs).length ≤ 1048576 := by
  rw [rvR]
  split
  · split
    · have := lim_len (rvL xs v bs); omega
    · simp
  · simp
theorem rv_bad {xs bs : List Nd} {v : Int} (h : (isB xs xs.length && isB bs bs.length) = false) : rvR xs v bs = [] ∧ rvC xs v bs = 1 ∧ cvI (isB xs xs.length && isB bs bs.length) 6 v = 1 := by simp only [rvR, rvC, cvI, h]; exact ⟨rfl, rfl, rfl⟩
theorem rv_out {xs bs : List Nd} {v : Int} (h : (isB xs xs.length && isB bs bs.length) = true) (h2 : rvB v = false) : rvR xs v bs = [] ∧ rvC xs v bs = 2 ∧ cvI (isB xs xs.length && isB bs bs.length) 6 v = 2 := by
  have h3 := h2
  unfold rvB at h3
  simp only [rvR, rvC, cvI, h, h2, h3]; exact ⟨rfl, rfl, rfl⟩
theorem rv_good {xs bs : List Nd} {v : Int} (h : (isB xs xs.length && isB bs bs.length) = true) (h2 : rvB v = true) : ∃ q : Nat, v = q ∧ q ≤ 5 ∧ rvR xs v bs = lim (rvL xs q bs) ∧ rvC xs v bs = limC (rvL xs q bs) ∧ cvI (isB xs xs.length && isB bs bs.length) 6 v = 0 := by
  have h4 := h2
  unfold rvB at h4
  have h3 : 0 ≤ v ∧ v < 6 := by simpa using h4
  obtain ⟨q, rfl⟩ := Int.eq_ofNat_of_zero_le h3.1
  refine ⟨q, rfl, by omega, ?_, ?_, ?_⟩
  · simp only [rvR, h, h2]; rfl
  · simp only [rvC, h, h2]; rfl
  · simp only [cvI, h, h4]; rfl
theorem sgB_six {v : Int} {bs : List Nd} (h : isB bs bs.length = true) : ∀ q : Nat, q ≤ 5 → 0 < (sgB v bs q).length ∧ (sgB v bs q).length ≤ 40 := by
  intro q _
  rw [sgB]
  split
  · exact is_pos' h
  · simp
theorem rv_len {xs bs : List Nd} {v : Int} (h : isB xs xs.length = true) (hb : isB bs bs.length = true) : (rvL xs v bs).length ≤ 1600 := by
  have h40 := (is_pos' h).2
  have := subTo_len (s := sgB v bs) (m := 40) (by omega) (is_treeTo h) (fun q hq => (sgB_six hb q hq).2) xs.length (Nat.le_refl _)
  rw [rvL]
  omega

set_option maxHeartbeats 2000000 in
theorem specReplaceVariable_v (x0 : List Nd) (x1 : Int) (x2 : List Nd) (v : Value) (lo hi : Nat) (u : Value) (lo' hi' : Nat) (w : World) (hl : x0.length ≤ 1048576) (hl' : x2.length ≤ 1048576) (h : InN w lo hi v x0) (h' : InN w lo' hi' u x2) :
    Calls Try.prog 26 #[v, .int .i64 x1, u] w fun e w' => ∃ v', e = .returned (.tuple #[v', .int .i64 (rvC x0 x1 x2)]) ∧ OwnN w' w.heap.size v' (rvR x0 x1 x2) ∧ Below w.heap.size w w' := by
  obtain ⟨a, cap, rfl, hat⟩ := h.at
  obtain ⟨a', cap', rfl, hat'⟩ := h'.at
  have H := Lib.hid hat
  have H' := Lib.hid hat'
  clear h h' hat hat'
  cases hb : (isB x0 x0.length && isB x2 x2.length)
  · obtain ⟨e1, e2, -⟩ := rv_bad (v := x1) hb
    rw [e1, e2]
    cases hb0 : isB x0 x0.length
    · have HB := Lib.hid hb0
      clear hb e1 e2 hb0
      go_enter Try.func26, Try.ntmps26
      go_wp2_with (go_at_call 53; refine (l02Is_any _ _ _ _ _ hl H.out).mono ?_; rw [HB.out]; rintro e w' ⟨rfl, rfl⟩)
      go_ret2
      exact ⟨_, rfl, ownN_nil _ _, Below.refl _ _⟩
    · have HB := Lib.hid hb0
      have HB' := Lib.hid (show isB x2 x2.length = false by rw [hb0] at hb; simpa using hb)
      clear hb e1 e2 hb0
      go_enter Try.func26, Try.ntmps26
      go_wp2_with fail
      refine (l02Is_any _ _ _ _ _ hl H.out).mono ?_
      rw [HB.out]
      rintro e w' ⟨rfl, rfl⟩
      go_wp2_with fail
      refine (l02Is_any _ _ _ _ _ hl' H'.out).mono ?_
      rw [HB'.out]
      rintro e w' ⟨rfl, rfl⟩
      go_wp2
      go_ret2
      exact ⟨_, rfl, ownN_nil _ _, Below.refl _ _⟩
  · have hbb : isB x0 x0.length = true ∧ isB x2 x2.length = true := by simpa using hb
    have HB := Lib.hid hbb.1
    have HB' := Lib.hid hbb.2
    have hl40 := (is_pos' hbb.1)
    have hl40' := (is_pos' hbb.2)
    cases hr : rvB x1
    · obtain ⟨e1, e2, -⟩ := rv_out hb hr
      rw [e1, e2]
      have HC := Lib.hid (show inB x1 0 5 = false by unfold rvB at hr; simp [inB] at hr ⊢; omega)
      clear hb e1 e2 hbb hr
      go_enter Try.func26, Try.ntmps26
      go_wp2_with fail
      refine (l02Is_any _ _ _ _ _ hl H.out).mono ?_
      rw [HB.out]
      rintro e w' ⟨rfl, rfl⟩
      go_wp2_with fail
      refine (l02Is_any _ _ _ _ _ hl' H'.out).mono ?_
      rw [HB'.out]
      rintro e w' ⟨rfl, rfl⟩
      go_wp2_with fail
      refine (l01In_any _ _ _ _).mono ?_
      rw [HC.out]
      rintro e w' ⟨rfl, rfl⟩
      go_wp2
      go_ret2
      exact ⟨_, rfl, ownN_nil _ _, Below.refl _ _⟩
    · obtain ⟨q, rfl, hq, e1, e2, -⟩ := rv_good hb hr
      rw [e1, e2]
      have HC := Lib.hid (show inB (q : Int) 0 5 = true by simp [inB]; omega)
      have LP := Lib.hid (show (rvL x0 q x2).length ≤ 8388608 by have := rv_len (v := q) hbb.1 hbb.2; omega)
      have E := Lib.hid (bind_sub (xs := x0) (bs := x2) (is_treeTo hbb.1) hq)
      have S6 := Lib.hid (six_set (bs := x2) six_self hl40'.1 hl40'.2 hq)
      obtain ⟨b', off', rfl⟩ := H'.out.ex hl40'.1
      have h40 := hl40.2
      clear hb e1 e2 hbb hr
      go_enter Try.func26, Try.ntmps26
      go_wp2_with fail
      refine (l02Is_any _ _ _ _ _ hl H.out).mono ?_
      rw [HB.out]
      rintro e w' ⟨rfl, rfl⟩
      go_wp2_with fail
      refine (l02Is_any _ _ _ _ _ hl' H'.out).mono ?_
      rw [HB'.out]
      rintro e w' ⟨rfl, rfl⟩
      go_wp2_with fail
      refine (l01In_any _ _ _ _).mono ?_
      rw [HC.out]
      rintro e w' ⟨rfl, rfl⟩
      go_wp2_with fail
      refine (l03Bind_any x2 q _ _ _ _ _ hq hl40'.1 hl40'.2 H'.out).mono ?_
      rintro e w1 ⟨v1, rfl, ho1, hb1⟩
      obtain ⟨g, c, rfl, hi1⟩ := ho1.img S6.out
      have I1 := Lib.hid hi1
      have B1 := Lib.hid hb1
      clear ho1 hb1 hi1
      go_wp2_with fail
      refine (l03Sub_any x0 _ _ _ _ _ _ _ h40 (is_treeTo HB.out) (H.out.keep B1.out (Nat.le_refl _)) I1.out).mono ?_
      rw [E.out]
      rintro e w2 ⟨v2, rfl, ho2, hb2⟩
      have B2 := Lib.hid (B1.out.trans (hb2.mono B1.out.size))
      have O2 : Hid (OwnN w2 w.heap.size v2 (rvL x0 q x2)) := ho2.mono B1.out.size
      clear ho2 hb2
      go_wp2_with fail
      refine (l02Made_any (rvL x0 q x2) v2 w.heap.size _ LP.out O2.out).mono ?_
      rintro e w3 ⟨v3, rfl, ho3, rfl⟩
      have O3 := Lib.hid ho3
      clear ho3
      go_wp2
      go_ret2
      exact ⟨_, rfl, O3.out, B2.out⟩

set_option maxHeartbeats 2000000 in
theorem implReplaceVariable_v (x0 : List Nd) (x1 : Int) (x2 : List Nd) (v : Value) (lo hi : Nat) (u : Value) (lo' hi' : Nat) (w : World) (hl : x0.length ≤ 1048576) (hl' : x2.length ≤ 1048576) (h : InN w lo hi v x0) (h' : InN w lo' hi' u x2) :
    Calls Try.prog 27 #[v, .int .i64 x1, u] w fun e w' => ∃ v', e = .returned (.tuple #[v', .int .i64 (rvC x0 x1 x2)]) ∧ OwnN w' w.heap.size v' (rvR x0 x1 x2) ∧ Below w.heap.size w w' := by
  obtain ⟨a, cap, rfl, hat⟩ := h.at
  obtain ⟨a', cap', rfl, hat'⟩ := h'.at
  have H := Lib.hid hat
  have H' := Lib.hid hat'
  clear h h' hat hat'
  have CN := cv2_any x1 x0 x2 a a' x0.length cap x2.length cap' w.heap.size w hl hl' H.out H'.out 26 rfl
  cases hb : (isB x0 x0.length && isB x2 x2.length)
  · obtain ⟨e1, e2, e3⟩ := rv_bad (v := x1) hb
    rw [e3] at CN
    rw [e1, e2]
    have C := Lib.hid CN
    clear hb e1 e2 e3 CN
    go_enter Try.func27, Try.ntmps27
    go_wp2_with fail
    refine C.out.mono ?_
    rintro e w1 ⟨rfl, hb1⟩
    go_wp2
    go_ret2
    exact ⟨_, rfl, ownN_nil _ _, hb1⟩
  · cases hr : rvB x1
    · obtain ⟨e1, e2, e3⟩ := rv_out hb hr
      rw [e3] at CN
      rw [e1, e2]
      have C := Lib.hid CN
      clear hb e1 e2 e3 CN hr
      go_enter Try.func27, Try.ntmps27
      go_wp2_with fail
      refine C.out.mono ?_
      rintro e w1 ⟨rfl, hb1⟩
      go_wp2
      go_ret2
      exact ⟨_, rfl, ownN_nil _ _, hb1⟩
    · have hbb : isB x0 x0.length = true ∧ isB x2 x2.length = true := by simpa using hb
      have HB := Lib.hid hbb.1
      have h40 := (is_pos' hbb.1).2
      obtain ⟨q, rfl, hq, e1, e2, e3⟩ := rv_good hb hr
      rw [e3] at CN
      rw [e1, e2]
      have C := Lib.hid CN
      have LP := Lib.hid (show (rvL x0 q x2).length ≤ 8388608 by have := rv_len (v := q) hbb.1 hbb.2; omega)
      have S6 := Lib.hid (sgB_six (v := q) hbb.2)
      clear hb e1 e2 e3 hbb hr CN
      go_enter Try.func27, Try.ntmps27
      go_wp2_with fail
      refine C.out.mono ?_
      rintro e w1 ⟨rfl, hb1⟩
      have B1 := Lib.hid hb1
      clear hb1
      go_wp2_with fail
      refine (binding_any _ _ _ _ _).mono ?_
      rintro e w2 ⟨R, R', rfl, hc1, hc2, hr1, hr2, hb2⟩
      have B2 := Lib.hid (B1.out.trans (hb2.mono B1.out.size))
      have C2 := Lib.hid (bind_img hc1 hc2 hr1 hr2 (H'.out.keep B2.out (Nat.le_refl _)))
      clear hc1 hc2 hr1 hr2 hb2
      go_wp2_with fail
      refine (imageB_any _ _ (sgB q x2) x0 _ _ _ _ h40 (is_treeTo HB.out) (H.out.keep B2.out (Nat.le_refl _)) C2.out S6.out).mono ?_
      rintro e w3 ⟨v3, rfl, ho3, hb3⟩
      have B3 := Lib.hid (B2.out.trans (hb3.mono B2.out.size))
      have O3 : Hid (OwnN w3 w.heap.size v3 (rvL x0 q x2)) := ho3.mono B2.out.size
      clear ho3 hb3
      go_wp2_with fail
      refine (withinLimit_any (rvL x0 q x2) v3 w.heap.size _ LP.out O3.out).mono ?_
      rintro e w4 ⟨v4, rfl, ho4, rfl⟩
      have O4 := Lib.hid ho4
      clear ho4
      go_wp2
      go_ret2
      exact ⟨_, rfl, O4.out, B3.out⟩

end Go.Proofs.Ytbhgedabcclimaa
