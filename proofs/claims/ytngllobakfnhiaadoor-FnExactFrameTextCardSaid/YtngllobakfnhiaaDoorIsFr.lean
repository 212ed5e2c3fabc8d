/- Contracts of what asks whether a frame is one, of the errors of a frame and a set of its worlds, and the walk of IsFrame's law. Conditions: those in the theorems. -/
import Derived.Test.YtngllobakfnhiaaDoorFr
import Derived.Test.YtngllobakfnhiaaDoorRm
namespace Go.Proofs.YtngllobakfnhiaaDoor
open Go.RowKit

def frB (n : Int) (xs : List Int) : Bool := inB n 0 8 && decide ((xs.length : Int) = n) && mksTo n xs xs.length
theorem frB_no1 {n : Int} {xs : List Int} (h : inB n 0 8 = false) : frB n xs = false := by rw [frB, h]; rfl
theorem frB_no2 {n : Int} {xs : List Int} (h : ¬ (xs.length : Int) = n) : frB n xs = false := by rw [frB, decide_eq_false h, Bool.and_false]; rfl
theorem frB_eq {n : Int} {xs : List Int} {b : Bool} (h1 : inB n 0 8 = true) (h2 : (xs.length : Int) = n) (h3 : mksTo n xs xs.length = b) : frB n xs = b := by rw [frB, h1, decide_eq_true h2, h3]; rfl
theorem frB_ok {n : Int} {xs : List Int} (h : frB n xs = true) : n = xs.length ∧ xs.length ≤ 8 ∧ mksTo xs.length xs xs.length = true ∧ Rel xs.length (nth xs) := by
  unfold frB at h
  rw [Bool.and_eq_true, Bool.and_eq_true, decide_eq_true_eq] at h
  obtain ⟨⟨h1, h2⟩, h3⟩ := h
  have hb : 0 ≤ n ∧ n ≤ 8 := by simpa [inB] using h1
  subst h2
  have hl : xs.length ≤ 8 := by omega
  refine ⟨rfl, hl, h3, fun i => ?_⟩
  by_cases hi : i < xs.length
  · exact (mksTo_iff (by omega) xs xs.length).1 h3 i hi
  · rw [nth_high (by omega)]; exact InMk.zero _

theorem boxF {w : World} (n : Int) (a : Option Addr) (len cap : Nat) : Below w.heap.size w (w.alloc (.cells #[.int .i64 n, .slice a len cap] 28)) := (Below.refl _ _).alloc (Nat.le_refl _) _

set_option maxHeartbeats 400000 in
theorem l05Is_any (n : Int) (xs : List Int) (a : Option Addr) (len cap : Nat) (w : World) (hl : len ≤ 1048576) (h : At w a len xs) :
    Calls Tryd.prog 10 #[.agg #[.int .i64 n, .slice a len cap]] w fun e w' => e = .returned (.bool (frB n xs)) ∧ Below w.heap.size w w' := by
  have HB := Lib.hid (boxF (w := w) n a len cap)
  have H := Lib.hid (h.keep HB.out (Nat.le_refl _))
  obtain rfl := h.1
  clear h
  cases h1 : inB n 0 8
  · have F := Lib.hid (frB_no1 (xs := xs) h1)
    go_enter Tryd.func10, Tryd.ntmps10
    go_wp2_with (go_at_call 16; refine (l01In_any _ _ _ _).mono ?_; rintro e w' ⟨rfl, rfl⟩)
    go_ret
    exact ⟨ret_bool F.out.symm, HB.out⟩
  · by_cases h2 : (xs.length : Int) = n
    · have hb : 0 ≤ n ∧ n ≤ 8 := by simpa [inB] using h1
      cases h3 : mksTo n xs xs.length
      all_goals
        have F := Lib.hid (frB_eq h1 h2 h3)
        have F1 := Lib.hid h3
        subst h2
        clear h3
        go_enter Tryd.func10, Tryd.ntmps10
        go_wp2_with (first | (go_at_call 16; refine (l01In_any _ _ _ _).mono ?_; rintro e w' ⟨rfl, rfl⟩) | (go_at_call 17; refine (l01Masks_any _ xs _ _ _ _ (by omega) (by omega) hl H.out).mono ?_; rw [F1.out]; rintro e w' ⟨rfl, q, rfl⟩))
        go_ret
        exact ⟨ret_bool F.out.symm, below_drewN HB.out q⟩
    · have F := Lib.hid (frB_no2 h2)
      have h4 : ((xs.length : Int) == n) = false := by simpa using h2
      have h5 : ((xs.length : Int) != n) = true := by simpa using h2
      clear h2
      go_enter Tryd.func10, Tryd.ntmps10
      go_wp2_with (go_at_call 16; refine (l01In_any _ _ _ _).mono ?_; rintro e w' ⟨rfl, rfl⟩)
      go_ret
      exact ⟨ret_bool F.out.symm, HB.out⟩

set_option maxHeartbeats 400000 in
theorem frRel_any (n : Int) (a : Option Addr) (len cap : Nat) (w : World) :
    Calls Tryd.prog 20 #[.agg #[.int .i64 n, .slice a len cap]] w fun e w' => e = .returned (.slice a len cap) ∧ Below w.heap.size w w' := by
  have HB := Lib.hid (boxF (w := w) n a len cap)
  go_enter Tryd.func20, Tryd.ntmps20
  go_wp2
  go_ret
  exact ⟨rfl, HB.out⟩

theorem chk_of {xs : List Int} {b : Bool} (h : xs.length ≤ 8) (h3 : mksTo xs.length xs xs.length = b) : chkI xs xs.length = if b then 0 else 1 := by
  cases b
  · exact chkI_bad (by omega) h3
  · exact chkI_ok (by omega) h3

set_option maxHeartbeats 400000 in
theorem implIsFrame_any (n : Int) (xs : List Int) (a : Option Addr) (len cap : Nat) (w : World) (hl : len ≤ 1048576) (h : At w a len xs) :
    Calls Tryd.prog 13 #[.agg #[.int .i64 n, .slice a len cap]] w fun e w' => e = .returned (.bool (frB n xs)) ∧ Below w.heap.size w w' := by
  have HB := Lib.hid (boxF (w := w) n a len cap)
  have H := Lib.hid (h.keep HB.out (Nat.le_refl _))
  obtain rfl := h.1
  clear h
  by_cases h1 : 0 ≤ n ∧ n ≤ 8
  · have h1' : inB n 0 8 = true := by simpa [inB] using h1
    obtain ⟨h1a, h1b⟩ := h1
    by_cases h2 : (xs.length : Int) = n
    · cases h3 : mksTo n xs xs.length
      all_goals
        have F := Lib.hid (frB_eq h1' h2 h3)
        subst h2
        have F1 := Lib.hid (chk_of (by omega) h3)
        clear h3 h1'
        go_enter Tryd.func13, Tryd.ntmps13
        go_wp2_with fail
        refine (frRel_any _ _ _ _ _).mono ?_
        rintro e w1 ⟨rfl, hb1⟩
        have H1 := Lib.hid (H.out.keep hb1 (Nat.le_refl _))
        have B1 := Lib.hid (HB.out.trans (hb1.mono HB.out.size))
        clear hb1
        go_wp2_with (go_at_call 21; refine (check_any xs _ _ _ _ hl H1.out).mono ?_; rw [F1.out]; rintro e w' ⟨rfl, rfl⟩)
        go_ret
        exact ⟨ret_bool F.out.symm, B1.out⟩
    · have F := Lib.hid (frB_no2 h2)
      have h4 : (n == (xs.length : Int)) = false := by simp; omega
      have h5 : (n != (xs.length : Int)) = true := by simp; omega
      clear h2
      go_enter Tryd.func13, Tryd.ntmps13
      go_wp2
      go_ret
      exact ⟨ret_bool F.out.symm, HB.out⟩
  · have F := Lib.hid (frB_no1 (n := n) (xs := xs) (by simp [inB]; omega))
    by_cases h0 : 0 ≤ n
    all_goals
      go_enter Tryd.func13, Tryd.ntmps13
      go_wp2
      go_ret
      exact ⟨ret_bool F.out.symm, HB.out⟩

/-! A frame and a set of its worlds -/
def cwV (n : Int) (xs : List Int) (m : Int) : Int := if frB n xs then (if mskB n m then 0 else 2) else 1
theorem cw_no {n m : Int} {xs : List Int} (h : frB n xs = false) : cwV n xs m = 1 := by rw [cwV, h]; rfl
theorem cw_of {n m : Int} {xs : List Int} {b : Bool} (h : frB n xs = true) (h2 : mskB n m = b) : cwV n xs m = if b then 0 else 2 := by rw [cwV, h, h2]; rfl
theorem cw_ok {n m : Int} {xs : List Int} (h : cwV n xs m = 0) : n = xs.length ∧ xs.length ≤ 8 ∧ Rel xs.length (nth xs) ∧ InMk xs.length m ∧ mskB xs.length m = true := by
  unfold cwV at h
  cases h1 : frB n xs
  · rw [h1] at h; cases h
  · rw [h1] at h
    obtain ⟨rfl, h2, -, h3⟩ := frB_ok h1
    cases h4 : mskB xs.length m
    · rw [h4] at h; cases h
    · exact ⟨rfl, h2, h3, (mskB_InN (by omega) m).1 h4, rfl⟩

end Go.Proofs.YtngllobakfnhiaaDoor
