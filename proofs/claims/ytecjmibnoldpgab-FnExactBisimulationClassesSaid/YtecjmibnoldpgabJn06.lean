/- 2 texts in one: IsFr, Gen. -/
import Derived.Test.YtecjmibnoldpgabFr
import Derived.Test.YtecjmibnoldpgabJn05
/- Contracts of what asks whether a frame is one, of the errors of a frame and a set of its worlds, and the walk of IsFrame's law. Conditions: those in the theorems. -/
namespace Go.Proofs.Ytecjmibnoldpgab
open Go.RowKit

def frB (n : Int) (xs : List Int) : Bool := inB n 0 8 && decide ((xs.length : Int) = n) && mksTo n xs xs.length
theorem frB_no1 {n : Int} {xs : List Int} (h : inB n 0 8 = false) : frB n xs = false := by rw [frB, h]; rfl
theorem frB_no2 {n : Int} {xs : List Int} (h : ¬ (xs.length : Int) = n) : frB n xs = false := by rw [frB, decide_eq_false h, Bool.and_false]; rfl
theorem frB_eq {n : Int} {xs : List Int} {b : Bool} (h1 : inB n 0 8 = true) (h2 : (xs.length : Int) = n) (h3 : mksTo n xs xs.length = b) : frB n xs = b := by rw [frB, h1, decide_eq_true h2, h3]; rfl
theorem frB_ok {n : Int} {xs : List Int} (h : frB n xs = true) : n = xs.length ∧ xs.length ≤ 8 ∧ mksTo xs.length xs xs.length = true ∧ Rel xs.length (nth xs) := by
  unfold frB at h
  rw [Bool.and_eq_true, Bool.and_eq_true, decide_eq_true_eq] at h
  obtain ⟨⟨h1, h2⟩, h3⟩ := h
  have hb : 0 ≤ n ∧ n ≤ 8 := by simpa [inB] using h1
  subst h2
  have hl : xs.length ≤ 8 := by omega
  refine ⟨rfl, hl, h3, fun i => ?_⟩
  by_cases hi : i < xs.length
  · exact (mksTo_iff (by omega) xs xs.length).1 h3 i hi
  · rw [nth_high (by omega)]; exact InMk.zero _

theorem boxF {w : World} (n : Int) (a : Option Addr) (len cap : Nat) : Below w.heap.size w (w.alloc (.cells #[.int .i64 n, .slice a len cap] 30)) := (Below.refl _ _).alloc (Nat.le_refl _) _

set_option maxHeartbeats 400000 in
theorem l05Is_any (n : Int) (xs : List Int) (a : Option Addr) (len cap : Nat) (w : World) (hl : len ≤ 1048576) (h : At w a len xs) :
    Calls Try.prog 64 #[.agg #[.int .i64 n, .slice a len cap]] w fun e w' => e = .returned (.bool (frB n xs)) ∧ Below w.heap.size w w' := by
  have HB := Lib.hid (boxF (w := w) n a len cap)
  have H := Lib.hid (h.keep HB.out (Nat.le_refl _))
  obtain rfl := h.1
  clear h
  cases h1 : inB n 0 8
  · have F := Lib.hid (frB_no1 (xs := xs) h1)
    go_enter Try.func64, Try.ntmps64
    go_wp2_with (go_at_call 41; refine (l01In_any _ _ _ _).mono ?_; rintro e w' ⟨rfl, rfl⟩)
    go_ret
    exact ⟨ret_bool F.out.symm, HB.out⟩
  · by_cases h2 : (xs.length : Int) = n
    · have hb : 0 ≤ n ∧ n ≤ 8 := by simpa [inB] using h1
      cases h3 : mksTo n xs xs.length
      all_goals
        have F := Lib.hid (frB_eq h1 h2 h3)
        have F1 := Lib.hid h3
        subst h2
        clear h3
        go_enter Try.func64, Try.ntmps64
        go_wp2_with (first | (go_at_call 41; refine (l01In_any _ _ _ _).mono ?_; rintro e w' ⟨rfl, rfl⟩) | (go_at_call 65; refine (l01Masks_any _ xs _ _ _ _ (by omega) (by omega) hl H.out).mono ?_; rw [F1.out]; rintro e w' ⟨rfl, q, rfl⟩))
        go_ret
        exact ⟨ret_bool F.out.symm, below_drewN HB.out q⟩
    · have F := Lib.hid (frB_no2 h2)
      have h4 : ((xs.length : Int) == n) = false := by simpa using h2
      have h5 : ((xs.length : Int) != n) = true := by simpa using h2
      clear h2
      go_enter Try.func64, Try.ntmps64
      go_wp2_with (go_at_call 41; refine (l01In_any _ _ _ _).mono ?_; rintro e w' ⟨rfl, rfl⟩)
      go_ret
      exact ⟨ret_bool F.out.symm, HB.out⟩

set_option maxHeartbeats 400000 in
theorem frRel_any (n : Int) (a : Option Addr) (len cap : Nat) (w : World) :
    Calls Try.prog 86 #[.agg #[.int .i64 n, .slice a len cap]] w fun e w' => e = .returned (.slice a len cap) ∧ Below w.heap.size w w' := by
  have HB := Lib.hid (boxF (w := w) n a len cap)
  go_enter Try.func86, Try.ntmps86
  go_wp2
  go_ret
  exact ⟨rfl, HB.out⟩

theorem chk_of {xs : List Int} {b : Bool} (h : xs.length ≤ 8) (h3 : mksTo xs.length xs xs.length = b) : chkI xs xs.length = if b then 0 else 1 := by
  cases b
  · exact chkI_bad (by omega) h3
  · exact chkI_ok (by omega) h3

set_option maxHeartbeats 400000 in
theorem implIsFrame_any (n : Int) (xs : List Int) (a : Option Addr) (len cap : Nat) (w : World) (hl : len ≤ 1048576) (h : At w a len xs) :
    Calls Try.prog 67 #[.agg #[.int .i64 n, .slice a len cap]] w fun e w' => e = .returned (.bool (frB n xs)) ∧ Below w.heap.size w w' := by
  have HB := Lib.hid (boxF (w := w) n a len cap)
  have H := Lib.hid (h.keep HB.out (Nat.le_refl _))
  obtain rfl := h.1
  clear h
  by_cases h1 : 0 ≤ n ∧ n ≤ 8
  · have h1' : inB n 0 8 = true := by simpa [inB] using h1
    obtain ⟨h1a, h1b⟩ := h1
    by_cases h2 : (xs.length : Int) = n
    · cases h3 : mksTo n xs xs.length
      all_goals
        have F := Lib.hid (frB_eq h1' h2 h3)
        subst h2
        have F1 := Lib.hid (chk_of (by omega) h3)
        clear h3 h1'
        go_enter Try.func67, Try.ntmps67
        go_wp2_with fail
        refine (frRel_any _ _ _ _ _).mono ?_
        rintro e w1 ⟨rfl, hb1⟩
        have H1 := Lib.hid (H.out.keep hb1 (Nat.le_refl _))
        have B1 := Lib.hid (HB.out.trans (hb1.mono HB.out.size))
        clear hb1
        go_wp2_with (go_at_call 94; refine (check_any xs _ _ _ _ hl H1.out).mono ?_; rw [F1.out]; rintro e w' ⟨rfl, rfl⟩)
        go_ret
        exact ⟨ret_bool F.out.symm, B1.out⟩
    · have F := Lib.hid (frB_no2 h2)
      have h4 : (n == (xs.length : Int)) = false := by simp; omega
      have h5 : (n != (xs.length : Int)) = true := by simp; omega
      clear h2
      go_enter Try.func67, Try.ntmps67
      go_wp2
      go_ret
      exact ⟨ret_bool F.out.symm, HB.out⟩
  · have F := Lib.hid (frB_no1 (n := n) (xs := xs) (by simp [inB]; omega))
    by_cases h0 : 0 ≤ n
    all_goals
      go_enter Try.func67, Try.ntmps67
      go_wp2
      go_ret
      exact ⟨ret_bool F.out.symm, HB.out⟩

/-! A frame and a set of its worlds -/
def cwV (n : Int) (xs : List Int) (m : Int) : Int := if frB n xs then (if mskB n m then 0 else 2) else 1
theorem cw_no {n m : Int} {xs : List Int} (h : frB n xs = false) : cwV n xs m = 1 := by rw [cwV, h]; rfl
theorem cw_of {n m : Int} {xs : List Int} {b : Bool} (h : frB n xs = true) (h2 : mskB n m = b) : cwV n xs m = if b then 0 else 2 := by rw [cwV, h, h2]; rfl
theorem cw_ok {n m : Int} {xs : List Int} (h : cwV n xs m = 0) : n = xs.length ∧ xs.length ≤ 8 ∧ Rel xs.length (nth xs) ∧ InMk xs.length m ∧ mskB xs.length m = true := by
  unfold cwV at h
  cases h1 : frB n xs
  · rw [h1] at h; cases h
  · rw [h1] at h
    obtain ⟨rfl, h2, -, h3⟩ := frB_ok h1
    cases h4 : mskB xs.length m
    · rw [h4] at h; cases h
    · exact ⟨rfl, h2, h3, (mskB_InN (by omega) m).1 h4, rfl⟩

theorem l05Set_any (n m : Int) (a : Option Addr) (len cap : Nat) (w : World) (hn : 0 ≤ n) (hn2 : n ≤ 30) :
    Calls Try.prog 83 #[.agg #[.int .i64 n, .slice a len cap], .int .i64 m] w fun e w' => e = .returned (.bool (mskB n m)) ∧ Below w.heap.size w w' := by
  have HB := Lib.hid (boxF (w := w) n a len cap)
  go_enter Try.func83, Try.ntmps83
  go_wp2_with (first | (go_at_call 93; refine (l01Full_any _ _ hn hn2).mono ?_; rintro e w' ⟨rfl, rfl⟩) | (go_at_call 41; refine (l01In_any _ _ _ _).mono ?_; rintro e w' ⟨rfl, rfl⟩))
  go_ret
  exact ⟨rfl, HB.out⟩

end Go.Proofs.Ytecjmibnoldpgab

/- Contracts of the reach of a frame and of GeneratedWorlds, of the model and of the program. Conditions: those in the theorems. -/
namespace Go.Proofs.Ytecjmibnoldpgab
open Go.RowKit

theorem bx1 {w w1 : World} {n : Int} {a : Option Addr} {len cap : Nat} (hb : Below (w.alloc (.cells #[.int .i64 n, .slice a len cap] 30)).heap.size (w.alloc (.cells #[.int .i64 n, .slice a len cap] 30)) w1) : Bx w1 w.heap.size n a len cap :=
  (Bx.new w n a len cap 30).keep hb

set_option maxHeartbeats 400000 in
theorem reach_any (n : Int) (xs : List Int) (a : Option Addr) (len cap : Nat) (w : World) (hl : len ≤ 30) (h : At w a len xs) :
    Calls Try.prog 61 #[.agg #[.int .i64 n, .slice a len cap]] w fun e w' => ∃ v, e = .returned v ∧ Own w' w.heap.size v (rcL xs) ∧ Below w.heap.size w w' := by
  have HB := Lib.hid (boxF (w := w) n a len cap)
  have H := Lib.hid (h.keep HB.out (Nat.le_refl _))
  obtain rfl := h.1
  clear h
  go_enter Try.func61, Try.ntmps61
  go_wp2_with fail
  refine (frRel_any _ _ _ _ _).mono ?_
  rintro e w1 ⟨rfl, hb1⟩
  have H1 := Lib.hid (H.out.keep hb1 (Nat.le_refl _))
  have B1 := Lib.hid (HB.out.trans (hb1.mono HB.out.size))
  clear hb1
  go_wp2_with fail
  refine (transitive_any xs _ _ _ _ hl H1.out).mono ?_
  rintro e w2 ⟨v2, rfl, ho, hb⟩
  obtain ⟨a2, c2, rfl, hat, -, -, -⟩ := ho.at
  have H2 := Lib.hid (show At w2 a2 (csL xs).length (csL xs) from hat)
  have B2 := Lib.hid (B1.out.trans (hb.mono B1.out.size))
  have L2 := Lib.hid (show (csL xs).length = xs.length from tab_len _ _)
  have hl2 : (tab xs.length (tcTo xs xs.length xs.length)).length ≤ 30 := by rw [tab_len]; exact hl
  clear ho hb hat
  go_wp2_with fail
  refine (reflexive_any (csL xs) _ _ _ _ hl2 H2.out).mono ?_
  rintro e w3 ⟨v3, rfl, ho, hb⟩
  have e3 : rfTo (csL xs) (tab xs.length (tcTo xs xs.length xs.length)).length = rcL xs := by rw [rcL, tab_len]
  rw [e3] at ho
  have O3 := Lib.hid (ho.mono B2.out.size)
  have B3 := Lib.hid (B2.out.trans (hb.mono B2.out.size))
  clear ho hb e3
  go_wp2
  go_ret
  exact ⟨_, rfl, O3.out, B3.out⟩

set_option maxHeartbeats 400000 in
theorem l05Reach_any (n m : Int) (xs : List Int) (a : Option Addr) (len cap : Nat) (w : World) (hl : len ≤ 8) (hr : Rel len (nth xs)) (hm : InMk len m) (h : At w a len xs) :
    Calls Try.prog 56 #[.agg #[.int .i64 n, .slice a len cap], .int .i64 m] w fun e w' => e = .returned (.int .i64 (rchV xs m)) ∧ Below w.heap.size w w' := by
  have HB := Lib.hid (boxF (w := w) n a len cap)
  have H := Lib.hid (h.keep HB.out (Nat.le_refl _))
  obtain rfl := h.1
  clear h
  have HR := Lib.hid hr
  have HM := Lib.hid hm
  clear hr hm
  go_enter Try.func56, Try.ntmps56
  go_wp2
  go_loop [1] (fun c => ∃ mk : Int, c = .int .i64 mk ∧ Hid (Rsr xs m mk)) (fun c => (256 - intOf c).toNat)
  case atStart => exact ⟨m, rfl, Lib.hid (Rsr.start (by omega) HR.out HM.out)⟩
  case round =>
    obtain ⟨mk, rfl, R⟩ := hrel
    by_cases h0 : bits .andNot .i64 (imgTo xs mk xs.length) mk = 0
    · have h1 : (bits .andNot .i64 (imgTo xs mk xs.length) mk != 0) = false := by simpa using h0
      have S := Lib.hid (R.out.stop (by omega) HR.out HM.out h0)
      clear h0
      go_wp2_with (go_at_call 82; refine (l01Image_any xs _ _ _ _ _ (by omega) H.out).mono ?_; rintro e w' ⟨rfl, rfl⟩)
      go_ret
      exact ⟨ret_int S.out, HB.out⟩
    · have h1 : (bits .andNot .i64 (imgTo xs mk xs.length) mk != 0) = true := by simpa using h0
      have S := Lib.hid (R.out.step (by omega) HR.out HM.out)
      have G := Lib.hid (or_gt (by omega) R.out.small (img_in (by omega) HR.out R.out.small) h0)
      have hlt := R.out.small.lt8 hl
      clear h0
      go_wp2_with (go_at_call 82; refine (l01Image_any xs _ _ _ _ _ (by omega) H.out).mono ?_; rintro e w' ⟨rfl, rfl⟩)
      go_round
      case rel => exact ⟨_, rfl, S⟩
      case measure => have g := G.out; simp [intOf]; omega

def gwV (n : Int) (xs : List Int) (m : Int) : Int := if cwV n xs m = 0 then rchV xs m else 0
theorem gw_ok {n m : Int} {xs : List Int} (h : cwV n xs m = 0) : Ending.returned (.tuple #[.int .i64 (rchV xs m), .int .i64 0]) = .returned (.tuple #[.int .i64 (gwV n xs m), .int .i64 (cwV n xs m)]) := by rw [gwV, if_pos h, h]
theorem gw_bad {n m c : Int} {xs : List Int} (h : ¬ cwV n xs m = 0) (hc : c = cwV n xs m) : Ending.returned (.tuple #[.int .i64 0, .int .i64 c]) = .returned (.tuple #[.int .i64 (gwV n xs m), .int .i64 (cwV n xs m)]) := by rw [gwV, if_neg h, hc]

end Go.Proofs.Ytecjmibnoldpgab
