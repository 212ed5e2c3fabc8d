/- Contracts of what asks whether a model is one, of the model and of the program. Conditions: those in the theorems. -/
import Derived.Test.YtbfnagmjnaacoaaMo
import Derived.Test.YtbfnagmjnaacoaaIsFr
namespace Go.Proofs.Ytbfnagmjnaacoaa
open Go.RowKit

def isM (n : Int) (xs ys : List Int) : Bool := frB n xs && decide ((ys.length : Int) = 6) && mksTo n ys ys.length
theorem isM_no1 {n : Int} {xs ys : List Int} (h : frB n xs = false) : isM n xs ys = false := by rw [isM, h]; rfl
theorem isM_no2 {n : Int} {xs ys : List Int} (h : ¬ (ys.length : Int) = 6) : isM n xs ys = false := by rw [isM, decide_eq_false h, Bool.and_false]; rfl
theorem isM_eq {n : Int} {xs ys : List Int} {b : Bool} (h1 : frB n xs = true) (h2 : (ys.length : Int) = 6) (h3 : mksTo n ys ys.length = b) : isM n xs ys = b := by rw [isM, h1, decide_eq_true h2, h3]; rfl
theorem isM_ok {n : Int} {xs ys : List Int} (h : isM n xs ys = true) : frB n xs = true ∧ n = xs.length ∧ xs.length ≤ 8 ∧ mksTo xs.length xs xs.length = true ∧ ys.length = 6 ∧ mksTo xs.length ys ys.length = true := by
  unfold isM at h
  rw [Bool.and_eq_true, Bool.and_eq_true, decide_eq_true_eq] at h
  obtain ⟨⟨h1, h2⟩, h3⟩ := h
  obtain ⟨h4, h5, h6, -⟩ := frB_ok h1
  exact ⟨h1, h4, h5, h6, by omega, by rw [← h4]; exact h3⟩

set_option maxHeartbeats 400000 in
theorem l06Is_any (n : Int) (xs ys : List Int) (a : Option Addr) (len cap : Nat) (b : Option Addr) (m d : Nat) (w : World) (hl : len ≤ 1048576) (hm : m ≤ 1048576) (h : At w a len xs) (h' : At w b m ys) :
    Calls Try.prog 47 #[.agg #[.int .i64 n, .slice a len cap, .slice b m d]] w fun e w' => e = .returned (.bool (isM n xs ys)) ∧ Below w.heap.size w w' := by
  obtain ⟨W, hW, hb0, hx, hWs⟩ := boxM (w := w) n a len cap b m d 40
  have HB := Lib.hid hb0
  have X := Lib.hid hx
  have H := Lib.hid (h.keep hb0 (Nat.le_refl _))
  have H' := Lib.hid (h'.keep hb0 (Nat.le_refl _))
  obtain rfl := h.1
  obtain rfl := h'.1
  have HW := Lib.hid hW
  clear h h' hb0 hx hW
  cases h1 : frB n xs
  · have F := Lib.hid (isM_no1 (ys := ys) h1)
    have F1 := Lib.hid h1
    clear h1
    go_enter Try.func47, Try.ntmps47
    go_wp2_with fail
    rw [← HW.out]
    refine (l05Is_any n xs _ _ _ _ hl H.out).mono ?_
    rw [F1.out]
    rintro e w1 ⟨rfl, hb⟩
    have B1 := Lib.hid (HB.out.trans (hb.mono HB.out.size))
    clear hb
    go_wp2
    go_ret
    exact ⟨ret_bool F.out.symm, B1.out⟩
  · have F1 := Lib.hid h1
    by_cases h2 : (ys.length : Int) = 6
    · have hn : 0 ≤ n ∧ n ≤ 8 := by obtain ⟨h4, h5, -, -⟩ := frB_ok h1; omega
      obtain ⟨hn1, hn2⟩ := hn
      cases h3 : mksTo n ys ys.length
      all_goals
        have F := Lib.hid (isM_eq h1 h2 h3)
        have F3 := Lib.hid h3
        have h2' : ((ys.length : Int) == 6) = true := by simpa using h2
        clear h3 h2
        go_enter Try.func47, Try.ntmps47
        go_wp2_with fail
        rw [← HW.out]
        refine (l05Is_any n xs _ _ _ _ hl H.out).mono ?_
        rw [F1.out]
        rintro e w1 ⟨rfl, hb⟩
        have B1 := Lib.hid (HB.out.trans (hb.mono HB.out.size))
        have H1 := Lib.hid (H'.out.keep hb (Nat.le_refl _))
        obtain ⟨lt, x0, x1, x2⟩ := X.out.keep hb
        clear hb
        go_wp2_with fail
        refine (l01Masks_any _ ys _ _ _ _ (by omega) (by omega) hm H1.out).mono ?_
        rw [F3.out]
        rintro e w2 ⟨rfl, q, rfl⟩
        clear x0 x1 x2
        go_wp2
        go_ret
        exact ⟨ret_bool F.out.symm, below_drewN B1.out q⟩
    · have F := Lib.hid (isM_no2 (n := n) (xs := xs) h2)
      have h2' : ((ys.length : Int) == 6) = false := by simpa using h2
      clear h1 h2
      go_enter Try.func47, Try.ntmps47
      go_wp2_with fail
      rw [← HW.out]
      refine (l05Is_any n xs _ _ _ _ hl H.out).mono ?_
      rw [F1.out]
      rintro e w1 ⟨rfl, hb⟩
      have B1 := Lib.hid (HB.out.trans (hb.mono HB.out.size))
      obtain ⟨lt, x0, x1, x2⟩ := X.out.keep hb
      clear hb
      go_wp2
      go_ret
      exact ⟨ret_bool F.out.symm, B1.out⟩

theorem mks_no {n : Int} {xs : List Int} {k l : Nat} (hk : k < l) (h : mskB n (nth xs k) = false) : mksTo n xs l = false := by
  induction l with
  | zero => omega
  | succ l ih =>
    rw [mksTo]
    by_cases e : k = l
    · subst e; rw [h, Bool.and_false]
    · rw [ih (by omega)]; rfl

set_option maxHeartbeats 400000 in
theorem implIsModel_any (n : Int) (xs ys : List Int) (a : Option Addr) (len cap : Nat) (b : Option Addr) (m d : Nat) (w : World) (hl : len ≤ 1048576) (hm : m ≤ 1048576) (h : At w a len xs) (h' : At w b m ys) :
    Calls Try.prog 52 #[.agg #[.int .i64 n, .slice a len cap, .slice b m d]] w fun e w' => e = .returned (.bool (isM n xs ys)) ∧ Below w.heap.size w w' := by
  obtain ⟨W, hW, hb0, hx, hWs⟩ := boxM (w := w) n a len cap b m d 40
  have HB := Lib.hid hb0
  have X := Lib.hid hx
  have H := Lib.hid (h.keep hb0 (Nat.le_refl _))
  have H' := Lib.hid (h'.keep hb0 (Nat.le_refl _))
  obtain rfl := h.1
  obtain rfl := h'.1
  have HW := Lib.hid hW
  clear h h' hb0 hx hW
  cases h1 : frB n xs
  · have F := Lib.hid (isM_no1 (ys := ys) h1)
    have F1 := Lib.hid h1
    clear h1
    go_enter Try.func52, Try.ntmps52
    go_wp2_with fail
    rw [← HW.out]
    refine (implIsFrame_any n xs _ _ _ _ hl H.out).mono ?_
    rw [F1.out]
    rintro e w1 ⟨rfl, hb⟩
    have B1 := Lib.hid (HB.out.trans (hb.mono HB.out.size))
    clear hb
    go_wp2
    go_ret
    exact ⟨ret_bool F.out.symm, B1.out⟩
  · have F1 := Lib.hid h1
    by_cases h2 : (ys.length : Int) = 6
    · have hn : 0 ≤ n ∧ n ≤ 8 := by obtain ⟨h4, h5, -, -⟩ := frB_ok h1; omega
      obtain ⟨hn1, hn2⟩ := hn
      have FE := Lib.hid (fun b hb => isM_eq (b := b) h1 h2 hb)
      have h2' : ((ys.length : Int) != 6) = false := by simpa using h2
      have HY6 := Lib.hid (show ys.length = 6 by omega)
      clear h2 h1
      go_enter Try.func52, Try.ntmps52
      go_wp2_with fail
      rw [← HW.out]
      refine (implIsFrame_any n xs _ _ _ _ hl H.out).mono ?_
      rw [F1.out]
      rintro e w1 ⟨rfl, hb⟩
      have B1 := Lib.hid (HB.out.trans (hb.mono HB.out.size))
      have H1 := Lib.hid (H'.out.keep hb (Nat.le_refl _))
      obtain ⟨lt, x0, x1, x2⟩ := X.out.keep hb
      clear hb
      obtain ⟨b', off, rfl, hb', hc'⟩ := H1.out.2.resolve_left (by have := HY6.out; omega)
      have HC := Lib.hid hc'
      clear hc'
      go_wp2
      clear x1 x2
      go_loop [18] (fun i => ∃ k : Nat, k ≤ ys.length ∧ i = .int .i64 k ∧ mksTo n ys k = true) (fun i => ys.length - (intOf i).toNat)
      case atStart => exact ⟨0, Nat.zero_le _, rfl, rfl⟩
      case round =>
        obtain ⟨k, hk, rfl, hmk⟩ := hrel
        have M := Lib.hid hmk
        clear hmk
        by_cases hlt : k < ys.length
        · have hcell := HC.out k hlt
          cases hms : mskB n (nth ys k)
          · have G := Lib.hid (FE.out false (mks_no hlt hms))
            have MS := Lib.hid hms
            clear hms
            go_wp2_with (go_at_call 107; refine (isMaskWithin_any n _ _ (by omega) (by omega)).mono ?_; rw [MS.out]; rintro e w' ⟨rfl, rfl⟩)
            go_ret
            exact ⟨ret_bool G.out.symm, B1.out⟩
          · have MS := Lib.hid hms
            clear hms
            go_wp2_with (go_at_call 107; refine (isMaskWithin_any n _ _ (by omega) (by omega)).mono ?_; rw [MS.out]; rintro e w' ⟨rfl, rfl⟩)
            go_round
            case rel => exact ⟨k + 1, hlt, by go_num, by rw [mksTo, M.out, MS.out]; rfl⟩
            case measure => simp [intOf]; omega
        · obtain rfl : k = ys.length := by omega
          have G := Lib.hid (FE.out true M.out)
          go_wp2
          go_ret
          exact ⟨ret_bool G.out.symm, B1.out⟩
    · have F := Lib.hid (isM_no2 (n := n) (xs := xs) h2)
      have h2' : ((ys.length : Int) != 6) = true := by simpa using h2
      clear h1 h2
      go_enter Try.func52, Try.ntmps52
      go_wp2_with fail
      rw [← HW.out]
      refine (implIsFrame_any n xs _ _ _ _ hl H.out).mono ?_
      rw [F1.out]
      rintro e w1 ⟨rfl, hb⟩
      have B1 := Lib.hid (HB.out.trans (hb.mono HB.out.size))
      obtain ⟨lt, x0, x1, x2⟩ := X.out.keep hb
      clear hb
      go_wp2
      go_ret
      exact ⟨ret_bool F.out.symm, B1.out⟩

end Go.Proofs.Ytbfnagmjnaacoaa
