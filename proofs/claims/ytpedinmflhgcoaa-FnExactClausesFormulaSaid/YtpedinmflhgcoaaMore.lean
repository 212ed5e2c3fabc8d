/- Contracts of the remaining functions of chapter 1 that read a list and return numbers. Conditions: those in the theorems. -/
import Derived.Test.YtpedinmflhgcoaaSlices
namespace Go.Proofs.Ytpedinmflhgcoaa
open Go.RowKit

def bothI (xs : List Int) (len : Nat) (m : Int) : Int := if 30 < len then 2 else if mksTo len xs len && mskB len m then 0 else 1
theorem bothI_big {xs : List Int} {len : Nat} {m : Int} (h : 30 < len) : bothI xs len m = 2 := if_pos h
theorem bothI_of {xs : List Int} {len : Nat} {m : Int} (h : ¬ 30 < len) {b c : Bool} (h1 : mksTo len xs len = b) (h2 : mskB len m = c) : bothI xs len m = if b && c then 0 else 1 := by rw [bothI, if_neg h, h1, h2]
theorem cod_of {len : Nat} {m : Int} (h : ¬ 30 < len) {c : Bool} (h2 : mskB len m = c) : cod len m = if c then 0 else 1 := by
  have : inB (len : Int) 0 30 = true := by simp [inB]; omega
  rw [cod, this, h2]; rfl
theorem cod_both {xs : List Int} {len : Nat} {m : Int} (h : ¬ 30 < len) (h1 : mksTo len xs len = true) : cod len m = bothI xs len m := by
  cases h2 : mskB len m <;> rw [cod_of h h2, bothI_of h h1 h2] <;> rfl
theorem mksTo_small {xs : List Int} {len : Nat} {m : Int} (h : bothI xs len m = 0) : len ≤ 30 ∧ mksTo len xs len = true ∧ mskB len m = true := by
  unfold bothI at h
  split at h
  · omega
  · cases h1 : mksTo len xs len <;> cases h2 : mskB len m <;> simp [h1, h2] at h ⊢ <;> omega

set_option maxHeartbeats 400000 in
theorem checkRelationMask_any (xs : List Int) (m : Int) (a : Option Addr) (len cap : Nat) (w : World) (hl : len ≤ 1048576) (h : At w a len xs) :
    Calls Try.prog 60 #[.slice a len cap, .int .i64 m] w fun e w' => e = .returned (.int .i64 (bothI xs len m)) ∧ w = w' := by
  have H := Lib.hid h
  clear h
  by_cases hbig : 30 < len
  · have h0 := Lib.hid (chkI_big (xs := xs) hbig)
    go_enter Try.func60, Try.ntmps60
    go_wp2_with (go_at_call 57; refine (check_any xs _ _ _ _ hl H.out).mono ?_; rw [h0.out]; rintro e w' ⟨rfl, rfl⟩)
    go_ret
    exact ⟨ret_int (bothI_big hbig).symm, rfl⟩
  · cases h1 : mksTo len xs len
    · have h0 := Lib.hid (chkI_bad hbig h1)
      go_enter Try.func60, Try.ntmps60
      go_wp2_with (go_at_call 57; refine (check_any xs _ _ _ _ hl H.out).mono ?_; rw [h0.out]; rintro e w' ⟨rfl, rfl⟩)
      go_ret
      exact ⟨ret_int (bothI_of hbig h1 rfl).symm, rfl⟩
    · have h0 := Lib.hid (chkI_ok hbig h1)
      go_enter Try.func60, Try.ntmps60
      go_wp2_with (first | (go_at_call 57; refine (check_any xs _ _ _ _ hl H.out).mono ?_; rw [h0.out]; rintro e w' ⟨rfl, rfl⟩) | (go_at_call 107; refine (checkMask_any _ _ _).mono ?_; rintro e w' ⟨rfl, rfl⟩))
      go_ret
      exact ⟨ret_int (cod_both hbig h1), rfl⟩

set_option maxHeartbeats 400000 in
theorem l01Both_any (xs : List Int) (m : Int) (a : Option Addr) (len cap : Nat) (w : World) (hl : len ≤ 1048576) (h : At w a len xs) :
    Calls Try.prog 62 #[.slice a len cap, .int .i64 m] w (SomeDrew w fun e => e = .returned (.int .i64 (bothI xs len m))) := by
  have H := Lib.hid h
  clear h
  by_cases hbig : 30 < len
  · have h0 := Lib.hid (chkI_big (xs := xs) hbig)
    go_enter Try.func62, Try.ntmps62
    go_wp2_with (go_at_call 55; refine (l01Relation_any xs _ _ _ _ hl H.out).mono ?_; rw [h0.out]; rintro e w' ⟨rfl, q, rfl⟩)
    go_ret
    exact ⟨ret_int (bothI_big hbig).symm, q, rfl⟩
  · cases h1 : mksTo len xs len
    · have h0 := Lib.hid (chkI_bad hbig h1)
      go_enter Try.func62, Try.ntmps62
      go_wp2_with (go_at_call 55; refine (l01Relation_any xs _ _ _ _ hl H.out).mono ?_; rw [h0.out]; rintro e w' ⟨rfl, q, rfl⟩)
      go_ret
      exact ⟨ret_int (bothI_of hbig h1 rfl).symm, q, rfl⟩
    · have h0 := Lib.hid (chkI_ok hbig h1)
      cases h2 : inB m 0 (full len)
      all_goals
        go_enter Try.func62, Try.ntmps62
        go_wp2_with (first | (go_at_call 55; refine (l01Relation_any xs _ _ _ _ hl H.out).mono ?_; rw [h0.out]; rintro e w' ⟨rfl, q, rfl⟩) | (go_at_call 110; refine (l01Full_any _ _ (by omega) (by omega)).mono ?_; rintro e w' ⟨rfl, rfl⟩) | (go_at_call 109; refine (l01In_any _ _ _ _).mono ?_; rintro e w' ⟨rfl, rfl⟩))
        go_ret
        first | exact ⟨ret_int (bothI_of hbig h1 (c := true) h2).symm, q, rfl⟩ | exact ⟨ret_int (bothI_of hbig h1 (c := false) h2).symm, q, rfl⟩

def imgV (xs : List Int) (len : Nat) (m : Int) : Int := if bothI xs len m = 0 then imgTo xs m len else 0
theorem ImgOut_ok {xs : List Int} {len : Nat} {m : Int} (h : bothI xs len m = 0) : Ending.returned (.tuple #[.int .i64 (imgTo xs m len), .int .i64 0]) = .returned (.tuple #[.int .i64 (imgV xs len m), .int .i64 (bothI xs len m)]) := by rw [imgV, if_pos h, h]
theorem ImgOut_bad {xs : List Int} {len : Nat} {m c : Int} (h : ¬ bothI xs len m = 0) (hc : c = bothI xs len m) : Ending.returned (.tuple #[.int .i64 0, .int .i64 c]) = .returned (.tuple #[.int .i64 (imgV xs len m), .int .i64 (bothI xs len m)]) := by rw [imgV, if_neg h, hc]
theorem At.drewN {w : World} {a : Option Addr} {len : Nat} {xs : List Int} (h : At w a len xs) (q : Nat) : At (w.drewN q) a len xs := h.keep (below_drewN (Below.refl w.heap.size w) q) (Nat.le_refl _)


set_option maxHeartbeats 400000 in
theorem implImageMask_any (xs : List Int) (m : Int) (a : Option Addr) (len cap : Nat) (w : World) (hl : len ≤ 1048576) (h : At w a len xs) :
    Calls Try.prog 19 #[.slice a len cap, .int .i64 m] w fun e w' => e = .returned (.tuple #[.int .i64 (imgV xs len m), .int .i64 (bothI xs len m)]) ∧ w = w' := by
  have H := Lib.hid h
  clear h
  by_cases h0 : bothI xs len m = 0
  · have hs := (mksTo_small h0).1
    have H0 := Lib.hid h0
    clear h0
    go_enter Try.func19, Try.ntmps19
    go_wp2_with (first | (go_at_call 60; refine (checkRelationMask_any xs _ _ _ _ _ hl H.out).mono ?_; rw [H0.out]; rintro e w' ⟨rfl, rfl⟩) | (go_at_call 61; refine (image_any xs _ _ _ _ _ hs H.out).mono ?_; rintro e w' ⟨rfl, rfl⟩))
    go_ret2
    exact ⟨ImgOut_ok H0.out, rfl⟩
  · have H0 := Lib.hid h0
    clear h0
    obtain ⟨c, hc⟩ : ∃ c, c = bothI xs len m := ⟨_, rfl⟩
    have hcn : (c == 0) = false := by rw [hc]; simpa using H0.out
    have hcn2 : (c != 0) = true := by rw [hc]; simpa using H0.out
    have HC := Lib.hid hc
    clear hc
    go_enter Try.func19, Try.ntmps19
    go_wp2_with (first | (go_at_call 60; refine (checkRelationMask_any xs _ _ _ _ _ hl H.out).mono ?_; rw [← HC.out]; rintro e w' ⟨rfl, rfl⟩))
    go_ret2
    exact ⟨ImgOut_bad H0.out HC.out, rfl⟩

set_option maxHeartbeats 400000 in
theorem specImageMask_any (xs : List Int) (m : Int) (a : Option Addr) (len cap : Nat) (w : World) (hl : len ≤ 1048576) (h : At w a len xs) :
    Calls Try.prog 20 #[.slice a len cap, .int .i64 m] w (SomeDrew w fun e => e = .returned (.tuple #[.int .i64 (imgV xs len m), .int .i64 (bothI xs len m)])) := by
  have H := Lib.hid h
  clear h
  by_cases h0 : bothI xs len m = 0
  · have hs := (mksTo_small h0).1
    have H0 := Lib.hid h0
    clear h0
    go_enter Try.func20, Try.ntmps20
    go_wp2_with (first | (go_at_call 62; refine (l01Both_any xs _ _ _ _ _ hl H.out).mono ?_; rw [H0.out]; rintro e w' ⟨rfl, q, rfl⟩) | (go_at_call 63; refine (l01Image_any xs _ _ _ _ _ hs (H.out.drewN q)).mono ?_; rintro e w' ⟨rfl, rfl⟩))
    go_ret2
    exact ⟨ImgOut_ok H0.out, q, rfl⟩
  · have H0 := Lib.hid h0
    clear h0
    obtain ⟨c, hc⟩ : ∃ c, c = bothI xs len m := ⟨_, rfl⟩
    have hcn : (c == 0) = false := by rw [hc]; simpa using H0.out
    have hcn2 : (c != 0) = true := by rw [hc]; simpa using H0.out
    have HC := Lib.hid hc
    clear hc
    go_enter Try.func20, Try.ntmps20
    go_wp2_with (first | (go_at_call 62; refine (l01Both_any xs _ _ _ _ _ hl H.out).mono ?_; rw [← HC.out]; rintro e w' ⟨rfl, q, rfl⟩))
    go_ret2
    exact ⟨ImgOut_bad H0.out HC.out, q, rfl⟩

end Go.Proofs.Ytpedinmflhgcoaa
