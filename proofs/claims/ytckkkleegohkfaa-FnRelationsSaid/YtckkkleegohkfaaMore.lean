/- Contracts of the remaining functions of chapter 1 that read a list and return numbers. Conditions: those in the theorems. -/
import Derived.Test.YtckkkleegohkfaaSlices
namespace Go.Proofs.Ytckkkleegohkfaa
open Go.RowKit

def bothI (xs : List Int) (len : Nat) (m : Int) : Int := if 30 < len then 2 else if mksTo len xs len && mskB len m then 0 else 1
theorem bothI_big {xs : List Int} {len : Nat} {m : Int} (h : 30 < len) : bothI xs len m = 2 := if_pos h
theorem bothI_of {xs : List Int} {len : Nat} {m : Int} (h : ¬ 30 < len) {b c : Bool} (h1 : mksTo len xs len = b) (h2 : mskB len m = c) : bothI xs len m = if b && c then 0 else 1 := by rw [bothI, if_neg h, h1, h2]
theorem cod_of {len : Nat} {m : Int} (h : ¬ 30 < len) {c : Bool} (h2 : mskB len m = c) : cod len m = if c then 0 else 1 := by
  have : inB (len : Int) 0 30 = true := by simp [inB]; omega
  rw [cod, this, h2]; rfl
theorem cod_both {xs : List Int} {len : Nat} {m : Int} (h : ¬ 30 < len) (h1 : mksTo len xs len = true) : cod len m = bothI xs len m := by
  cases h2 : mskB len m <;> rw [cod_of h h2, bothI_of h h1 h2] <;> rfl
theorem mksTo_small {xs : List Int} {len : Nat} {m : Int} (h : bothI xs len m = 0) : len ≤ 30 ∧ mksTo len xs len = true ∧ mskB len m = true := by
  unfold bothI at h
  split at h
  · omega
  · cases h1 : mksTo len xs len <;> cases h2 : mskB len m <;> simp [h1, h2] at h ⊢ <;> omega

set_option maxHeartbeats 400000 in
theorem checkRelationMask_any (xs : List Int) (m : Int) (a : Option Addr) (len cap : Nat) (w : World) (hl : len ≤ 1048576) (h : At w a len xs) :
    Calls Try.prog 61 #[.slice a len cap, .int .i64 m] w fun e w' => e = .returned (.int .i64 (bothI xs len m)) ∧ w = w' := by
  have H := Lib.hid h
  clear h
  by_cases hbig : 30 < len
  · have h0 := Lib.hid (chkI_big (xs := xs) hbig)
    go_enter Try.func61, Try.ntmps61
    go_wp2_with (go_at_call 65; refine (check_any xs _ _ _ _ hl H.out).mono ?_; rw [h0.out]; rintro e w' ⟨rfl, rfl⟩)
    go_ret
    exact ⟨ret_int (bothI_big hbig).symm, rfl⟩
  · cases h1 : mksTo len xs len
    · have h0 := Lib.hid (chkI_bad hbig h1)
      go_enter Try.func61, Try.ntmps61
      go_wp2_with (go_at_call 65; refine (check_any xs _ _ _ _ hl H.out).mono ?_; rw [h0.out]; rintro e w' ⟨rfl, rfl⟩)
      go_ret
      exact ⟨ret_int (bothI_of hbig h1 rfl).symm, rfl⟩
    · have h0 := Lib.hid (chkI_ok hbig h1)
      go_enter Try.func61, Try.ntmps61
      go_wp2_with (first | (go_at_call 65; refine (check_any xs _ _ _ _ hl H.out).mono ?_; rw [h0.out]; rintro e w' ⟨rfl, rfl⟩) | (go_at_call 53; refine (checkMask_any _ _ _).mono ?_; rintro e w' ⟨rfl, rfl⟩))
      go_ret
      exact ⟨ret_int (cod_both hbig h1), rfl⟩

set_option maxHeartbeats 400000 in
theorem l01Both_any (xs : List Int) (m : Int) (a : Option Addr) (len cap : Nat) (w : World) (hl : len ≤ 1048576) (h : At w a len xs) :
    Calls Try.prog 63 #[.slice a len cap, .int .i64 m] w (SomeDrew w fun e => e = .returned (.int .i64 (bothI xs len m))) := by
  have H := Lib.hid h
  clear h
  by_cases hbig : 30 < len
  · have h0 := Lib.hid (chkI_big (xs := xs) hbig)
    go_enter Try.func63, Try.ntmps63
    go_wp2_with (go_at_call 76; refine (l01Relation_any xs _ _ _ _ hl H.out).mono ?_; rw [h0.out]; rintro e w' ⟨rfl, q, rfl⟩)
    go_ret
    exact ⟨ret_int (bothI_big hbig).symm, q, rfl⟩
  · cases h1 : mksTo len xs len
    · have h0 := Lib.hid (chkI_bad hbig h1)
      go_enter Try.func63, Try.ntmps63
      go_wp2_with (go_at_call 76; refine (l01Relation_any xs _ _ _ _ hl H.out).mono ?_; rw [h0.out]; rintro e w' ⟨rfl, q, rfl⟩)
      go_ret
      exact ⟨ret_int (bothI_of hbig h1 rfl).symm, q, rfl⟩
    · have h0 := Lib.hid (chkI_ok hbig h1)
      cases h2 : inB m 0 (full len)
      all_goals
        go_enter Try.func63, Try.ntmps63
        go_wp2_with (first | (go_at_call 76; refine (l01Relation_any xs _ _ _ _ hl H.out).mono ?_; rw [h0.out]; rintro e w' ⟨rfl, q, rfl⟩) | (go_at_call 72; refine (l01Full_any _ _ (by omega) (by omega)).mono ?_; rintro e w' ⟨rfl, rfl⟩) | (go_at_call 71; refine (l01In_any _ _ _ _).mono ?_; rintro e w' ⟨rfl, rfl⟩))
        go_ret
        first | exact ⟨ret_int (bothI_of hbig h1 (c := true) h2).symm, q, rfl⟩ | exact ⟨ret_int (bothI_of hbig h1 (c := false) h2).symm, q, rfl⟩

def imgV (xs : List Int) (len : Nat) (m : Int) : Int := if bothI xs len m = 0 then imgTo xs m len else 0
theorem ImgOut_ok {xs : List Int} {len : Nat} {m : Int} (h : bothI xs len m = 0) : Ending.returned (.tuple #[.int .i64 (imgTo xs m len), .int .i64 0]) = .returned (.tuple #[.int .i64 (imgV xs len m), .int .i64 (bothI xs len m)]) := by rw [imgV, if_pos h, h]
theorem ImgOut_bad {xs : List Int} {len : Nat} {m c : Int} (h : ¬ bothI xs len m = 0) (hc : c = bothI xs len m) : Ending.returned (.tuple #[.int .i64 0, .int .i64 c]) = .returned (.tuple #[.int .i64 (imgV xs len m), .int .i64 (bothI xs len m)]) := by rw [imgV, if_neg h, hc]
theorem At.drewN {w : World} {a : Option Addr} {len : Nat} {xs : List Int} (h : At w a len xs) (q : Nat) : At (w.drewN q) a len xs := h.keep (below_drewN (Below.refl w.heap.size w) q) (Nat.le_refl _)


set_option maxHeartbeats 400000 in
theorem implImageMask_any (xs : List Int) (m : Int) (a : Option Addr) (len cap : Nat) (w : World) (hl : len ≤ 1048576) (h : At w a len xs) :
    Calls Try.prog 26 #[.slice a len cap, .int .i64 m] w fun e w' => e = .returned (.tuple #[.int .i64 (imgV xs len m), .int .i64 (bothI xs len m)]) ∧ w = w' := by
  have H := Lib.hid h
  clear h
  by_cases h0 : bothI xs len m = 0
  · have hs := (mksTo_small h0).1
    have H0 := Lib.hid h0
    clear h0
    go_enter Try.func26, Try.ntmps26
    go_wp2_with (first | (go_at_call 61; refine (checkRelationMask_any xs _ _ _ _ _ hl H.out).mono ?_; rw [H0.out]; rintro e w' ⟨rfl, rfl⟩) | (go_at_call 62; refine (image_any xs _ _ _ _ _ hs H.out).mono ?_; rintro e w' ⟨rfl, rfl⟩))
    go_ret2
    exact ⟨ImgOut_ok H0.out, rfl⟩
  · have H0 := Lib.hid h0
    clear h0
    obtain ⟨c, hc⟩ : ∃ c, c = bothI xs len m := ⟨_, rfl⟩
    have hcn : (c == 0) = false := by rw [hc]; simpa using H0.out
    have hcn2 : (c != 0) = true := by rw [hc]; simpa using H0.out
    have HC := Lib.hid hc
    clear hc
    go_enter Try.func26, Try.ntmps26
    go_wp2_with (first | (go_at_call 61; refine (checkRelationMask_any xs _ _ _ _ _ hl H.out).mono ?_; rw [← HC.out]; rintro e w' ⟨rfl, rfl⟩))
    go_ret2
    exact ⟨ImgOut_bad H0.out HC.out, rfl⟩

set_option maxHeartbeats 400000 in
theorem specImageMask_any (xs : List Int) (m : Int) (a : Option Addr) (len cap : Nat) (w : World) (hl : len ≤ 1048576) (h : At w a len xs) :
    Calls Try.prog 27 #[.slice a len cap, .int .i64 m] w (SomeDrew w fun e => e = .returned (.tuple #[.int .i64 (imgV xs len m), .int .i64 (bothI xs len m)])) := by
  have H := Lib.hid h
  clear h
  by_cases h0 : bothI xs len m = 0
  · have hs := (mksTo_small h0).1
    have H0 := Lib.hid h0
    clear h0
    go_enter Try.func27, Try.ntmps27
    go_wp2_with (first | (go_at_call 63; refine (l01Both_any xs _ _ _ _ _ hl H.out).mono ?_; rw [H0.out]; rintro e w' ⟨rfl, q, rfl⟩) | (go_at_call 64; refine (l01Image_any xs _ _ _ _ _ hs (H.out.drewN q)).mono ?_; rintro e w' ⟨rfl, rfl⟩))
    go_ret2
    exact ⟨ImgOut_ok H0.out, q, rfl⟩
  · have H0 := Lib.hid h0
    clear h0
    obtain ⟨c, hc⟩ : ∃ c, c = bothI xs len m := ⟨_, rfl⟩
    have hcn : (c == 0) = false := by rw [hc]; simpa using H0.out
    have hcn2 : (c != 0) = true := by rw [hc]; simpa using H0.out
    have HC := Lib.hid hc
    clear hc
    go_enter Try.func27, Try.ntmps27
    go_wp2_with (first | (go_at_call 63; refine (l01Both_any xs _ _ _ _ _ hl H.out).mono ?_; rw [← HC.out]; rintro e w' ⟨rfl, q, rfl⟩))
    go_ret2
    exact ⟨ImgOut_bad H0.out HC.out, q, rfl⟩

set_option maxHeartbeats 400000 in
theorem lawImageMask (xs : List Int) (m : Int) (a : Option Addr) (len cap : Nat) (w : World) (h : At w a len xs) :
    Calls Try.prog 11 #[.slice a len cap, .int .i64 m] w fun e w' => e = .returned (.bool true) ∧ Below w.heap.size w w' := by
  obtain rfl := h.1
  by_cases hbig : 1048576 < xs.length
  · clear h
    go_enter Try.func11, Try.ntmps11
    go_wp2
    go_ret
    exact ⟨rfl, Below.refl _ _⟩
  · have hl : xs.length ≤ 1048576 := by omega
    have H := Lib.hid h
    clear h
    go_enter Try.func11, Try.ntmps11
    go_wp2_with fail
    refine (toInt64S_any xs _ _ _ _ hl H.out).mono ?_
    rintro e w1 ⟨v1, rfl, hown1, hb1⟩
    obtain ⟨a1, cap1, rfl, hat1, -, -, -⟩ := hown1.at
    have H1 := Lib.hid hat1
    clear hat1 hown1
    go_wp2_with fail
    refine (specImageMask_any xs _ _ _ _ _ hl H1.out).mono ?_
    rintro e w2 ⟨rfl, q, rfl⟩
    have hbq : Below w.heap.size w (w1.drewN q) := below_drewN hb1 q
    have hsq : w.heap.size ≤ (w1.drewN q).heap.size := hbq.size
    go_wp2_with fail
    refine (toInt64S_any xs _ _ _ _ hl (H.out.keep hbq (Nat.le_refl _))).mono ?_
    rintro e w3 ⟨v3, rfl, hown3, hb3⟩
    obtain ⟨a3, cap3, rfl, hat3, -, -, -⟩ := hown3.at
    have H3 := Lib.hid hat3
    clear hat3 hown3
    have hbel3 : Below w.heap.size w w3 := hbq.trans (hb3.mono hsq)
    go_wp2_with fail
    refine (implImageMask_any xs _ _ _ _ _ hl H3.out).mono ?_
    rintro e w4 ⟨rfl, rfl⟩
    go_wp2_with fail
    refine (toInt64S_any xs _ _ _ _ hl (H.out.keep hbel3 (Nat.le_refl _))).mono ?_
    rintro e w5 ⟨v5, rfl, hown5, hb5⟩
    obtain ⟨a5, cap5, rfl, hat5, -, -, -⟩ := hown5.at
    have H5 := Lib.hid hat5
    clear hat5 hown5
    have hbel5 : Below w.heap.size w w5 := hbel3.trans (hb5.mono hbel3.size)
    go_wp2_with fail
    refine (eqInt64S_any xs _ _ _ _ _ _ hl (H3.out.keep hb5 (Nat.le_refl _)) H5.out).mono ?_
    rintro e w6 ⟨rfl, q6, rfl⟩
    go_wp2
    go_ret
    exact ⟨rfl, below_drewN hbel5 q6⟩

end Go.Proofs.Ytckkkleegohkfaa
