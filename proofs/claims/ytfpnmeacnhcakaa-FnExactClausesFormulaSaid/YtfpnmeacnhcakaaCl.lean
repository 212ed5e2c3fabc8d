/- IsClause of the model and of the program, and the walk of its law. Conditions: those in the theorems. -/
import Derived.Test.YtfpnmeacnhcakaaClM
namespace Go.Proofs.Ytfpnmeacnhcakaa
open Go.RowKit

theorem clTo_no {xs : List Int} {k n : Nat} (hk : k < n) (h : inB (nth xs k) 0 11 = false) : clTo xs n = false := clTo_false (k := k + 1) hk (by rw [clTo, h]; simp)
theorem clTo_no2 {xs : List Int} {k n : Nat} (hk : k < n) (h0 : k ≠ 0) (h : nth xs k / 2 ≤ nth xs (k - 1) / 2) : clTo xs n = false := clTo_false (k := k + 1) hk (by
  rw [clTo, decide_eq_false h0, decide_eq_false (by omega : ¬ nth xs (k - 1) / 2 < nth xs k / 2)]; simp)
theorem clTo_yes {xs : List Int} {k : Nat} (h : clTo xs k = true) (h1 : inB (nth xs k) 0 11 = true) (h2 : k = 0 ∨ nth xs (k - 1) / 2 < nth xs k / 2) : clTo xs (k + 1) = true := by
  rw [clTo, h, h1]
  rcases h2 with e | e
  · simp [e]
  · simp [e]

set_option maxHeartbeats 1000000 in
theorem specIsClause_any (xs : List Int) (a : Option Addr) (len cap : Nat) (w : World) (hl : len ≤ 1048576) (h : At w a len xs) :
    Calls Try.prog 24 #[.slice a len cap] w (SomeDrew w fun e => e = .returned (.bool (clTo xs len))) := by
  have H := Lib.hid h
  clear h
  go_enter Try.func24, Try.ntmps24
  go_wp2
  go_loopw [3] (fun i wr => ∃ j q : Nat, j ≤ len ∧ i = .int .i64 j ∧ Hid (clTo xs j = true) ∧ wr = w.drewN q) (fun i _ => len - (intOf i).toNat)
  case atStart => exact ⟨0, 0, Nat.zero_le _, rfl, (show _ = _ from rfl), rfl⟩
  case round =>
    obtain ⟨k, q, hk, rfl, hm, rfl⟩ := hrel
    by_cases hlt : k < len
    · obtain ⟨b, off, rfl, hb, hc⟩ := H.out.2.resolve_left (by omega)
      have hc1 := hc k hlt
      cases e : inB (nth xs k) 0 11
      · have E := Lib.hid (clTo_no hlt e)
        have I := Lib.hid e
        clear hc e hm
        generalize nth xs k = z at hc1 I
        go_wp2
        go_quiet ((go_at_call 34; exact q_same ((l01In_any _ _ _ _).mono fun _ _ h => ⟨h.1.trans (ret_bool I.out), h.2⟩) rfl))
        go_wp2
        go_ret
        exact ⟨ret_bool E.out.symm, _, by first | rfl | rw [World.drewN_drewN]⟩
      · have hz : 0 ≤ nth xs k ∧ nth xs k ≤ 11 := by simpa [inB] using e
        have I := Lib.hid e
        obtain ⟨hz0, hz1⟩ := hz
        by_cases h0 : k = 0
        · have E := Lib.hid (clTo_yes hm.out I.out (.inl h0))
          subst h0
          rw [Nat.add_zero] at hc1
          clear hc e hm
          generalize nth xs 0 = z at hc1 I hz0 hz1
          go_wp2
          go_quiet ((go_at_call 34; exact q_same ((l01In_any _ _ _ _).mono fun _ _ h => ⟨h.1.trans (ret_bool I.out), h.2⟩) rfl))
          go_wp2
          go_roundw
          case rel => exact ⟨1, _, by omega, by go_num, E, rfl⟩
          case measure => simp [intOf]; omega
        · have hc2 := hc (k - 1) (by omega)
          obtain ⟨j, rfl⟩ : ∃ j, k = j + 1 := ⟨k - 1, by omega⟩
          simp only [Nat.add_sub_cancel] at hc2
          have hy := clTo_lt hm.out
          have hy2 : 0 ≤ nth xs j ∧ nth xs j ≤ 11 := by have := asTo_in (asTo_cl hm.out) j (by omega); omega
          obtain ⟨hy0, hy1⟩ := hy2
          clear hy
          by_cases h2 : nth xs (j + 1) / 2 ≤ nth xs j / 2
          · have E := Lib.hid (clTo_no2 hlt h0 (by simpa using h2))
            clear hc e hm
            generalize nth xs (j + 1) = z at hc1 I hz0 hz1 h2
            generalize nth xs j = y at hc2 h2 hy0 hy1
            go_wp2
            go_quiet ((go_at_call 34; exact q_same ((l01In_any _ _ _ _).mono fun _ _ h => ⟨h.1.trans (ret_bool I.out), h.2⟩) rfl))
            go_wp2
            go_ret
            exact ⟨ret_bool E.out.symm, _, by first | rfl | rw [World.drewN_drewN]⟩
          · have E := Lib.hid (clTo_yes hm.out I.out (.inr (by simp only [Nat.add_sub_cancel]; omega)))
            clear hc e hm
            generalize nth xs (j + 1) = z at hc1 I hz0 hz1 h2
            generalize nth xs j = y at hc2 h2 hy0 hy1
            go_wp2
            go_quiet ((go_at_call 34; exact q_same ((l01In_any _ _ _ _).mono fun _ _ h => ⟨h.1.trans (ret_bool I.out), h.2⟩) rfl))
            go_wp2
            go_roundw
            case rel => exact ⟨j + 1 + 1, _, by omega, by go_num, E, rfl⟩
            case measure => simp [intOf]; omega
    · obtain rfl : k = len := by omega
      have E := Lib.hid hm.out
      clear hm
      go_wp2
      go_ret
      exact ⟨ret_bool E.out.symm, _, by first | rfl | rw [World.drewN_drewN]⟩

theorem literalMask_any (xs : List Int) (a : Option Addr) (len cap : Nat) (w : World) (hl : len ≤ 1048576) (h : At w a len xs) (hin : ∀ k, k < len → 0 ≤ nth xs k ∧ nth xs k < 12) :
    Calls Try.prog 31 #[.slice a len cap] w fun e w' => e = .returned (.int .i64 ((mk xs len : Nat) : Int)) ∧ w = w' := by
  have E := Lib.hid (moV_in hin)
  have H := Lib.hid h
  clear h hin
  go_enter Try.func31, Try.ntmps31
  go_wp2_with fail
  refine (implMaskOf_any 12 xs _ _ _ _ hl H.out).mono ?_
  rw [E.out]
  rintro e w' ⟨rfl, rfl⟩
  go_wp2
  go_ret
  exact ⟨rfl, rfl⟩
theorem negatedLiterals_any (m : Nat) (hm : m < 4096) (w : World) :
    Calls Try.prog 43 #[.int .i64 m] w fun e w' => e = .returned (.int .i64 ((ngM m : Nat) : Int)) ∧ w = w' := by
  have E := Lib.hid (ngI_eq m hm)
  unfold ngI at E
  go_enter Try.func43, Try.ntmps43
  go_wp2
  go_ret
  exact ⟨ret_int E.out, rfl⟩
theorem isClauseMask_any (m : Nat) (hm : m < 4096) (w : World) :
    Calls Try.prog 37 #[.int .i64 m] w fun e w' => e = .returned (.bool (cmB m)) ∧ w = w' := by
  have E := Lib.hid (cmI_eq m hm)
  go_enter Try.func37, Try.ntmps37
  go_wp2_with fail
  refine (negatedLiterals_any m hm _).mono ?_
  rintro e w' ⟨rfl, rfl⟩
  go_wp2
  go_ret
  exact ⟨ret_bool E.out, rfl⟩

theorem asTo_no {xs : List Int} {k n : Nat} (hk : k < n) (h : nth xs k ≤ prv xs k ∨ 12 ≤ nth xs k) : clTo xs n = false := by
  rw [cl_eq, asTo_false (k := k + 1) hk]
  · rfl
  · rw [asTo]
    rcases h with h | h
    · rw [decide_eq_false (by omega : ¬ prv xs k < nth xs k)]; simp
    · rw [decide_eq_false (by omega : ¬ nth xs k < 12)]; simp
theorem asTo_yes {xs : List Int} {k : Nat} (h : asTo xs k = true) (h1 : ¬ nth xs k ≤ prv xs k) (h2 : ¬ 12 ≤ nth xs k) : asTo xs (k + 1) = true := by
  rw [asTo, h, decide_eq_true (by omega : prv xs k < nth xs k), decide_eq_true (by omega : nth xs k < 12)]; rfl

set_option maxHeartbeats 1000000 in
theorem implIsClause_any (xs : List Int) (a : Option Addr) (len cap : Nat) (w : World) (hl : len ≤ 1048576) (h : At w a len xs) :
    Calls Try.prog 30 #[.slice a len cap] w fun e w' => e = .returned (.bool (clTo xs len)) ∧ w = w' := by
  have H := Lib.hid h
  clear h
  go_enter Try.func30, Try.ntmps30
  go_wp2
  go_loop [3, 8] (fun p i => ∃ j : Nat, j ≤ len ∧ i = .int .i64 j ∧ p = .int .i64 (prv xs j) ∧ Hid (asTo xs j = true)) (fun _ i => len - (intOf i).toNat)
  case atStart => exact ⟨0, Nat.zero_le _, rfl, rfl, (show _ = _ from rfl)⟩
  case round =>
    obtain ⟨k, hk, rfl, rfl, hm⟩ := hrel
    by_cases hlt : k < len
    · obtain ⟨b, off, rfl, hb, hc⟩ := H.out.2.resolve_left (by omega)
      have hc1 := hc k hlt
      by_cases h1 : nth xs k ≤ prv xs k
      · have E := Lib.hid (asTo_no hlt (.inl h1))
        clear hc hm
        generalize nth xs k = z at hc1 h1
        generalize prv xs k = y at h1
        go_wp2
        go_ret
        exact ⟨ret_bool E.out.symm, rfl⟩
      · by_cases h2 : 12 ≤ nth xs k
        · have E := Lib.hid (asTo_no hlt (.inr h2))
          clear hc hm
          generalize nth xs k = z at hc1 h1 h2
          generalize prv xs k = y at h1
          go_wp2
          go_ret
          exact ⟨ret_bool E.out.symm, rfl⟩
        · have E := Lib.hid (asTo_yes hm.out h1 h2)
          clear hc hm
          go_wp2
          go_round
          case rel => exact ⟨k + 1, hlt, by go_num, rfl, E⟩
          case measure => simp [intOf]; omega
    · obtain rfl : k = len := by omega
      have E := Lib.hid (show cmB (mk xs k) = clTo xs k from cmB_cl hm.out)
      have IN := Lib.hid (asTo_in hm.out)
      have ML := Lib.hid (mk_lt IN.out)
      clear hm
      go_wp2_with fail
      refine (literalMask_any xs _ _ _ _ hl H.out IN.out).mono ?_
      rintro e w' ⟨rfl, rfl⟩
      go_wp2_with fail
      refine (isClauseMask_any _ ML.out _).mono ?_
      rw [E.out]
      rintro e w' ⟨rfl, rfl⟩
      go_wp2
      go_ret
      exact ⟨rfl, rfl⟩

end Go.Proofs.Ytfpnmeacnhcakaa
