/- Contracts of the model's functions that read a list of point nodes: where a part ends, whether a list is a point formula. Conditions: those in the theorems. -/
import Derived.Deep.RegionWith
import Derived.RegionTactic
import Derived.BigRegion
import Derived.ChangeAlike
import Derived.Test.YtfkdefmafhlmnaaPoM
import Derived.Test.YtfkdefmafhlmnaaJn04
namespace Go.Proofs.Ytfkdefmafhlmnaa
open Go.RowKit

def ppP (k : Int) : Int := if inB k 0 8 then prP k else -1
theorem ppP_in {k : Int} (h : inB k 0 8 = true) : ppP k = prP k := if_pos h

set_option maxHeartbeats 1000000 in
theorem l10Parts_any (k : Int) (w : World) : Calls Try.prog 65 #[.int .i64 k] w fun e w' => e = .returned (.int .i64 (ppP k)) ∧ w = w' := by
  by_cases h : k = 0 ∨ k = 1 ∨ k = 2 ∨ k = 3 ∨ k = 4 ∨ k = 5 ∨ k = 6 ∨ k = 7 ∨ k = 8
  · rcases h with rfl | rfl | rfl | rfl | rfl | rfl | rfl | rfl | rfl
    all_goals
      go_enter Try.func65, Try.ntmps65
      go_wp2
      go_ret
      exact ⟨rfl, rfl⟩
  · have e0 : (k == 0) = false := by simp; omega
    have e1 : (k == 1) = false := by simp; omega
    have e2 : (k == 2) = false := by simp; omega
    have e3 : (k == 3) = false := by simp; omega
    have e4 : (k == 4) = false := by simp; omega
    have e5 : (k == 5) = false := by simp; omega
    have e6 : (k == 6) = false := by simp; omega
    have e7 : (k == 7) = false := by simp; omega
    have e8 : (k == 8) = false := by simp; omega
    have HP : Hid (ppP k = -1) := by show ppP k = -1; unfold ppP; rw [if_neg (by simp [inB]; omega)]
    clear h
    go_enter Try.func65, Try.ntmps65
    go_wp2
    go_ret
    exact ⟨ret_int HP.out.symm, rfl⟩

set_option maxHeartbeats 2000000 in
theorem l10Node_any (k f s : Int) (w : World) : Calls Try.prog 66 #[.agg #[.int .i64 k, .int .i64 f, .int .i64 s]] w fun e w' => e = .returned (.bool (nmP k f s)) ∧ Below w.heap.size w w' := by
  obtain ⟨A, hA⟩ : ∃ A, A = inB f 0 9 := ⟨_, rfl⟩
  obtain ⟨B, hB⟩ : ∃ B, B = inB s 0 9 := ⟨_, rfl⟩
  obtain ⟨C, hC⟩ : ∃ C, C = inB f 0 5 := ⟨_, rfl⟩
  obtain ⟨D, hD⟩ : ∃ D, D = (f == 0) := ⟨_, rfl⟩
  obtain ⟨E, hE⟩ : ∃ E, E = (s == 0) := ⟨_, rfl⟩
  have KA := Lib.hid (fun W => (l01In_any f 0 9 W))
  have KB := Lib.hid (fun W => (l01In_any s 0 9 W))
  have KC := Lib.hid (fun W => (l01In_any f 0 5 W))
  rw [← hA] at KA
  rw [← hB] at KB
  rw [← hC] at KC
  have hv : nmP k f s = if k = 0 ∨ k = 1 then A && B else if k = 2 then C && B else if k = 7 ∨ k = 8 then A && E else D && E := by unfold nmP; rw [hA, hB, hC, hD, hE]
  clear hA hB hC
  by_cases h0 : k = 0 ∨ k = 1
  · rw [if_pos h0] at hv
    have HV := Lib.hid hv
    clear hv hD hE
    cases A <;> rcases h0 with rfl | rfl
    all_goals
      go_enter Try.func66, Try.ntmps66
      go_wp2
      go_quiet ((first | (go_at_call_of 51 f; exact q_same (KA.out _) rfl) | (go_at_call_of 51 s; exact q_same (KB.out _) rfl)))
      go_wp2
      go_ret
      exact ⟨ret_bool (by rw [HV.out] <;> rfl), below_drewN' ((Below.refl _ _).alloc (Nat.le_refl _) _) _⟩
  · rw [if_neg h0] at hv
    have e0 : (k == 0) = false := by simp; omega
    have e1 : (k == 1) = false := by simp; omega
    by_cases h2 : k = 2
    · rw [if_pos h2] at hv
      subst h2
      have HV := Lib.hid hv
      clear hv h0 hD hE
      cases C
      all_goals
        go_enter Try.func66, Try.ntmps66
        go_wp2
        go_quiet ((first | (go_at_call_of 51 f; exact q_same (KA.out _) rfl) | (go_at_call_of 51 s; exact q_same (KB.out _) rfl)))
        go_wp2_with (go_at_call 51; refine (KC.out _).mono ?_; rintro e w' ⟨rfl, rfl⟩)
        go_ret
        exact ⟨ret_bool (by rw [HV.out] <;> rfl), below_drewN' ((Below.refl _ _).alloc (Nat.le_refl _) _) _⟩
    · rw [if_neg h2] at hv
      have e2 : (k == 2) = false := by simp; omega
      by_cases h7 : k = 7 ∨ k = 8
      · rw [if_pos h7] at hv
        have HV := Lib.hid hv
        have HE := hE.symm
        clear hv h0 hD hE h2
        cases A <;> rcases h7 with rfl | rfl
        all_goals
          go_enter Try.func66, Try.ntmps66
          go_wp2
          go_quiet ((first | (go_at_call_of 51 f; exact q_same (KA.out _) rfl) | (go_at_call_of 51 s; exact q_same (KB.out _) rfl)))
          go_wp2
          go_ret
          first
          | exact ⟨ret_bool (by rw [HV.out] <;> rfl), below_drewN' ((Below.refl _ _).alloc (Nat.le_refl _) _) _⟩
          | exact ⟨ret_bool (by rw [HV.out, ← HE] <;> rfl), below_drewN' ((Below.refl _ _).alloc (Nat.le_refl _) _) _⟩
      · rw [if_neg h7] at hv
        have e7 : (k == 7) = false := by simp; omega
        have e8 : (k == 8) = false := by simp; omega
        have HV := Lib.hid hv
        have HE := hE.symm
        have HD := hD.symm
        clear hv h0 hD hE h2 h7
        cases D
        all_goals
          go_enter Try.func66, Try.ntmps66
          go_wp2
          go_quiet ((first | (go_at_call_of 51 f; exact q_same (KA.out _) rfl) | (go_at_call_of 51 s; exact q_same (KB.out _) rfl)))
          go_wp2
          go_ret
          first
          | exact ⟨ret_bool (by rw [HV.out] <;> rfl), below_drewN' ((Below.refl _ _).alloc (Nat.le_refl _) _) _⟩
          | exact ⟨ret_bool (by rw [HV.out, ← HE] <;> rfl), below_drewN' ((Below.refl _ _).alloc (Nat.le_refl _) _) _⟩

/-- Where the part at an index ends, by the number of nodes behind it. -/
theorem l10End_n (xs : List Pd) (a : Option Addr) (len cap : Nat) (hl : len ≤ 1048576) (ht : treeToP xs len = true) (n : Nat) : ∀ (i : Nat) (w : World), i ≤ len → len - i = n → AtP w a len xs →
    Calls Try.prog 67 #[.slice a len cap, .int .i64 i] w fun e w' => e = .returned (.int .i64 (peP xs (len - i) 1 i)) ∧ w = w' := by
  induction n using Nat.strongRecOn with
  | ind n ih =>
    intro i w hi hn h
    have H := Lib.hid h
    clear h
    by_cases hlt : i < len
    · have IH := Lib.hid (fun (j : Nat) (h1 : i < j) (h2 : j ≤ len) => ih (len - j) (by omega) j w h2 rfl H.out)
      obtain ⟨b, off, rfl, hb, hc⟩ := H.out.2.resolve_left (by omega)
      have hc1 := (hc i hlt).1
      clear hc
      have hk := okP_at ht hlt
      have hb2 := prP_bd (kp xs i)
      obtain ⟨q, hq⟩ := Int.eq_ofNat_of_zero_le hb2.1
      have hq2 : q ≤ 2 := by omega
      have hpp : ppP (kp xs i) = q := by
        rw [ppP_in, hq]
        simp only [okP, Bool.and_eq_true] at hk
        exact hk.1
      have HPP := Lib.hid hpp
      have hst : peP xs (len - i) 1 i = peP xs (len - (i + 1)) q (i + 1) := by
        rw [show len - i = (len - (i + 1)) + 1 by omega, peP, if_neg (by omega), hq]; congr 1; omega
      obtain ⟨T, hT⟩ : ∃ T, T = peP xs (len - i) 1 i := ⟨_, rfl⟩
      have HT := Lib.hid hT
      have HST := Lib.hid (hT.trans hst)
      clear hk hb2 hq hpp hst ih hT ht
      go_enter Try.func67, Try.ntmps67
      go_wp2_with (go_at_call 65; refine (l10Parts_any _ _).mono ?_; rw [HPP.out]; rintro e w' ⟨rfl, rfl⟩)
      go_loop [6, 5] (fun k' e' => ∃ k : Nat, k ≤ 2 ∧ k' = .int .i64 k ∧ ((e' = .int .i64 (-1) ∧ T = -1) ∨ ∃ e : Nat, e' = .int .i64 e ∧ i < e ∧ e ≤ len ∧ peP xs (len - e) k e = T)) (fun k' _ => (intOf k').toNat)
      case atStart => exact ⟨q, hq2, rfl, .inr ⟨i + 1, rfl, by omega, hlt, HST.out.symm⟩⟩
      case round =>
        obtain ⟨k, hk, rfl, ⟨rfl, hT⟩ | ⟨e, rfl, he1, he2, he3⟩⟩ := hrel
        · have HT1 := Lib.hid hT
          clear hT
          by_cases hz : 0 < k
          · go_wp2
            go_ret
            exact ⟨ret_int (by rw [← hn, ← HT.out, HT1.out]), rfl⟩
          · obtain rfl : k = 0 := by omega
            go_wp2
            go_ret
            exact ⟨ret_int (by rw [← hn, ← HT.out, HT1.out]), rfl⟩
        · have HE3 := Lib.hid he3
          clear he3
          by_cases hz : 0 < k
          · have hsp := peP_split xs (len - e) 1 ((k : Int) - 1) e (by omega) (by omega)
            rw [show (1 : Int) + ((k : Int) - 1) = k by omega, HE3.out] at hsp
            obtain ⟨r, hr⟩ : ∃ r, r = peP xs (len - e) 1 e := ⟨_, rfl⟩
            rw [← hr] at hsp
            have HR := Lib.hid hr
            have HSP := Lib.hid hsp
            clear hr hsp
            go_wp2_with fail
            refine (IH.out e he1 he2).mono ?_
            rw [← HR.out]
            rintro e' w' ⟨rfl, rfl⟩
            rcases HSP.out with ⟨h1, h2⟩ | ⟨r', h1, h2, h3, h4⟩
            · subst h1
              have H2 := Lib.hid h2
              clear h2
              go_wp2
              go_round
              case rel => exact ⟨k - 1, by omega, by congr 1; omega, .inl ⟨rfl, H2.out⟩⟩
              case measure => simp [intOf]; omega
            · subst h1
              have H4 := Lib.hid h4
              clear h4
              go_wp2
              go_round
              case rel => exact ⟨k - 1, by omega, by congr 1; omega, .inr ⟨r', rfl, by omega, by omega, by rw [H4.out]; congr 1 <;> omega⟩⟩
              case measure => simp [intOf]; omega
          · obtain rfl : k = 0 := by omega
            have hv : T = e := by
              rw [← HE3.out]
              cases len - e <;> (rw [peP, if_pos (by omega)])
            have HV := Lib.hid hv
            clear hv
            go_wp2
            go_ret
            exact ⟨ret_int (by rw [← hn, ← HT.out, HV.out]), rfl⟩
    · obtain rfl : i = len := by omega
      have hv : peP xs (i - i) 1 i = -1 := by rw [Nat.sub_self, peP, if_neg (by omega)]
      have HV := Lib.hid hv
      clear hv ih
      go_enter Try.func67, Try.ntmps67
      go_wp2
      go_ret
      exact ⟨ret_int HV.out.symm, rfl⟩

set_option maxHeartbeats 1000000 in
theorem specIsP_any (xs : List Pd) (a : Option Addr) (len cap : Nat) (w : World) (hl : len ≤ 1048576) (h : AtP w a len xs) :
    Calls Try.prog 37 #[.slice a len cap] w fun e w' => e = .returned (.bool (isP xs len)) ∧ Below w.heap.size w w' := by
  have H := Lib.hid h
  clear h
  by_cases hbig : 120 < len
  · go_enter Try.func37, Try.ntmps37
    go_wp2
    go_ret
    exact ⟨ret_bool (isP_big hbig).symm, Below.refl _ _⟩
  by_cases h0 : len = 0
  · subst h0
    have hv : isP xs 0 = false := by simp [isP, treeP]
    have HV := Lib.hid hv
    clear hv
    go_enter Try.func37, Try.ntmps37
    go_wp2
    go_ret
    exact ⟨ret_bool HV.out.symm, Below.refl _ _⟩
  have hz : ((len : Int) == 0) = false := by simp; omega
  have hs : len ≤ 120 := by omega
  have S := Lib.hid (isP_small (xs := xs) hs)
  clear hbig
  go_enter Try.func37, Try.ntmps37
  go_wp2
  go_loopw [3] (fun i wr => ∃ k : Nat, k ≤ len ∧ i = .int .i64 k ∧ treeToP xs k = true ∧ Below w.heap.size w wr) (fun i _ => len - (intOf i).toNat)
  case atStart => exact ⟨0, Nat.zero_le _, rfl, rfl, Below.refl _ _⟩
  case round =>
    obtain ⟨k, hk, rfl, ht, hbel⟩ := hrel
    have HT := Lib.hid ht
    clear ht
    by_cases hlt : k < len
    · obtain ⟨b, off, rfl, hb, hc⟩ := H.out.2.resolve_left (by omega)
      have hc1 : wr.cell? ⟨b, off + k * 3, none⟩ = some (.int .i64 (kp xs k)) := (hbel.cell (p := ⟨b, off + k * 3, none⟩) hb).trans (hc k hlt).1
      have hc2 : wr.cell? ⟨b, off + k * 3 + 1, none⟩ = some (.int .i64 (fp xs k)) := (hbel.cell (p := ⟨b, off + k * 3 + 1, none⟩) hb).trans (hc k hlt).2.1
      have hc3 : wr.cell? ⟨b, off + k * 3 + 2, none⟩ = some (.int .i64 (tp xs k)) := (hbel.cell (p := ⟨b, off + k * 3 + 2, none⟩) hb).trans (hc k hlt).2.2
      clear hc
      cases hi : inB (kp xs k) 0 8
      · have HF := Lib.hid (treeP_bad hlt (show okP (kp xs k) (fp xs k) (tp xs k) = false by rw [okP, hi]; rfl))
        have HP := Lib.hid (show ppP (kp xs k) = -1 by rw [ppP, hi]; rfl)
        go_wp2_with (go_at_call 65; refine (l10Parts_any _ _).mono ?_; rw [HP.out]; rintro e w' ⟨rfl, rfl⟩)
        go_ret
        exact ⟨ret_bool (by rw [S.out, HF.out]), hbel⟩
      · have hb2 := prP_bd (kp xs k)
        obtain ⟨q, hq⟩ := Int.eq_ofNat_of_zero_le hb2.1
        have hq2 : q ≤ 2 := by omega
        have HP := Lib.hid (show ppP (kp xs k) = q by rw [ppP_in hi, hq])
        clear hb2 hq
        cases hm : nmP (kp xs k) (fp xs k) (tp xs k)
        · have HF := Lib.hid (treeP_bad hlt (show okP (kp xs k) (fp xs k) (tp xs k) = false by rw [okP, hi, hm]; rfl))
          go_wp2_with (first | (go_at_call 65; refine (l10Parts_any _ _).mono ?_; rw [HP.out]; rintro e w' ⟨rfl, rfl⟩) | (go_at_call 66; refine (l10Node_any _ _ _ _).mono ?_; rw [hm]; rintro e w1 ⟨rfl, hb1⟩))
          go_ret
          exact ⟨ret_bool (by rw [S.out, HF.out]), hbel.trans (hb1.mono hbel.size)⟩
        · have HK := Lib.hid (show treeToP xs (k + 1) = true by rw [treeToP, HT.out, okP, hi, hm]; rfl)
          go_wp2_with (first | (go_at_call 65; refine (l10Parts_any _ _).mono ?_; rw [HP.out]; rintro e w' ⟨rfl, rfl⟩) | (go_at_call 66; refine (l10Node_any _ _ _ _).mono ?_; rw [hm]; rintro e w1 ⟨rfl, hb1⟩))
          go_roundw
          case rel => exact ⟨k + 1, hlt, by go_num, HK.out, hbel.trans (hb1.mono hbel.size)⟩
          case measure => simp [intOf]; omega
    · obtain rfl : k = len := by omega
      have HE := Lib.hid (l10End_n xs a k cap hl HT.out k 0 wr (Nat.zero_le _) (by omega) (by
        refine ⟨H.out.1, H.out.2.imp id ?_⟩
        rintro ⟨b, off, ha, hb, hc⟩
        exact ⟨b, off, ha, Nat.lt_of_lt_of_le hb hbel.size, fun j hj => ⟨(hbel.cell (p := ⟨b, off + j * 3, none⟩) hb).trans (hc j hj).1, (hbel.cell (p := ⟨b, off + j * 3 + 1, none⟩) hb).trans (hc j hj).2.1, (hbel.cell (p := ⟨b, off + j * 3 + 2, none⟩) hb).trans (hc j hj).2.2⟩⟩))
      obtain ⟨q, hq⟩ : ∃ q, q = peP xs (k - 0) 1 0 := ⟨_, rfl⟩
      have HQ := Lib.hid hq
      clear hq
      go_wp2_with fail
      refine HE.out.mono ?_
      rw [← HQ.out]
      rintro e w' ⟨rfl, rfl⟩
      go_wp2
      go_ret
      refine ⟨ret_bool ?_, hbel⟩
      rw [S.out, treeP, HT.out, HQ.out, decide_eq_true (by omega : 0 < k)]
      rfl

end Go.Proofs.Ytfkdefmafhlmnaa
