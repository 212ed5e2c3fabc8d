/- Contract of the program's IsPointFormula: it answers as the model does, at every list of point nodes of at most 2^20 nodes. -/
import Derived.Deep.RegionWith
import Derived.RegionTactic
import Derived.BigRegion
import Derived.ChangeAlike
import Derived.Test.YtfkdefmafhlmnaaOwnP
import Derived.Test.YtfkdefmafhlmnaaPoM
import Derived.Test.YtfkdefmafhlmnaaJn08
namespace Go.Proofs.Ytfkdefmafhlmnaa
open Go.RowKit

theorem isPoint_any (x : Int) (w : World) : Calls Try.prog 98 #[.int .i64 x] w fun e w' => e = .returned (.bool (inB x 0 9)) ∧ w = w' := by
  have E : wlB 10 x = inB x 0 9 := by unfold wlB inB; rw [Bool.eq_iff_iff]; simp; omega
  go_enter Try.func98, Try.ntmps98
  go_wp2_with (go_at_call 55; refine (isBelow_any _ _ _).mono ?_; rintro e w' ⟨rfl, rfl⟩)
  go_ret
  exact ⟨rfl, rfl⟩

set_option maxHeartbeats 1000000 in
theorem pointParts_any (k f s : Int) (w : World) : Calls Try.prog 62 #[.agg #[.int .i64 k, .int .i64 f, .int .i64 s]] w fun e w' => e = .returned (.int .i64 (prP k)) ∧ Below w.heap.size w w' := by
  by_cases h : k = 4 ∨ k = 5 ∨ k = 6 ∨ k = 7 ∨ k = 8
  · rcases h with rfl | rfl | rfl | rfl | rfl
    all_goals
      go_enter Try.func62, Try.ntmps62
      go_wp2
      go_ret
      exact ⟨rfl, (Below.refl _ _).alloc (Nat.le_refl _) _⟩
  · have e4 : (k == 4) = false := by simp; omega
    have e5 : (k == 5) = false := by simp; omega
    have e6 : (k == 6) = false := by simp; omega
    have e7 : (k == 7) = false := by simp; omega
    have e8 : (k == 8) = false := by simp; omega
    have HP : Hid (prP k = 0) := by show prP k = 0; unfold prP; rw [if_neg (by omega), if_neg (by omega)]
    clear h
    go_enter Try.func62, Try.ntmps62
    go_wp2
    go_ret
    exact ⟨ret_int HP.out.symm, (Below.refl _ _).alloc (Nat.le_refl _) _⟩

set_option maxHeartbeats 2000000 in
theorem isPointNode_any (k f s : Int) (w : World) : Calls Try.prog 61 #[.agg #[.int .i64 k, .int .i64 f, .int .i64 s]] w fun e w' => e = .returned (.bool (okP k f s)) ∧ Below w.heap.size w w' := by
  obtain ⟨A, hA⟩ : ∃ A, A = inB f 0 9 := ⟨_, rfl⟩
  obtain ⟨B, hB⟩ : ∃ B, B = inB s 0 9 := ⟨_, rfl⟩
  obtain ⟨C, hC⟩ : ∃ C, C = inB f 0 5 := ⟨_, rfl⟩
  obtain ⟨D, hD⟩ : ∃ D, D = (f == 0) := ⟨_, rfl⟩
  obtain ⟨E, hE⟩ : ∃ E, E = (s == 0) := ⟨_, rfl⟩
  have KA := Lib.hid (fun W => (isPoint_any f W))
  have KB := Lib.hid (fun W => (isPoint_any s W))
  have KC := Lib.hid (fun W => (isBelow_any f 6 W))
  have hw : wlB 6 f = inB f 0 5 := by unfold wlB inB; rw [Bool.eq_iff_iff]; simp; omega
  rw [← hA] at KA
  rw [← hB] at KB
  rw [hw, ← hC] at KC
  have hv : okP k f s = (inB k 0 8 && (if k = 0 ∨ k = 1 then A && B else if k = 2 then C && B else if k = 7 ∨ k = 8 then A && E else D && E)) := by unfold okP nmP; rw [hA, hB, hC, hD, hE]
  have HE := hE.symm
  have HD := hD.symm
  clear hA hB hC hw hD hE
  by_cases h : k = 0 ∨ k = 1 ∨ k = 2 ∨ k = 7 ∨ k = 8 ∨ k = 3 ∨ k = 4 ∨ k = 5 ∨ k = 6
  · rcases h with h | h | h | h | h | h | h | h | h
    · subst h; have HV := Lib.hid (hv.trans (show _ = (A && B) from rfl)); clear hv; cases A
      all_goals
        go_enter Try.func61, Try.ntmps61
        go_wp2_with (first | (go_at_call_of 98 f; refine (KA.out _).mono ?_; rintro e w' ⟨rfl, rfl⟩) | (go_at_call_of 98 s; refine (KB.out _).mono ?_; rintro e w' ⟨rfl, rfl⟩) | (go_at_call 55; refine (KC.out _).mono ?_; rintro e w' ⟨rfl, rfl⟩))
        go_ret
        first
        | exact ⟨ret_bool (by rw [HV.out] <;> rfl), (Below.refl _ _).alloc (Nat.le_refl _) _⟩
        | exact ⟨ret_bool (by rw [HV.out, ← HE] <;> rfl), (Below.refl _ _).alloc (Nat.le_refl _) _⟩
    · subst h; have HV := Lib.hid (hv.trans (show _ = (A && B) from rfl)); clear hv; cases A
      all_goals
        go_enter Try.func61, Try.ntmps61
        go_wp2_with (first | (go_at_call_of 98 f; refine (KA.out _).mono ?_; rintro e w' ⟨rfl, rfl⟩) | (go_at_call_of 98 s; refine (KB.out _).mono ?_; rintro e w' ⟨rfl, rfl⟩) | (go_at_call 55; refine (KC.out _).mono ?_; rintro e w' ⟨rfl, rfl⟩))
        go_ret
        first
        | exact ⟨ret_bool (by rw [HV.out] <;> rfl), (Below.refl _ _).alloc (Nat.le_refl _) _⟩
        | exact ⟨ret_bool (by rw [HV.out, ← HE] <;> rfl), (Below.refl _ _).alloc (Nat.le_refl _) _⟩
    · subst h; have HV := Lib.hid (hv.trans (show _ = (C && B) from rfl)); clear hv; cases C
      all_goals
        go_enter Try.func61, Try.ntmps61
        go_wp2_with (first | (go_at_call_of 98 f; refine (KA.out _).mono ?_; rintro e w' ⟨rfl, rfl⟩) | (go_at_call_of 98 s; refine (KB.out _).mono ?_; rintro e w' ⟨rfl, rfl⟩) | (go_at_call 55; refine (KC.out _).mono ?_; rintro e w' ⟨rfl, rfl⟩))
        go_ret
        first
        | exact ⟨ret_bool (by rw [HV.out] <;> rfl), (Below.refl _ _).alloc (Nat.le_refl _) _⟩
        | exact ⟨ret_bool (by rw [HV.out, ← HE] <;> rfl), (Below.refl _ _).alloc (Nat.le_refl _) _⟩
    · subst h; have HV := Lib.hid (hv.trans (show _ = (A && E) from rfl)); clear hv; cases A
      all_goals
        go_enter Try.func61, Try.ntmps61
        go_wp2_with (first | (go_at_call_of 98 f; refine (KA.out _).mono ?_; rintro e w' ⟨rfl, rfl⟩) | (go_at_call_of 98 s; refine (KB.out _).mono ?_; rintro e w' ⟨rfl, rfl⟩) | (go_at_call 55; refine (KC.out _).mono ?_; rintro e w' ⟨rfl, rfl⟩))
        go_ret
        first
        | exact ⟨ret_bool (by rw [HV.out] <;> rfl), (Below.refl _ _).alloc (Nat.le_refl _) _⟩
        | exact ⟨ret_bool (by rw [HV.out, ← HE] <;> rfl), (Below.refl _ _).alloc (Nat.le_refl _) _⟩
    · subst h; have HV := Lib.hid (hv.trans (show _ = (A && E) from rfl)); clear hv; cases A
      all_goals
        go_enter Try.func61, Try.ntmps61
        go_wp2_with (first | (go_at_call_of 98 f; refine (KA.out _).mono ?_; rintro e w' ⟨rfl, rfl⟩) | (go_at_call_of 98 s; refine (KB.out _).mono ?_; rintro e w' ⟨rfl, rfl⟩) | (go_at_call 55; refine (KC.out _).mono ?_; rintro e w' ⟨rfl, rfl⟩))
        go_ret
        first
        | exact ⟨ret_bool (by rw [HV.out] <;> rfl), (Below.refl _ _).alloc (Nat.le_refl _) _⟩
        | exact ⟨ret_bool (by rw [HV.out, ← HE] <;> rfl), (Below.refl _ _).alloc (Nat.le_refl _) _⟩
    · subst h; have HV := Lib.hid (hv.trans (show _ = (D && E) from rfl)); clear hv; cases D
      all_goals
        go_enter Try.func61, Try.ntmps61
        go_wp2_with (first | (go_at_call_of 98 f; refine (KA.out _).mono ?_; rintro e w' ⟨rfl, rfl⟩) | (go_at_call_of 98 s; refine (KB.out _).mono ?_; rintro e w' ⟨rfl, rfl⟩) | (go_at_call 55; refine (KC.out _).mono ?_; rintro e w' ⟨rfl, rfl⟩))
        go_ret
        first
        | exact ⟨ret_bool (by rw [HV.out] <;> rfl), (Below.refl _ _).alloc (Nat.le_refl _) _⟩
        | exact ⟨ret_bool (by rw [HV.out, ← HE] <;> rfl), (Below.refl _ _).alloc (Nat.le_refl _) _⟩
    · subst h; have HV := Lib.hid (hv.trans (show _ = (D && E) from rfl)); clear hv; cases D
      all_goals
        go_enter Try.func61, Try.ntmps61
        go_wp2_with (first | (go_at_call_of 98 f; refine (KA.out _).mono ?_; rintro e w' ⟨rfl, rfl⟩) | (go_at_call_of 98 s; refine (KB.out _).mono ?_; rintro e w' ⟨rfl, rfl⟩) | (go_at_call 55; refine (KC.out _).mono ?_; rintro e w' ⟨rfl, rfl⟩))
        go_ret
        first
        | exact ⟨ret_bool (by rw [HV.out] <;> rfl), (Below.refl _ _).alloc (Nat.le_refl _) _⟩
        | exact ⟨ret_bool (by rw [HV.out, ← HE] <;> rfl), (Below.refl _ _).alloc (Nat.le_refl _) _⟩
    · subst h; have HV := Lib.hid (hv.trans (show _ = (D && E) from rfl)); clear hv; cases D
      all_goals
        go_enter Try.func61, Try.ntmps61
        go_wp2_with (first | (go_at_call_of 98 f; refine (KA.out _).mono ?_; rintro e w' ⟨rfl, rfl⟩) | (go_at_call_of 98 s; refine (KB.out _).mono ?_; rintro e w' ⟨rfl, rfl⟩) | (go_at_call 55; refine (KC.out _).mono ?_; rintro e w' ⟨rfl, rfl⟩))
        go_ret
        first
        | exact ⟨ret_bool (by rw [HV.out] <;> rfl), (Below.refl _ _).alloc (Nat.le_refl _) _⟩
        | exact ⟨ret_bool (by rw [HV.out, ← HE] <;> rfl), (Below.refl _ _).alloc (Nat.le_refl _) _⟩
    · subst h; have HV := Lib.hid (hv.trans (show _ = (D && E) from rfl)); clear hv; cases D
      all_goals
        go_enter Try.func61, Try.ntmps61
        go_wp2_with (first | (go_at_call_of 98 f; refine (KA.out _).mono ?_; rintro e w' ⟨rfl, rfl⟩) | (go_at_call_of 98 s; refine (KB.out _).mono ?_; rintro e w' ⟨rfl, rfl⟩) | (go_at_call 55; refine (KC.out _).mono ?_; rintro e w' ⟨rfl, rfl⟩))
        go_ret
        first
        | exact ⟨ret_bool (by rw [HV.out] <;> rfl), (Below.refl _ _).alloc (Nat.le_refl _) _⟩
        | exact ⟨ret_bool (by rw [HV.out, ← HE] <;> rfl), (Below.refl _ _).alloc (Nat.le_refl _) _⟩
  · have e0 : (k == 0) = false := by simp; omega
    have e1 : (k == 1) = false := by simp; omega
    have e2 : (k == 2) = false := by simp; omega
    have e3 : (k == 3) = false := by simp; omega
    have e4 : (k == 4) = false := by simp; omega
    have e5 : (k == 5) = false := by simp; omega
    have e6 : (k == 6) = false := by simp; omega
    have e7 : (k == 7) = false := by simp; omega
    have e8 : (k == 8) = false := by simp; omega
    have HV := Lib.hid (show okP k f s = false by rw [okP, show inB k 0 8 = false by simp [inB]; omega]; rfl)
    clear hv h
    go_enter Try.func61, Try.ntmps61
    go_wp2
    go_ret
    exact ⟨ret_bool HV.out.symm, (Below.refl _ _).alloc (Nat.le_refl _) _⟩

set_option maxHeartbeats 1000000 in
theorem isTreeP_any (xs : List Pd) (a : Option Addr) (len cap : Nat) (w : World) (hl : len ≤ 1048576) (h : AtP w a len xs) :
    Calls Try.prog 60 #[.slice a len cap, .func (.func 61) #[] #[], .func (.func 62) #[] #[]] w fun e w' => e = .returned (.bool (treeP xs len)) ∧ Below w.heap.size w w' := by
  have H := Lib.hid h
  clear h
  go_enter Try.func60, Try.ntmps60
  go_wp2
  go_loopw [7, 12] (fun m i wr => ∃ k p : Nat, k ≤ len ∧ p ≤ 1 + k ∧ i = .int .i64 k ∧ m = .int .i64 p ∧ msP xs k = p ∧ runP xs k = true ∧ Below w.heap.size w wr) (fun _ i _ => len - (intOf i).toNat)
  case atStart => exact ⟨0, 1, Nat.zero_le _, by omega, rfl, rfl, rfl, rfl, Below.refl _ _⟩
  case round =>
    obtain ⟨k, p, hk, hp, rfl, rfl, hms, hrun, hbel⟩ := hrel
    have HM := Lib.hid hms
    have HR := Lib.hid hrun
    clear hms hrun
    by_cases hlt : k < len
    · obtain ⟨b, off, rfl, hb, hc⟩ := H.out.2.resolve_left (by omega)
      have hc1 : wr.cell? ⟨b, off + k * 3, none⟩ = some (.int .i64 (kp xs k)) := (hbel.cell (p := ⟨b, off + k * 3, none⟩) hb).trans (hc k hlt).1
      have hc2 : wr.cell? ⟨b, off + k * 3 + 1, none⟩ = some (.int .i64 (fp xs k)) := (hbel.cell (p := ⟨b, off + k * 3 + 1, none⟩) hb).trans (hc k hlt).2.1
      have hc3 : wr.cell? ⟨b, off + k * 3 + 2, none⟩ = some (.int .i64 (tp xs k)) := (hbel.cell (p := ⟨b, off + k * 3 + 2, none⟩) hb).trans (hc k hlt).2.2
      clear hc
      have hb2 := prP_bd (kp xs k)
      obtain ⟨q, hq⟩ := Int.eq_ofNat_of_zero_le hb2.1
      have hq2 : q ≤ 2 := by omega
      have HQ := Lib.hid hq
      clear hb2 hq
      by_cases hz : p = 0
      · subst hz
        have HF := Lib.hid (treeP_stop hlt HR.out HM.out)
        go_wp2
        go_ret
        exact ⟨ret_bool HF.out.symm, hbel.alloc hbel.size _⟩
      · have hz' : ((p : Int) == 0) = false := by simp; omega
        cases hok : okP (kp xs k) (fp xs k) (tp xs k)
        · have HF := Lib.hid (treeP_bad hlt hok)
          go_wp2_with (go_at_call 61; refine (isPointNode_any _ _ _ _).mono ?_; rw [hok]; rintro e w1 ⟨rfl, hb1⟩)
          go_ret
          exact ⟨ret_bool HF.out.symm, (hbel.alloc hbel.size _).trans (hb1.mono (by have := hbel.size; simp; omega))⟩
        · have HS := Lib.hid (runP_step HR.out (by rw [HM.out]; omega) hok)
          have hms2 : msP xs (k + 1) = ((p - 1 + q : Nat) : Int) := by rw [msP, HM.out, HQ.out]; omega
          have HM2 := Lib.hid hms2
          clear hms2
          go_wp2_with fail
          refine (isPointNode_any _ _ _ _).mono ?_
          rw [hok]
          rintro e w1 ⟨rfl, hb1⟩
          have hsz := hb1.size
          have hg1 : w1.cell? ⟨wr.heap.size, 0, none⟩ = some (.int .i64 (kp xs k)) := (hb1.cell (p := ⟨wr.heap.size, 0, none⟩) (by simp)).trans (World.cell?_alloc_at _ _ _ _ rfl)
          have hg2 : w1.cell? ⟨wr.heap.size, 1, none⟩ = some (.int .i64 (fp xs k)) := (hb1.cell (p := ⟨wr.heap.size, 1, none⟩) (by simp)).trans (World.cell?_alloc_at _ _ _ _ rfl)
          have hg3 : w1.cell? ⟨wr.heap.size, 2, none⟩ = some (.int .i64 (tp xs k)) := (hb1.cell (p := ⟨wr.heap.size, 2, none⟩) (by simp)).trans (World.cell?_alloc_at _ _ _ _ rfl)
          have hbel1 := (hbel.alloc hbel.size (.cells #[.int .i64 (kp xs k), .int .i64 (fp xs k), .int .i64 (tp xs k)] 61)).trans (hb1.mono (by have := hbel.size; simp; omega))
          have HB1 := Lib.hid hbel1
          clear hbel1 hb1 hsz
          go_wp2_with fail
          refine (pointParts_any _ _ _ _).mono ?_
          rw [HQ.out]
          rintro e w2 ⟨rfl, hb2⟩
          have HB2 := Lib.hid (HB1.out.trans (hb2.mono HB1.out.size))
          clear hb2
          go_wp2
          go_roundw
          case rel => exact ⟨k + 1, p - 1 + q, hlt, by omega, by go_num, by congr 1; omega, HM2.out, HS.out, HB2.out⟩
          case measure => simp [intOf]; omega
    · obtain rfl : k = len := by omega
      have HE := Lib.hid (treeP_end HR.out)
      go_wp2
      go_ret
      exact ⟨ret_bool (by rw [HE.out, HM.out]), hbel⟩

set_option maxHeartbeats 1000000 in
theorem implIsP_any (xs : List Pd) (a : Option Addr) (len cap : Nat) (w : World) (hl : len ≤ 1048576) (h : AtP w a len xs) :
    Calls Try.prog 35 #[.slice a len cap] w fun e w' => e = .returned (.bool (isP xs len)) ∧ Below w.heap.size w w' := by
  have H := Lib.hid h
  clear h
  by_cases hbig : 120 < len
  · go_enter Try.func35, Try.ntmps35
    go_wp2
    go_ret
    exact ⟨ret_bool (isP_big hbig).symm, Below.refl _ _⟩
  · have hs : len ≤ 120 := by omega
    have S := Lib.hid (isP_small (xs := xs) hs)
    go_enter Try.func35, Try.ntmps35
    go_wp2_with (go_at_call 60; refine (isTreeP_any xs _ _ _ _ hl H.out).mono ?_; rintro e w' ⟨rfl, hb⟩)
    go_ret
    exact ⟨ret_bool S.out.symm, hb⟩

end Go.Proofs.Ytfkdefmafhlmnaa
