/- Contracts of NodePolarity, VariablePolarity and IsGuarded of the model and of the program, at every argument. Conditions: those in the theorems. -/
import Derived.Test.YtbhgedabcclimaaPolW
import Derived.Test.YtbhgedabcclimaaAreF
import Derived.Test.YtbhgedabcclimaaWrite
namespace Go.Proofs.Ytbhgedabcclimaa
open Go.RowKit

theorem imp_at {xs : List Nd} (hb : isB xs xs.length = true) {k : Nat} (hk : k < xs.length) (h4 : kd xs k = 4) : ∃ e : Nat, pe xs (xs.length - (k + 1)) 1 (k + 1) = e ∧ k + 1 ≤ e ∧ e ≤ xs.length := by
  obtain ⟨f, r, hf, he⟩ := sub_at hb hk
  cases f with
  | va s => rw [kd_at (x := (0, s)) (r := r) he] at h4; exact absurd h4 (show (0 : Int) ≠ 4 by decide)
  | fa => rw [kd_at (x := (1, 0)) (r := r) he] at h4; exact absurd h4 (show (1 : Int) ≠ 4 by decide)
  | un m a =>
    rw [kd_at (x := (m, 0)) (r := a.enc ++ r) (by rw [he]; simp [Fm.enc])] at h4
    have := hf.1
    have : m = 4 := h4
    omega
  | bi m a b =>
    have h1 : xs.drop (k + 1) = a.enc ++ (b.enc ++ r) := drop_next (x := (m, 0)) (by rw [he]; simp [Fm.enc])
    have h2 := pe_end a hf.2.1 h1
    have h3 := congrArg List.length h1
    simp only [List.length_drop, List.length_append, Fm.enc_len] at h3
    have hp := a.sz_pos
    exact ⟨_, h2, by omega, by omega⟩
theorem part_at {xs : List Nd} (hb : isB xs xs.length = true) {k : Nat} (hk : k < xs.length) : ∃ e : Nat, pe xs (xs.length - k) 1 k = e ∧ k + 1 ≤ e ∧ e ≤ xs.length := by
  obtain ⟨f, r, hf, he⟩ := sub_at hb hk
  have h2 := pe_end f hf he
  have h3 := congrArg List.length he
  simp only [List.length_drop, List.length_append, Fm.enc_len] at h3
  have hp := f.sz_pos
  exact ⟨_, h2, by omega, by omega⟩
theorem pol_fm {xs : List Nd} (hb : isB xs xs.length = true) {i : Nat} (hi : i < xs.length) : pol xs i i = nth ((toFm xs).pls 1) i := by
  obtain ⟨h1, h2, h3⟩ := toFm_of hb
  refine pol_all h1 h2 ?_
  rw [← Fm.enc_len, ← h2]; exact hi

set_option maxHeartbeats 1000000 in
theorem polarityAt_any (xs : List Nd) (a : Option Addr) (len cap i : Nat) (w : World) (hl : len ≤ 1048576) (hi : i < len) (hb : isB xs xs.length = true) (h : AtN w a len xs) :
    Calls Try.prog 84 #[.slice a len cap, .int .i64 i] w fun e w' => e = .returned (.int .i64 (pol xs i i)) ∧ w = w' := by
  obtain rfl := h.1
  have H := Lib.hid h
  have HB := Lib.hid hb
  clear h hb
  go_enter Try.func84, Try.ntmps84
  go_wp2
  go_loop [5, 8] (fun p c => ∃ (k : Nat) (q : Int), k ≤ i ∧ (-1 ≤ q ∧ q ≤ 1) ∧ c = .int .i64 k ∧ p = .int .i64 q ∧ Hid (pol xs i k = q)) (fun _ c => i - (intOf c).toNat)
  case atStart => exact ⟨0, 1, Nat.zero_le _, by omega, rfl, rfl, (show _ = _ from rfl)⟩
  case round =>
    obtain ⟨k, q, hk, hq, rfl, rfl, hp⟩ := hrel
    by_cases hlt : k < i
    · have hkl : k < xs.length := by omega
      obtain ⟨b, off, rfl, hbb, hc⟩ := H.out.2.resolve_left (by omega)
      have hc1 := (hc k hkl).1
      clear hc
      cases h4 : (kd xs k == 4)
      · have N := Lib.hid (show pol xs i (k + 1) = q by rw [pol, flip_no (by simpa using h4), if_neg (by simp)]; exact hp.out)
        clear hp
        go_wp2
        go_round
        case rel => exact ⟨k + 1, q, hlt, hq, by go_num, rfl, N⟩
        case measure => simp [intOf]; omega
      · have h4' : kd xs k = 4 := by simpa using h4
        obtain ⟨e, he, he1, he2⟩ := imp_at HB.out hkl h4'
        have E := Lib.hid he
        clear he
        by_cases hie : (i : Int) < (e : Int)
        · have N := Lib.hid (show pol xs i (k + 1) = -q by rw [pol, flipB, h4, E.out, hp.out, show decide ((i : Int) < (e : Int)) = true by simpa using hie]; rfl)
          clear hp h4'
          go_wp2_with fail
          have hcall := partEnd_any xs (some ⟨b, off, none⟩) xs.length cap (k + 1) e _ hl (by omega) H.out E.out (by omega)
          rw [show ((k + 1 : Nat) : Int) = (k : Int) + 1 by omega] at hcall
          refine hcall.mono ?_
          clear hcall
          rintro e w' ⟨rfl, rfl⟩
          go_wp2
          go_round
          case rel => exact ⟨k + 1, -q, hlt, by omega, by go_num, by go_num, N⟩
          case measure => simp [intOf]; omega
        · have N := Lib.hid (show pol xs i (k + 1) = q by rw [pol, flipB, h4, E.out, hp.out, show decide ((i : Int) < (e : Int)) = false by simpa using hie]; rfl)
          clear hp h4'
          go_wp2_with fail
          have hcall := partEnd_any xs (some ⟨b, off, none⟩) xs.length cap (k + 1) e _ hl (by omega) H.out E.out (by omega)
          rw [show ((k + 1 : Nat) : Int) = (k : Int) + 1 by omega] at hcall
          refine hcall.mono ?_
          clear hcall
          rintro e w' ⟨rfl, rfl⟩
          go_wp2
          go_round
          case rel => exact ⟨k + 1, q, hlt, hq, by go_num, rfl, N⟩
          case measure => simp [intOf]; omega
    · obtain rfl : k = i := by omega
      go_wp2
      go_ret
      exact ⟨ret_int hp.out.symm, rfl⟩

def npR (xs : List Nd) (i : Int) : Int := if isB xs xs.length && (decide (0 ≤ i) && decide (i < xs.length)) then pol xs i.toNat i.toNat else 0
def npC (xs : List Nd) (i : Int) : Int := cvI (isB xs xs.length) xs.length i
theorem np_bad {xs : List Nd} {i : Int} (h : isB xs xs.length = false) : npR xs i = 0 ∧ npC xs i = 1 := by simp [npR, npC, cvI, h]
theorem np_out {xs : List Nd} {i : Int} (h : isB xs xs.length = true) (h2 : (decide (0 ≤ i) && decide (i < xs.length)) = false) : npR xs i = 0 ∧ npC xs i = 2 := by simp only [npR, npC, cvI, h, h2]; exact ⟨rfl, rfl⟩
theorem np_good {xs : List Nd} {i : Int} (h : isB xs xs.length = true) (h2 : (decide (0 ≤ i) && decide (i < xs.length)) = true) : ∃ k : Nat, i = k ∧ k < xs.length ∧ npR xs i = pol xs k k ∧ npC xs i = 0 := by
  have h3 : 0 ≤ i ∧ i < xs.length := by simpa using h2
  obtain ⟨k, rfl⟩ := Int.eq_ofNat_of_zero_le h3.1
  refine ⟨k, rfl, by omega, ?_, ?_⟩
  · rw [npR, h, h2]; rfl
  · rw [npC, cvI, h, h2]; rfl

set_option maxHeartbeats 1000000 in
theorem specNodePolarity_v (x0 : List Nd) (x1 : Int) (v : Value) (lo hi : Nat) (w : World) (hl : x0.length ≤ 1048576) (h : InN w lo hi v x0) :
    Calls Try.prog 35 #[v, .int .i64 x1] w fun e w' => e = .returned (.tuple #[.int .i64 (npR x0 x1), .int .i64 (npC x0 x1)]) ∧ Below w.heap.size w w' := by
  obtain ⟨a, cap, rfl, hat, hc1, hc2⟩ := h.at'
  have H := Lib.hid hat
  clear h hat
  cases hb : isB x0 x0.length
  · obtain ⟨e1, e2⟩ := np_bad (i := x1) hb
    rw [e1, e2]
    have HB := Lib.hid hb
    clear hb e1 e2
    go_enter Try.func35, Try.ntmps35
    go_wp2_with (go_at_call 53; refine (l02Is_any _ _ _ _ _ hl H.out).mono ?_; rw [HB.out]; rintro e w' ⟨rfl, rfl⟩)
    go_ret2
    exact ⟨rfl, Below.refl _ _⟩
  · cases hc : (decide (0 ≤ x1) && decide (x1 < x0.length))
    · obtain ⟨e1, e2⟩ := np_out hb hc
      rw [e1, e2]
      have HB := Lib.hid hb
      have HC := Lib.hid (show inB x1 0 ((x0.length : Int) - 1) = false by simp [inB] at hc ⊢; omega)
      clear hb hc e1 e2
      go_enter Try.func35, Try.ntmps35
      go_wp2_with (first | (go_at_call 53; refine (l02Is_any _ _ _ _ _ hl H.out).mono ?_; rw [HB.out]; rintro e w' ⟨rfl, rfl⟩) | (go_at_call 64; refine (l01In_any _ _ _ _).mono ?_; rw [HC.out]; rintro e w' ⟨rfl, rfl⟩))
      go_ret2
      exact ⟨rfl, Below.refl _ _⟩
    · obtain ⟨k, rfl, hk, e1, e2⟩ := np_good hb hc
      rw [e1, e2]
      have HB := Lib.hid hb
      obtain ⟨g1, g2, g3⟩ := toFm_of hb
      obtain ⟨b, off, rfl, hF⟩ := H.out.formula hb hc1 hc2
      have HF := Lib.hid hF
      have HC := Lib.hid (show inB (k : Int) 0 ((x0.length : Int) - 1) = true by simp [inB] at hc ⊢; omega)
      have OKF := Lib.hid g1
      have hl2 : x0.length ≤ 40 := (is_pos' hb).2
      have P := Lib.hid (pol_fm hb hk)
      rw [P.out]
      have LP := Lib.hid (show ((toFm x0).pls 1).length = x0.length by rw [Fm.pls_len, ← Fm.enc_len, ← g2])
      clear hb hc e1 e2 g1 g2 g3 hF hc1 hc2
      go_enter Try.func35, Try.ntmps35
      go_wp2_with (first | (go_at_call 53; refine (l02Is_any _ _ _ _ _ hl H.out).mono ?_; rw [HB.out]; rintro e w' ⟨rfl, rfl⟩) | (go_at_call 64; refine (l01In_any _ _ _ _).mono ?_; rw [HC.out]; rintro e w' ⟨rfl, rfl⟩))
      refine (l03Pol_any (toFm x0) OKF.out 1 b off _ _ _ (by omega) HF.out (by omega)).mono ?_
      rintro e w1 ⟨v1, rfl, ho1, hb1⟩
      obtain ⟨a1, c1', rfl, at1, -, -, -⟩ := ho1.at
      have B1 := Lib.hid hb1
      rw [LP.out] at at1 ⊢
      obtain ⟨b1, off1, rfl, -, hcc⟩ := at1.2.resolve_left (by omega)
      have hcell := hcc k hk
      clear ho1 at1 hb1 hcc
      go_wp2
      go_ret2
      exact ⟨rfl, B1.out⟩

set_option maxHeartbeats 1000000 in
theorem implNodePolarity_v (x0 : List Nd) (x1 : Int) (v : Value) (lo hi : Nat) (w : World) (hl : x0.length ≤ 1048576) (h : InN w lo hi v x0) :
    Calls Try.prog 36 #[v, .int .i64 x1] w fun e w' => e = .returned (.tuple #[.int .i64 (npR x0 x1), .int .i64 (npC x0 x1)]) ∧ Below w.heap.size w w' := by
  obtain ⟨a, cap, rfl, hat⟩ := h.at
  have H := Lib.hid hat
  clear h hat
  have CN := cn0_any x0 x1 a x0.length cap w hl H.out
  cases hb : isB x0 x0.length
  · obtain ⟨e1, e2⟩ := np_bad (i := x1) hb
    rw [show cvI (isB x0 x0.length) x0.length x1 = 1 from e2] at CN
    rw [e1, e2]
    have C := Lib.hid CN
    clear hb e1 e2 CN
    go_enter Try.func36, Try.ntmps36
    go_wp2_with fail
    refine C.out.mono ?_
    rintro e w1 ⟨rfl, hb1⟩
    go_wp2
    go_ret2
    exact ⟨rfl, hb1⟩
  · cases hc : (decide (0 ≤ x1) && decide (x1 < x0.length))
    · obtain ⟨e1, e2⟩ := np_out hb hc
      rw [show cvI (isB x0 x0.length) x0.length x1 = 2 from e2] at CN
      rw [e1, e2]
      have C := Lib.hid CN
      clear hb e1 e2 CN hc
      go_enter Try.func36, Try.ntmps36
      go_wp2_with fail
      refine C.out.mono ?_
      rintro e w1 ⟨rfl, hb1⟩
      go_wp2
      go_ret2
      exact ⟨rfl, hb1⟩
    · obtain ⟨k, rfl, hk, e1, e2⟩ := np_good hb hc
      rw [show cvI (isB x0 x0.length) x0.length k = 0 from e2] at CN
      rw [e1, e2]
      have C := Lib.hid CN
      have HB := Lib.hid hb
      clear hb e1 e2 CN hc
      go_enter Try.func36, Try.ntmps36
      go_wp2_with fail
      refine C.out.mono ?_
      rintro e w1 ⟨rfl, hb1⟩
      have B1 := Lib.hid hb1
      clear hb1
      go_wp2_with fail
      refine (polarityAt_any x0 _ _ _ k _ hl hk HB.out (H.out.keep B1.out (Nat.le_refl _))).mono ?_
      rintro e w' ⟨rfl, rfl⟩
      go_wp2
      go_ret2
      exact ⟨rfl, B1.out⟩

end Go.Proofs.Ytbhgedabcclimaa
