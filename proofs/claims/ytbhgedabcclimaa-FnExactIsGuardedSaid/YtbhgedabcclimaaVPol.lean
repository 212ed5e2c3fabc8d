/- Contracts of VariablePolarity and IsGuarded of the model and of the program, at every argument. Conditions: those in the theorems. -/
import Derived.Test.YtbhgedabcclimaaNPol
namespace Go.Proofs.Ytbhgedabcclimaa
open Go.RowKit

theorem eqNode' (x y x' y' : Int) (w : World) : (binOp .eql 61 (.agg #[.int .i64 x, .int .i64 y]) (.agg #[.int .i64 x', .int .i64 y'])).run Try.prog w = .ok (.bool (x == x' && y == y')) w := by
  have u3 := Try.underlying2
  have hS : Try.prog.underlying 61 = some (.struct (Try.prog.fieldsOf 61)) := by kernel_rfl
  have hp : Try.prog.stoodInHeld 61 = false := by kernel_rfl
  rw [run_eql_struct, show (10000 : Nat) = 9999 + 1 from rfl, run_equalIn_agg w 9999 61 _ _ hS hp]
  simp only [Program.fieldsOf, Try.underlying61]
  go_simp
  by_cases h1 : x = x' <;> by_cases h2 : y = y' <;> simp [h1, h2]

theorem l03Code_any (xs : List Nd) (v : Int) (a : Option Addr) (len cap : Nat) (w : World) (hl : len ≤ 1048576) (h : AtN w a len xs) :
    Calls Try.prog 85 #[.slice a len cap, .int .i64 v] w fun e w' => e = .returned (.int .i64 (cvI (isB xs len) 6 v)) ∧ w = w' := by
  have H := Lib.hid h
  clear h
  cases hb : isB xs len
  · go_enter Try.func85, Try.ntmps85
    go_wp2_with (go_at_call 53; refine (l02Is_any _ _ _ _ _ hl H.out).mono ?_; rw [hb]; rintro e w' ⟨rfl, rfl⟩)
    go_ret
    exact ⟨rfl, rfl⟩
  · cases hc : inB v 0 5
    all_goals
      go_enter Try.func85, Try.ntmps85
      go_wp2_with (first | (go_at_call 53; refine (l02Is_any _ _ _ _ _ hl H.out).mono ?_; rw [hb]; rintro e w' ⟨rfl, rfl⟩) | (go_at_call 64; refine (l01In_any _ _ _ _).mono ?_; rw [hc]; rintro e w' ⟨rfl, rfl⟩))
      go_ret
      exact ⟨ret_int (by simp [inB] at hc; simp [cvI]; omega), rfl⟩

/-- What is added up for the variable v over the first k nodes. -/
def sgTo (xs : List Nd) (v : Int) : Nat → Int
  | 0 => 0
  | k + 1 => if kd xs k = 0 ∧ sy xs k = v then bits .or .i64 (sgTo xs v k) (if 0 < pol xs k k then 1 else 2) else sgTo xs v k
def sgR (xs : List Nd) (v : Int) : Int := if isB xs xs.length && (decide (0 ≤ v) && decide (v < 6)) then sgTo xs v xs.length else 0
theorem cv_bad {xs : List Nd} {v : Int} (h : isB xs xs.length = false) : sgR xs v = 0 ∧ cvI (isB xs xs.length) 6 v = 1 := by simp [sgR, cvI, h]
theorem cv_out {xs : List Nd} {v : Int} (h : isB xs xs.length = true) (h2 : (decide (0 ≤ v) && decide (v < 6)) = false) : sgR xs v = 0 ∧ cvI (isB xs xs.length) 6 v = 2 := by simp only [sgR, cvI, h, h2]; exact ⟨rfl, rfl⟩
theorem cv_good {xs : List Nd} {v : Int} (h : isB xs xs.length = true) (h2 : (decide (0 ≤ v) && decide (v < 6)) = true) : sgR xs v = sgTo xs v xs.length ∧ cvI (isB xs xs.length) 6 v = 0 := by simp only [sgR, cvI, h, h2]; exact ⟨rfl, rfl⟩

set_option maxHeartbeats 1000000 in
theorem l03Signs_any (xs : List Nd) (v : Int) (a : Option Addr) (cap : Nat) (w : World) (hb : isB xs xs.length = true) (h : AtN w a xs.length xs) (hc1 : xs.length ≤ cap) (hc2 : cap ≤ maxLen) :
    Calls Try.prog 86 #[.slice a xs.length cap, .int .i64 v] w fun e w' => e = .returned (.int .i64 (sgTo xs v xs.length)) ∧ Below w.heap.size w w' := by
  obtain ⟨b, off, rfl, hF⟩ := h.formula hb hc1 hc2
  obtain ⟨g1, g2, g3⟩ := toFm_of hb
  have HF := Lib.hid hF
  have H := Lib.hid h
  have OKF := Lib.hid g1
  have hl2 : xs.length ≤ 40 := (is_pos' hb).2
  have LP := Lib.hid (show ((toFm xs).pls 1).length = xs.length by rw [Fm.pls_len, ← Fm.enc_len, ← g2])
  have P := Lib.hid (fun k hk => pol_fm (xs := xs) hb (i := k) hk)
  clear hb g1 g2 g3 hF hc1 hc2 h
  go_enter Try.func86, Try.ntmps86
  go_wp2_with fail
  refine (l03Pol_any (toFm xs) OKF.out 1 b off _ _ _ (by omega) HF.out (by omega)).mono ?_
  rintro e w1 ⟨v1, rfl, ho1, hb1⟩
  obtain ⟨a1, c1', rfl, at1, -, -, -⟩ := ho1.at
  have B1 := Lib.hid hb1
  rw [LP.out] at at1 ⊢
  have A1 := Lib.hid at1
  clear ho1 at1 hb1
  go_wp2
  go_loop [6, 7] (fun s c => ∃ (k : Nat) (q : Int), k ≤ xs.length ∧ c = .int .i64 k ∧ s = .int .i64 q ∧ Hid (sgTo xs v k = q)) (fun _ c => xs.length - (intOf c).toNat)
  case atStart => exact ⟨0, 0, Nat.zero_le _, rfl, rfl, (show _ = _ from rfl)⟩
  case round =>
    obtain ⟨k, q, hk, rfl, rfl, hp⟩ := hrel
    by_cases hlt : k < xs.length
    · obtain ⟨b', off', hab, hbb, hc⟩ := (H.out.keep B1.out (Nat.le_refl _)).2.resolve_left (by omega)
      obtain ⟨b1, off1, rfl, hbb1, hcc⟩ := A1.out.2.resolve_left (by omega)
      cases hab
      obtain ⟨hc1, hc2⟩ := hc k hlt
      have hcell := hcc k hlt
      rw [← P.out k hlt] at hcell
      clear hc hcc
      cases h1 : (kd xs k != 0)
      · cases h2 : (sy xs k != v)
        · have e1 : kd xs k = 0 := by simpa using h1
          have e2 : sy xs k = v := by simpa using h2
          by_cases h3 : 0 < pol xs k k
          · have N := Lib.hid (show sgTo xs v (k + 1) = bits .or .i64 q 1 by rw [sgTo, if_pos ⟨e1, e2⟩, if_pos h3, hp.out])
            clear e1 e2
            go_wp2
            go_round
            case rel => exact ⟨k + 1, _, hlt, by go_num, rfl, N⟩
            case measure => simp [intOf]; omega
          · have N := Lib.hid (show sgTo xs v (k + 1) = bits .or .i64 q 2 by rw [sgTo, if_pos ⟨e1, e2⟩, if_neg h3, hp.out])
            clear e1 e2
            go_wp2
            go_round
            case rel => exact ⟨k + 1, _, hlt, by go_num, rfl, N⟩
            case measure => simp [intOf]; omega
        · have N := Lib.hid (show sgTo xs v (k + 1) = q by rw [sgTo, if_neg (by intro h; simp [h.2] at h2), hp.out])
          go_wp2
          go_round
          case rel => exact ⟨k + 1, _, hlt, by go_num, rfl, N⟩
          case measure => simp [intOf]; omega
      · have N := Lib.hid (show sgTo xs v (k + 1) = q by rw [sgTo, if_neg (by intro h; simp [h.1] at h1), hp.out])
        go_wp2
        go_round
        case rel => exact ⟨k + 1, _, hlt, by go_num, rfl, N⟩
        case measure => simp [intOf]; omega
    · obtain rfl : k = xs.length := by omega
      go_wp2
      go_ret
      exact ⟨ret_int hp.out.symm, B1.out⟩

set_option maxHeartbeats 1000000 in
theorem specVariablePolarity_v (x0 : List Nd) (x1 : Int) (v : Value) (lo hi : Nat) (w : World) (hl : x0.length ≤ 1048576) (h : InN w lo hi v x0) :
    Calls Try.prog 37 #[v, .int .i64 x1] w fun e w' => e = .returned (.tuple #[.int .i64 (sgR x0 x1), .int .i64 (cvI (isB x0 x0.length) 6 x1)]) ∧ Below w.heap.size w w' := by
  obtain ⟨a, cap, rfl, hat, hc1, hc2⟩ := h.at'
  have H := Lib.hid hat
  have HC := Lib.hid (And.intro hc1 hc2)
  have CN := l03Code_any x0 x1 a x0.length cap w hl H.out
  clear h hat hc1 hc2
  cases hb : isB x0 x0.length
  · obtain ⟨e1, e2⟩ := cv_bad (v := x1) hb
    rw [hb] at e2
    rw [hb, e2] at CN
    rw [e1, e2]
    have C := Lib.hid CN
    clear hb e1 e2 CN
    go_enter Try.func37, Try.ntmps37
    go_wp2_with fail
    refine C.out.mono ?_
    rintro e w1 ⟨rfl, rfl⟩
    go_wp2
    go_ret2
    exact ⟨rfl, Below.refl _ _⟩
  · cases hc : (decide (0 ≤ x1) && decide (x1 < 6))
    · obtain ⟨e1, e2⟩ := cv_out hb hc
      rw [hb] at e2
      rw [hb, e2] at CN
      rw [e1, e2]
      have C := Lib.hid CN
      clear hb e1 e2 CN hc
      go_enter Try.func37, Try.ntmps37
      go_wp2_with fail
      refine C.out.mono ?_
      rintro e w1 ⟨rfl, rfl⟩
      go_wp2
      go_ret2
      exact ⟨rfl, Below.refl _ _⟩
    · obtain ⟨e1, e2⟩ := cv_good hb hc
      have HB := Lib.hid hb
      rw [hb] at e2
      rw [hb, e2] at CN
      rw [e1, e2]
      have C := Lib.hid CN
      clear hb e1 e2 CN hc
      go_enter Try.func37, Try.ntmps37
      go_wp2_with fail
      refine C.out.mono ?_
      rintro e w1 ⟨rfl, rfl⟩
      go_wp2_with fail
      refine (l03Signs_any x0 x1 _ _ _ HB.out H.out HC.out.1 HC.out.2).mono ?_
      rintro e w2 ⟨rfl, hb2⟩
      go_wp2
      go_ret2
      exact ⟨rfl, hb2⟩

set_option maxHeartbeats 2000000 in
set_option maxRecDepth 4000 in
theorem implVariablePolarity_v (x0 : List Nd) (x1 : Int) (v : Value) (lo hi : Nat) (w : World) (hl : x0.length ≤ 1048576) (h : InN w lo hi v x0) :
    Calls Try.prog 38 #[v, .int .i64 x1] w fun e w' => e = .returned (.tuple #[.int .i64 (sgR x0 x1), .int .i64 (cvI (isB x0 x0.length) 6 x1)]) ∧ Below w.heap.size w w' := by
  obtain ⟨a, cap, rfl, hat⟩ := h.at
  have H := Lib.hid hat
  clear h hat
  have CN := cv1_any x1 x0 a x0.length cap w.heap.size w hl H.out 26 rfl
  cases hb : isB x0 x0.length
  · obtain ⟨e1, e2⟩ := cv_bad (v := x1) hb
    rw [hb] at e2
    rw [hb, e2] at CN
    rw [e1, e2]
    have C := Lib.hid CN
    clear hb e1 e2 CN
    go_enter Try.func38, Try.ntmps38
    go_wp2_with fail
    refine C.out.mono ?_
    rintro e w1 ⟨rfl, hb1⟩
    go_wp2
    go_ret2
    exact ⟨rfl, hb1⟩
  · cases hc : (decide (0 ≤ x1) && decide (x1 < 6))
    · obtain ⟨e1, e2⟩ := cv_out hb hc
      rw [hb] at e2
      rw [hb, e2] at CN
      rw [e1, e2]
      have C := Lib.hid CN
      clear hb e1 e2 CN hc
      go_enter Try.func38, Try.ntmps38
      go_wp2_with fail
      refine C.out.mono ?_
      rintro e w1 ⟨rfl, hb1⟩
      go_wp2
      go_ret2
      exact ⟨rfl, hb1⟩
    · obtain ⟨e1, e2⟩ := cv_good hb hc
      have HB := Lib.hid hb
      rw [hb] at e2
      rw [hb, e2] at CN
      rw [e1, e2]
      have C := Lib.hid CN
      have hne := neNode
      have hgu := guNode
      clear hb e1 e2 CN hc
      go_enter Try.func38, Try.ntmps38
      go_wp2_with fail
      refine C.out.mono ?_
      rintro e w1 ⟨rfl, hb1⟩
      have B1 := Lib.hid hb1
      clear hb1
      go_wp2
      go_loopw [7, 19] (fun s c wr => ∃ (k : Nat) (q : Int), k ≤ x0.length ∧ c = .int .i64 k ∧ s = .int .i64 q ∧ Hid (sgTo x0 x1 k = q) ∧ Below w.heap.size w wr) (fun _ c _ => x0.length - (intOf c).toNat)
      case atStart => exact ⟨0, 0, Nat.zero_le _, rfl, rfl, (show _ = _ from rfl), B1.out⟩
      case round =>
        obtain ⟨k, q, hk, rfl, rfl, hp, hbel⟩ := hrel
        have B := Lib.hid hbel
        clear hbel
        by_cases hlt : k < x0.length
        · obtain ⟨b', off', rfl, hbb, hc⟩ := (H.out.keep B.out (Nat.le_refl _)).2.resolve_left (by omega)
          obtain ⟨hc1, hc2⟩ := hc k hlt
          have B2 := Lib.hid (B.out.alloc B.out.size (.cells #[.int .i64 (kd x0 k), .int .i64 (sy x0 k)] 61))
          clear hc
          cases h1 : (kd x0 k == 0 && sy x0 k == x1)
          · have N := Lib.hid (show sgTo x0 x1 (k + 1) = q by rw [sgTo, if_neg (by intro h; simp [h.1, h.2] at h1), hp.out])
            go_wp2
            go_roundw
            case rel => exact ⟨k + 1, _, hlt, by go_num, rfl, N, B2.out⟩
            case measure => simp [intOf]; omega
          · have e : kd x0 k = 0 ∧ sy x0 k = x1 := by simpa using h1
            by_cases h3 : 0 < pol x0 k k
            · have N := Lib.hid (show sgTo x0 x1 (k + 1) = bits .or .i64 q 1 by rw [sgTo, if_pos e, if_pos h3, hp.out])
              clear e
              go_wp2_with fail
              refine (polarityAt_any x0 _ _ _ k _ hl hlt HB.out (H.out.keep B2.out (Nat.le_refl _))).mono ?_
              rintro e w' ⟨rfl, rfl⟩
              go_wp2
              go_roundw
              case rel => exact ⟨k + 1, _, hlt, by go_num, rfl, N, B2.out⟩
              case measure => simp [intOf]; omega
            · have N := Lib.hid (show sgTo x0 x1 (k + 1) = bits .or .i64 q 2 by rw [sgTo, if_pos e, if_neg h3, hp.out])
              clear e
              go_wp2_with fail
              refine (polarityAt_any x0 _ _ _ k _ hl hlt HB.out (H.out.keep B2.out (Nat.le_refl _))).mono ?_
              rintro e w' ⟨rfl, rfl⟩
              go_wp2
              go_roundw
              case rel => exact ⟨k + 1, _, hlt, by go_num, rfl, N, B2.out⟩
              case measure => simp [intOf]; omega
        · obtain rfl : k = x0.length := by omega
          have N := Lib.hid hp.out
          go_wp2
          go_ret2
          exact ⟨by rw [N.out] <;> rfl, B.out⟩

end Go.Proofs.Ytbhgedabcclimaa
