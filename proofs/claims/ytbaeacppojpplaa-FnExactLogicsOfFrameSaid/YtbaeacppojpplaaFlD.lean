/- The walks of the model's l05Flag at some flags. Conditions: those in the theorems. -/
import Derived.Test.YtbaeacppojpplaaJn01
namespace Go.Proofs.Ytbaeacppojpplaa
open Go.RowKit

set_option maxHeartbeats 4000000 in
set_option maxRecDepth 100000 in
theorem flag7_any (xs : List Int) (a : Option Addr) (cap : Nat) (w : World) (h8 : xs.length ≤ 8) (hr : Rel xs.length (nth xs)) (h : At w a xs.length xs) :
    Calls Try.prog 58 #[.agg #[.int .i64 xs.length, .slice a xs.length cap], .int .i64 7] w fun e w' => e = .returned (.bool (flB 7 xs)) ∧ Below w.heap.size w w' := by
  have HB := Lib.hid (boxF (w := w) xs.length a xs.length cap)
  have H := Lib.hid h
  have HR := Lib.hid hr
  clear h hr
  go_enter Try.func58, Try.ntmps58
  go_wp2
  go_quiet (fail)
  go_wp2
  go_loopw [7] (fun i wr => ∃ k : Nat, k ≤ xs.length ∧ i = .int .i64 k ∧ Hid (allTo (okX 7 xs) k = true) ∧ Hid (Below w.heap.size w wr)) (fun i _ => xs.length - (intOf i).toNat)
  case atStart => exact ⟨0, Nat.zero_le _, rfl, Lib.hid rfl, Lib.hid (below_drewN HB.out _)⟩
  case round =>
    obtain ⟨k, hk, rfl, AX, B⟩ := hrel
    by_cases hlt : k < xs.length
    case neg =>
      obtain rfl : k = xs.length := by omega
      go_wp2
      go_ret
      exact ⟨ret_bool AX.out.symm, B.out⟩
    case pos =>
      have HA := Lib.hid (H.out.keep B.out (Nat.le_refl _))
      obtain ⟨b, off, rfl, hb, hc⟩ := HA.out.2.resolve_left (by omega)
      have HC := Lib.hid hc
      have hcx := hc k hlt
      clear hc
      go_wp2_with fail
      refine (l01Closure_any xs _ _ _ _ (by omega) HA.out (fun h => by cases h)).mono ?_
      rintro e w1 ⟨v1, rfl, ho, hbb⟩
      obtain ⟨a1, k1, e1, hat, -, -, -⟩ := (show Own w1 wr.heap.size v1 (csL xs) from ho).at
      subst e1
      have B1 := Lib.hid (B.out.trans (hbb.mono B.out.size))
      have E := Lib.hid (show (csL xs).length = xs.length from tab_len _ _)
      rw [E.out] at hat
      rw [E.out]
      obtain ⟨b1, o1, rfl, -, hc1⟩ := hat.2.resolve_left (by omega)
      have hcc := hc1 k hlt
      clear hc1 hat ho hbb hcx
      cases hv : bitB (nth (csL xs) k) k
      case true =>
        have VX := Lib.hid (show vX 7 xs k = true by simp [vX, hv])
        go_wp2_with (go_at_call 71; refine (l01Bit_any _ _ _ (by omega) (by omega)).mono ?_; rintro e w' ⟨rfl, rfl⟩)
        go_ret
        exact ⟨ret_bool (flB_x hlt VX.out).symm, B1.out⟩
      case false =>
        have VX := Lib.hid (show vX 7 xs k = false by simp [vX, hv])
        go_wp2_with (go_at_call 71; refine (l01Bit_any _ _ _ (by omega) (by omega)).mono ?_; rintro e w' ⟨rfl, rfl⟩)
        clear hv
        clear hcc
        go_loopw [8] (fun i wr => ∃ j : Nat, j ≤ xs.length ∧ i = .int .i64 j ∧ Hid (allTo (okY 7 xs k) j = true) ∧ Hid (Below w.heap.size w wr)) (fun i _ => xs.length - (intOf i).toNat)
        case atStart => exact ⟨0, Nat.zero_le _, rfl, Lib.hid rfl, B1⟩
        case round =>
          obtain ⟨j, hj, rfl, AY, C⟩ := hrel
          by_cases hlty : j < xs.length
          case neg =>
            obtain rfl : j = xs.length := by omega
            go_wp2
            go_roundw
            case rel => exact ⟨k + 1, hlt, by go_num, Lib.hid (allTo_next AX.out (okX_ok VX.out AY.out)), C⟩
            case measure => simp [intOf]; omega
          case pos =>
            have CA := Lib.hid (H.out.keep C.out (Nat.le_refl _))
            obtain ⟨b, off, hae, hb2, hc⟩ := CA.out.2.resolve_left (by omega)
            cases hae
            have hcx := hc k hlt
            have hcy := hc j hlty
            clear hc
            cases hby : bitB (nth xs k) j
            case false =>
              have HBY := Lib.hid hby
              go_wp2_with (go_at_call 71; refine (l01Bit_any _ _ _ (by omega) (by omega)).mono ?_; rintro e w' ⟨rfl, rfl⟩)
              go_roundw
              case rel => exact ⟨j + 1, hlty, by go_num, Lib.hid (allTo_next AY.out (okY_no HBY.out)), C⟩
              case measure => simp [intOf]; omega
            case true =>
              have HBY := Lib.hid hby
              have VY := Lib.hid (show vY 7 xs k j = false by simp [vY])
              go_wp2_with (go_at_call 71; refine (l01Bit_any _ _ _ (by omega) (by omega)).mono ?_; rintro e w' ⟨rfl, rfl⟩)
              clear hcx hcy hby
              go_loopw [9] (fun i wr => ∃ l : Nat, l ≤ xs.length ∧ i = .int .i64 l ∧ Hid (allTo (okZ 7 xs k j) l = true) ∧ Hid (Below w.heap.size w wr)) (fun i _ => xs.length - (intOf i).toNat)
              case atStart => exact ⟨0, Nat.zero_le _, rfl, Lib.hid rfl, C⟩
              case round =>
                obtain ⟨l, hl, rfl, AZ, D⟩ := hrel
                by_cases hltz : l < xs.length
                case neg =>
                  obtain rfl : l = xs.length := by omega
                  go_wp2
                  go_roundw
                  case rel => exact ⟨j + 1, hlty, by go_num, Lib.hid (allTo_next AY.out (okY_ok VY.out AZ.out)), D⟩
                  case measure => simp [intOf]; omega
                case pos =>
                  have DA := Lib.hid (H.out.keep D.out (Nat.le_refl _))
                  obtain ⟨b, off, hae, -, hc⟩ := DA.out.2.resolve_left (by omega)
                  cases hae
                  have hcx := hc k hlt
                  have hcy := hc j hlty
                  have hcz := hc l hltz
                  clear hc
                  cases hbz : bitB (nth xs k) l
                  case false =>
                    have HBZ := Lib.hid hbz
                    go_wp2_with (go_at_call 71; refine (l01Bit_any _ _ _ (by omega) (by omega)).mono ?_; rintro e w' ⟨rfl, rfl⟩)
                    go_roundw
                    case rel => exact ⟨l + 1, hltz, by go_num, Lib.hid (allTo_next AZ.out (okZ_no HBZ.out)), D⟩
                    case measure => simp [intOf]; omega
                  case true =>
                    have HBZ := Lib.hid hbz
                    have VZ := Lib.hid (show vZ 7 xs j l = false by simp [vZ])
                    go_wp2_with (go_at_call 71; refine (l01Bit_any _ _ _ (by omega) (by omega)).mono ?_; rintro e w' ⟨rfl, rfl⟩)
                    go_quiet (fail)
                    go_wp2
                    go_roundw
                    case rel => exact ⟨l + 1, hltz, by go_num, Lib.hid (allTo_next AZ.out (okZ_ok VZ.out)), Lib.hid (below_drewN D.out _)⟩
                    case measure => simp [intOf]; omega

set_option maxHeartbeats 4000000 in
set_option maxRecDepth 100000 in
theorem flag9_any (xs : List Int) (a : Option Addr) (cap : Nat) (w : World) (h8 : xs.length ≤ 8) (hr : Rel xs.length (nth xs)) (h : At w a xs.length xs) :
    Calls Try.prog 58 #[.agg #[.int .i64 xs.length, .slice a xs.length cap], .int .i64 9] w fun e w' => e = .returned (.bool (flB 9 xs)) ∧ Below w.heap.size w w' := by
  have HB := Lib.hid (boxF (w := w) xs.length a xs.length cap)
  have H := Lib.hid h
  have HR := Lib.hid hr
  clear h hr
  go_enter Try.func58, Try.ntmps58
  go_wp2
  go_quiet (fail)
  go_wp2
  go_loopw [7] (fun i wr => ∃ k : Nat, k ≤ xs.length ∧ i = .int .i64 k ∧ Hid (allTo (okX 9 xs) k = true) ∧ Hid (Below w.heap.size w wr)) (fun i _ => xs.length - (intOf i).toNat)
  case atStart => exact ⟨0, Nat.zero_le _, rfl, Lib.hid rfl, Lib.hid (below_drewN HB.out _)⟩
  case round =>
    obtain ⟨k, hk, rfl, AX, B⟩ := hrel
    by_cases hlt : k < xs.length
    case neg =>
      obtain rfl : k = xs.length := by omega
      go_wp2
      go_ret
      exact ⟨ret_bool AX.out.symm, B.out⟩
    case pos =>
      have HA := Lib.hid (H.out.keep B.out (Nat.le_refl _))
      obtain ⟨b, off, rfl, hb, hc⟩ := HA.out.2.resolve_left (by omega)
      have HC := Lib.hid hc
      have hcx := hc k hlt
      clear hc
      have VX := Lib.hid (show vX 9 xs k = false by simp [vX])
      go_wp2
      clear hcx
      go_loopw [8] (fun i wr => ∃ j : Nat, j ≤ xs.length ∧ i = .int .i64 j ∧ Hid (allTo (okY 9 xs k) j = true) ∧ Hid (Below w.heap.size w wr)) (fun i _ => xs.length - (intOf i).toNat)
      case atStart => exact ⟨0, Nat.zero_le _, rfl, Lib.hid rfl, B⟩
      case round =>
        obtain ⟨j, hj, rfl, AY, C⟩ := hrel
        by_cases hlty : j < xs.length
        case neg =>
          obtain rfl : j = xs.length := by omega
          go_wp2
          go_roundw
          case rel => exact ⟨k + 1, hlt, by go_num, Lib.hid (allTo_next AX.out (okX_ok VX.out AY.out)), C⟩
          case measure => simp [intOf]; omega
        case pos =>
          have CA := Lib.hid (H.out.keep C.out (Nat.le_refl _))
          obtain ⟨b, off, hae, hb2, hc⟩ := CA.out.2.resolve_left (by omega)
          cases hae
          have hcx := hc k hlt
          have hcy := hc j hlty
          clear hc
          cases hby : bitB (nth xs k) j
          case false =>
            have HBY := Lib.hid hby
            go_wp2_with (go_at_call 71; refine (l01Bit_any _ _ _ (by omega) (by omega)).mono ?_; rintro e w' ⟨rfl, rfl⟩)
            go_roundw
            case rel => exact ⟨j + 1, hlty, by go_num, Lib.hid (allTo_next AY.out (okY_no HBY.out)), C⟩
            case measure => simp [intOf]; omega
          case true =>
            have HBY := Lib.hid hby
            go_wp2_with (go_at_call 71; refine (l01Bit_any _ _ _ (by omega) (by omega)).mono ?_; rintro e w' ⟨rfl, rfl⟩)
            go_region_with (first | (go_at_call 75; refine (l01Inverse_any xs _ _ _ _ (by omega) CA.out.drw).mono ?_; rintro e w1 ⟨v1, rfl, ho, hbb⟩; obtain ⟨a1, k1, e1, hat, -, -, -⟩ := (show Own w1 wr.heap.size v1 (bsL xs) from ho).at; subst e1; have tt := Lib.hid (below_of_drew hbb); have C1 := Lib.hid (C.out.trans (tt.out.mono C.out.size)); have hcx1 := (tt.out.cell (p := ⟨b, off + k, none⟩) (by exact Nat.lt_of_lt_of_le hb2 (Nat.le_refl _))).trans hcx; have E := Lib.hid (show (bsL xs).length = xs.length from tab_len _ _); rw [E.out] at hat; rw [E.out]; obtain ⟨b1, o1, rfl, -, hc1⟩ := hat.2.resolve_left (by omega); have hcc := hc1 j hlty; clear hc1 hat ho hbb))
            all_goals
              cases hv : (bits .and .i64 (nth xs k) (nth (bsL xs) j) == 0)
              case true =>
                have VY := Lib.hid (show vY 9 xs k j = true by simp [vY]; simpa using hv)
                go_wp2
                go_ret
                exact ⟨ret_bool (flB_y hlt hlty HBY.out VY.out).symm, C1.out⟩
              case false =>
                have VY := Lib.hid (show vY 9 xs k j = false by simp [vY]; simpa using hv)
                go_wp2
                clear hcc hcx1
                clear hv
                clear hcx hcy hby
                go_loopw [9] (fun i wr => ∃ l : Nat, l ≤ xs.length ∧ i = .int .i64 l ∧ Hid (allTo (okZ 9 xs k j) l = true) ∧ Hid (Below w.heap.size w wr)) (fun i _ => xs.length - (intOf i).toNat)
                case atStart => exact ⟨0, Nat.zero_le _, rfl, Lib.hid rfl, C1⟩
                case round =>
                  obtain ⟨l, hl, rfl, AZ, D⟩ := hrel
                  by_cases hltz : l < xs.length
                  case neg =>
                    obtain rfl : l = xs.length := by omega
                    go_wp2
                    go_roundw
                    case rel => exact ⟨j + 1, hlty, by go_num, Lib.hid (allTo_next AY.out (okY_ok VY.out AZ.out)), D⟩
                    case measure => simp [intOf]; omega
                  case pos =>
                    have DA := Lib.hid (H.out.keep D.out (Nat.le_refl _))
                    obtain ⟨b, off, hae, -, hc⟩ := DA.out.2.resolve_left (by omega)
                    cases hae
                    have hcx := hc k hlt
                    have hcy := hc j hlty
                    have hcz := hc l hltz
                    clear hc
                    cases hbz : bitB (nth xs k) l
                    case false =>
                      have HBZ := Lib.hid hbz
                      go_wp2_with (go_at_call 71; refine (l01Bit_any _ _ _ (by omega) (by omega)).mono ?_; rintro e w' ⟨rfl, rfl⟩)
                      go_roundw
                      case rel => exact ⟨l + 1, hltz, by go_num, Lib.hid (allTo_next AZ.out (okZ_no HBZ.out)), D⟩
                      case measure => simp [intOf]; omega
                    case true =>
                      have HBZ := Lib.hid hbz
                      have VZ := Lib.hid (show vZ 9 xs j l = false by simp [vZ])
                      go_wp2_with (go_at_call 71; refine (l01Bit_any _ _ _ (by omega) (by omega)).mono ?_; rintro e w' ⟨rfl, rfl⟩)
                      go_quiet (fail)
                      go_wp2
                      go_roundw
                      case rel => exact ⟨l + 1, hltz, by go_num, Lib.hid (allTo_next AZ.out (okZ_ok VZ.out)), Lib.hid (below_drewN D.out _)⟩
                      case measure => simp [intOf]; omega

end Go.Proofs.Ytbaeacppojpplaa
