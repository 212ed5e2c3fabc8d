/- The walks of the model's l05Flag at some flags. Conditions: those in the theorems. -/
import Derived.Test.YtbaeacppojpplaaJn01
namespace Go.Proofs.Ytbaeacppojpplaa
open Go.RowKit

set_option maxHeartbeats 4000000 in
set_option maxRecDepth 100000 in
theorem flag4_any (xs : List Int) (a : Option Addr) (cap : Nat) (w : World) (h8 : xs.length ≤ 8) (hr : Rel xs.length (nth xs)) (h : At w a xs.length xs) :
    Calls Try.prog 58 #[.agg #[.int .i64 xs.length, .slice a xs.length cap], .int .i64 4] w fun e w' => e = .returned (.bool (flB 4 xs)) ∧ Below w.heap.size w w' := by
  have HB := Lib.hid (boxF (w := w) xs.length a xs.length cap)
  have H := Lib.hid h
  have HR := Lib.hid hr
  clear h hr
  go_enter Try.func58, Try.ntmps58
  go_wp2
  go_quiet (fail)
  go_wp2
  go_loopw [7] (fun i wr => ∃ k : Nat, k ≤ xs.length ∧ i = .int .i64 k ∧ Hid (allTo (okX 4 xs) k = true) ∧ Hid (Below w.heap.size w wr)) (fun i _ => xs.length - (intOf i).toNat)
  case atStart => exact ⟨0, Nat.zero_le _, rfl, Lib.hid rfl, Lib.hid (below_drewN HB.out _)⟩
  case round =>
    obtain ⟨k, hk, rfl, AX, B⟩ := hrel
    by_cases hlt : k < xs.length
    case neg =>
      obtain rfl : k = xs.length := by omega
      go_wp2
      go_ret
      exact ⟨ret_bool AX.out.symm, B.out⟩
    case pos =>
      have HA := Lib.hid (H.out.keep B.out (Nat.le_refl _))
      obtain ⟨b, off, rfl, hb, hc⟩ := HA.out.2.resolve_left (by omega)
      have HC := Lib.hid hc
      have hcx := hc k hlt
      clear hc
      have VX := Lib.hid (show vX 4 xs k = false by simp [vX])
      go_wp2
      clear hcx
      go_loopw [8] (fun i wr => ∃ j : Nat, j ≤ xs.length ∧ i = .int .i64 j ∧ Hid (allTo (okY 4 xs k) j = true) ∧ Hid (Below w.heap.size w wr)) (fun i _ => xs.length - (intOf i).toNat)
      case atStart => exact ⟨0, Nat.zero_le _, rfl, Lib.hid rfl, B⟩
      case round =>
        obtain ⟨j, hj, rfl, AY, C⟩ := hrel
        by_cases hlty : j < xs.length
        case neg =>
          obtain rfl : j = xs.length := by omega
          go_wp2
          go_roundw
          case rel => exact ⟨k + 1, hlt, by go_num, Lib.hid (allTo_next AX.out (okX_ok VX.out AY.out)), C⟩
          case measure => simp [intOf]; omega
        case pos =>
          have CA := Lib.hid (H.out.keep C.out (Nat.le_refl _))
          obtain ⟨b, off, hae, hb2, hc⟩ := CA.out.2.resolve_left (by omega)
          cases hae
          have hcx := hc k hlt
          have hcy := hc j hlty
          clear hc
          cases hby : bitB (nth xs k) j
          case false =>
            have HBY := Lib.hid hby
            go_wp2_with (go_at_call 71; refine (l01Bit_any _ _ _ (by omega) (by omega)).mono ?_; rintro e w' ⟨rfl, rfl⟩)
            go_roundw
            case rel => exact ⟨j + 1, hlty, by go_num, Lib.hid (allTo_next AY.out (okY_no HBY.out)), C⟩
            case measure => simp [intOf]; omega
          case true =>
            have HBY := Lib.hid hby
            cases hv : (bits .andNot .i64 (nth xs k) (nth xs j) != 0)
            case true =>
              have VY := Lib.hid (show vY 4 xs k j = true by simp [vY]; simpa using hv)
              go_wp2_with (go_at_call 71; refine (l01Bit_any _ _ _ (by omega) (by omega)).mono ?_; rintro e w' ⟨rfl, rfl⟩)
              go_quiet (fail)
              go_wp2
              go_ret
              exact ⟨ret_bool (flB_y hlt hlty HBY.out VY.out).symm, below_drewN C.out _⟩
            case false =>
              have VY := Lib.hid (show vY 4 xs k j = false by simp [vY]; simpa using hv)
              go_wp2_with (go_at_call 71; refine (l01Bit_any _ _ _ (by omega) (by omega)).mono ?_; rintro e w' ⟨rfl, rfl⟩)
              go_quiet (fail)
              rename Nat => nq2
              have C1 := Lib.hid (below_drewN C.out nq2)
              go_wp2
              clear hv
              clear hcx hcy hby
              go_loopw [9] (fun i wr => ∃ l : Nat, l ≤ xs.length ∧ i = .int .i64 l ∧ Hid (allTo (okZ 4 xs k j) l = true) ∧ Hid (Below w.heap.size w wr)) (fun i _ => xs.length - (intOf i).toNat)
              case atStart => exact ⟨0, Nat.zero_le _, rfl, Lib.hid rfl, C1⟩
              case round =>
                obtain ⟨l, hl, rfl, AZ, D⟩ := hrel
                by_cases hltz : l < xs.length
                case neg =>
                  obtain rfl : l = xs.length := by omega
                  go_wp2
                  go_roundw
                  case rel => exact ⟨j + 1, hlty, by go_num, Lib.hid (allTo_next AY.out (okY_ok VY.out AZ.out)), D⟩
                  case measure => simp [intOf]; omega
                case pos =>
                  have DA := Lib.hid (H.out.keep D.out (Nat.le_refl _))
                  obtain ⟨b, off, hae, -, hc⟩ := DA.out.2.resolve_left (by omega)
                  cases hae
                  have hcx := hc k hlt
                  have hcy := hc j hlty
                  have hcz := hc l hltz
                  clear hc
                  cases hbz : bitB (nth xs k) l
                  case false =>
                    have HBZ := Lib.hid hbz
                    go_wp2_with (go_at_call 71; refine (l01Bit_any _ _ _ (by omega) (by omega)).mono ?_; rintro e w' ⟨rfl, rfl⟩)
                    go_roundw
                    case rel => exact ⟨l + 1, hltz, by go_num, Lib.hid (allTo_next AZ.out (okZ_no HBZ.out)), D⟩
                    case measure => simp [intOf]; omega
                  case true =>
                    have HBZ := Lib.hid hbz
                    have VZ := Lib.hid (show vZ 4 xs j l = false by simp [vZ])
                    go_wp2_with (go_at_call 71; refine (l01Bit_any _ _ _ (by omega) (by omega)).mono ?_; rintro e w' ⟨rfl, rfl⟩)
                    go_quiet (fail)
                    go_wp2
                    go_roundw
                    case rel => exact ⟨l + 1, hltz, by go_num, Lib.hid (allTo_next AZ.out (okZ_ok VZ.out)), Lib.hid (below_drewN D.out _)⟩
                    case measure => simp [intOf]; omega

set_option maxHeartbeats 4000000 in
set_option maxRecDepth 100000 in
theorem flag5_any (xs : List Int) (a : Option Addr) (cap : Nat) (w : World) (h8 : xs.length ≤ 8) (hr : Rel xs.length (nth xs)) (h : At w a xs.length xs) :
    Calls Try.prog 58 #[.agg #[.int .i64 xs.length, .slice a xs.length cap], .int .i64 5] w fun e w' => e = .returned (.bool (flB 5 xs)) ∧ Below w.heap.size w w' := by
  have HB := Lib.hid (boxF (w := w) xs.length a xs.length cap)
  have H := Lib.hid h
  have HR := Lib.hid hr
  clear h hr
  go_enter Try.func58, Try.ntmps58
  go_wp2
  go_quiet (fail)
  go_wp2
  go_loopw [7] (fun i wr => ∃ k : Nat, k ≤ xs.length ∧ i = .int .i64 k ∧ Hid (allTo (okX 5 xs) k = true) ∧ Hid (Below w.heap.size w wr)) (fun i _ => xs.length - (intOf i).toNat)
  case atStart => exact ⟨0, Nat.zero_le _, rfl, Lib.hid rfl, Lib.hid (below_drewN HB.out _)⟩
  case round =>
    obtain ⟨k, hk, rfl, AX, B⟩ := hrel
    by_cases hlt : k < xs.length
    case neg =>
      obtain rfl : k = xs.length := by omega
      go_wp2
      go_ret
      exact ⟨ret_bool AX.out.symm, B.out⟩
    case pos =>
      have HA := Lib.hid (H.out.keep B.out (Nat.le_refl _))
      obtain ⟨b, off, rfl, hb, hc⟩ := HA.out.2.resolve_left (by omega)
      have HC := Lib.hid hc
      have hcx := hc k hlt
      clear hc
      have VX := Lib.hid (show vX 5 xs k = false by simp [vX])
      go_wp2
      clear hcx
      go_loopw [8] (fun i wr => ∃ j : Nat, j ≤ xs.length ∧ i = .int .i64 j ∧ Hid (allTo (okY 5 xs k) j = true) ∧ Hid (Below w.heap.size w wr)) (fun i _ => xs.length - (intOf i).toNat)
      case atStart => exact ⟨0, Nat.zero_le _, rfl, Lib.hid rfl, B⟩
      case round =>
        obtain ⟨j, hj, rfl, AY, C⟩ := hrel
        by_cases hlty : j < xs.length
        case neg =>
          obtain rfl : j = xs.length := by omega
          go_wp2
          go_roundw
          case rel => exact ⟨k + 1, hlt, by go_num, Lib.hid (allTo_next AX.out (okX_ok VX.out AY.out)), C⟩
          case measure => simp [intOf]; omega
        case pos =>
          have CA := Lib.hid (H.out.keep C.out (Nat.le_refl _))
          obtain ⟨b, off, hae, hb2, hc⟩ := CA.out.2.resolve_left (by omega)
          cases hae
          have hcx := hc k hlt
          have hcy := hc j hlty
          clear hc
          cases hby : bitB (nth xs k) j
          case false =>
            have HBY := Lib.hid hby
            go_wp2_with (go_at_call 71; refine (l01Bit_any _ _ _ (by omega) (by omega)).mono ?_; rintro e w' ⟨rfl, rfl⟩)
            go_roundw
            case rel => exact ⟨j + 1, hlty, by go_num, Lib.hid (allTo_next AY.out (okY_no HBY.out)), C⟩
            case measure => simp [intOf]; omega
          case true =>
            have HBY := Lib.hid hby
            have VY := Lib.hid (show vY 5 xs k j = false by simp [vY])
            go_wp2_with (go_at_call 71; refine (l01Bit_any _ _ _ (by omega) (by omega)).mono ?_; rintro e w' ⟨rfl, rfl⟩)
            clear hcx hcy hby
            go_loopw [9] (fun i wr => ∃ l : Nat, l ≤ xs.length ∧ i = .int .i64 l ∧ Hid (allTo (okZ 5 xs k j) l = true) ∧ Hid (Below w.heap.size w wr)) (fun i _ => xs.length - (intOf i).toNat)
            case atStart => exact ⟨0, Nat.zero_le _, rfl, Lib.hid rfl, C⟩
            case round =>
              obtain ⟨l, hl, rfl, AZ, D⟩ := hrel
              by_cases hltz : l < xs.length
              case neg =>
                obtain rfl : l = xs.length := by omega
                go_wp2
                go_roundw
                case rel => exact ⟨j + 1, hlty, by go_num, Lib.hid (allTo_next AY.out (okY_ok VY.out AZ.out)), D⟩
                case measure => simp [intOf]; omega
              case pos =>
                have DA := Lib.hid (H.out.keep D.out (Nat.le_refl _))
                obtain ⟨b, off, hae, -, hc⟩ := DA.out.2.resolve_left (by omega)
                cases hae
                have hcx := hc k hlt
                have hcy := hc j hlty
                have hcz := hc l hltz
                clear hc
                cases hbz : bitB (nth xs k) l
                case false =>
                  have HBZ := Lib.hid hbz
                  go_wp2_with (go_at_call 71; refine (l01Bit_any _ _ _ (by omega) (by omega)).mono ?_; rintro e w' ⟨rfl, rfl⟩)
                  go_roundw
                  case rel => exact ⟨l + 1, hltz, by go_num, Lib.hid (allTo_next AZ.out (okZ_no HBZ.out)), D⟩
                  case measure => simp [intOf]; omega
                case true =>
                  have HBZ := Lib.hid hbz
                  cases hv : (bits .and .i64 (nth xs j) (nth xs l) == 0)
                  case true =>
                    have VZ := Lib.hid (show vZ 5 xs j l = true by simp [vZ]; simpa using hv)
                    go_wp2_with (go_at_call 71; refine (l01Bit_any _ _ _ (by omega) (by omega)).mono ?_; rintro e w' ⟨rfl, rfl⟩)
                    go_quiet (fail)
                    go_wp2
                    go_ret
                    exact ⟨ret_bool (flB_z hlt hlty hltz HBY.out HBZ.out VZ.out).symm, below_drewN D.out _⟩
                  case false =>
                    have VZ := Lib.hid (show vZ 5 xs j l = false by simp [vZ]; simpa using hv)
                    go_wp2_with (go_at_call 71; refine (l01Bit_any _ _ _ (by omega) (by omega)).mono ?_; rintro e w' ⟨rfl, rfl⟩)
                    go_quiet (fail)
                    go_wp2
                    go_roundw
                    case rel => exact ⟨l + 1, hltz, by go_num, Lib.hid (allTo_next AZ.out (okZ_ok VZ.out)), Lib.hid (below_drewN D.out _)⟩
                    case measure => simp [intOf]; omega

set_option maxHeartbeats 4000000 in
set_option maxRecDepth 100000 in
theorem flag6_any (xs : List Int) (a : Option Addr) (cap : Nat) (w : World) (h8 : xs.length ≤ 8) (hr : Rel xs.length (nth xs)) (h : At w a xs.length xs) :
    Calls Try.prog 58 #[.agg #[.int .i64 xs.length, .slice a xs.length cap], .int .i64 6] w fun e w' => e = .returned (.bool (flB 6 xs)) ∧ Below w.heap.size w w' := by
  have HB := Lib.hid (boxF (w := w) xs.length a xs.length cap)
  have H := Lib.hid h
  have HR := Lib.hid hr
  clear h hr
  go_enter Try.func58, Try.ntmps58
  go_wp2
  go_quiet (fail)
  go_wp2
  go_loopw [7] (fun i wr => ∃ k : Nat, k ≤ xs.length ∧ i = .int .i64 k ∧ Hid (allTo (okX 6 xs) k = true) ∧ Hid (Below w.heap.size w wr)) (fun i _ => xs.length - (intOf i).toNat)
  case atStart => exact ⟨0, Nat.zero_le _, rfl, Lib.hid rfl, Lib.hid (below_drewN HB.out _)⟩
  case round =>
    obtain ⟨k, hk, rfl, AX, B⟩ := hrel
    by_cases hlt : k < xs.length
    case neg =>
      obtain rfl : k = xs.length := by omega
      go_wp2
      go_ret
      exact ⟨ret_bool AX.out.symm, B.out⟩
    case pos =>
      have HA := Lib.hid (H.out.keep B.out (Nat.le_refl _))
      obtain ⟨b, off, rfl, hb, hc⟩ := HA.out.2.resolve_left (by omega)
      have HC := Lib.hid hc
      have hcx := hc k hlt
      clear hc
      have VX := Lib.hid (show vX 6 xs k = false by simp [vX])
      go_wp2
      clear hcx
      go_loopw [8] (fun i wr => ∃ j : Nat, j ≤ xs.length ∧ i = .int .i64 j ∧ Hid (allTo (okY 6 xs k) j = true) ∧ Hid (Below w.heap.size w wr)) (fun i _ => xs.length - (intOf i).toNat)
      case atStart => exact ⟨0, Nat.zero_le _, rfl, Lib.hid rfl, B⟩
      case round =>
        obtain ⟨j, hj, rfl, AY, C⟩ := hrel
        by_cases hlty : j < xs.length
        case neg =>
          obtain rfl : j = xs.length := by omega
          go_wp2
          go_roundw
          case rel => exact ⟨k + 1, hlt, by go_num, Lib.hid (allTo_next AX.out (okX_ok VX.out AY.out)), C⟩
          case measure => simp [intOf]; omega
        case pos =>
          have CA := Lib.hid (H.out.keep C.out (Nat.le_refl _))
          obtain ⟨b, off, hae, hb2, hc⟩ := CA.out.2.resolve_left (by omega)
          cases hae
          have hcx := hc k hlt
          have hcy := hc j hlty
          clear hc
          cases hby : bitB (nth xs k) j
          case false =>
            have HBY := Lib.hid hby
            go_wp2_with (go_at_call 71; refine (l01Bit_any _ _ _ (by omega) (by omega)).mono ?_; rintro e w' ⟨rfl, rfl⟩)
            go_roundw
            case rel => exact ⟨j + 1, hlty, by go_num, Lib.hid (allTo_next AY.out (okY_no HBY.out)), C⟩
            case measure => simp [intOf]; omega
          case true =>
            have HBY := Lib.hid hby
            have VY := Lib.hid (show vY 6 xs k j = false by simp [vY])
            go_wp2_with (go_at_call 71; refine (l01Bit_any _ _ _ (by omega) (by omega)).mono ?_; rintro e w' ⟨rfl, rfl⟩)
            clear hcx hcy hby
            go_loopw [9] (fun i wr => ∃ l : Nat, l ≤ xs.length ∧ i = .int .i64 l ∧ Hid (allTo (okZ 6 xs k j) l = true) ∧ Hid (Below w.heap.size w wr)) (fun i _ => xs.length - (intOf i).toNat)
            case atStart => exact ⟨0, Nat.zero_le _, rfl, Lib.hid rfl, C⟩
            case round =>
              obtain ⟨l, hl, rfl, AZ, D⟩ := hrel
              by_cases hltz : l < xs.length
              case neg =>
                obtain rfl : l = xs.length := by omega
                go_wp2
                go_roundw
                case rel => exact ⟨j + 1, hlty, by go_num, Lib.hid (allTo_next AY.out (okY_ok VY.out AZ.out)), D⟩
                case measure => simp [intOf]; omega
              case pos =>
                have DA := Lib.hid (H.out.keep D.out (Nat.le_refl _))
                obtain ⟨b, off, hae, -, hc⟩ := DA.out.2.resolve_left (by omega)
                cases hae
                have hcx := hc k hlt
                have hcy := hc j hlty
                have hcz := hc l hltz
                clear hc
                cases hbz : bitB (nth xs k) l
                case false =>
                  have HBZ := Lib.hid hbz
                  go_wp2_with (go_at_call 71; refine (l01Bit_any _ _ _ (by omega) (by omega)).mono ?_; rintro e w' ⟨rfl, rfl⟩)
                  go_roundw
                  case rel => exact ⟨l + 1, hltz, by go_num, Lib.hid (allTo_next AZ.out (okZ_no HBZ.out)), D⟩
                  case measure => simp [intOf]; omega
                case true =>
                  have HBZ := Lib.hid hbz
                  cases hv : bitB (nth xs j) l
                  case true =>
                    have VZ := Lib.hid (show vZ 6 xs j l = false by simp [vZ, hv])
                    go_wp2_with (go_at_call 71; refine (l01Bit_any _ _ _ (by omega) (by omega)).mono ?_; rintro e w' ⟨rfl, rfl⟩)
                    go_quiet ((go_at_call 71; exact q_same (l01Bit_any _ _ _ (by omega) (by omega)) rfl))
                    go_wp2
                    go_roundw
                    case rel => exact ⟨l + 1, hltz, by go_num, Lib.hid (allTo_next AZ.out (okZ_ok VZ.out)), Lib.hid (below_drewN D.out _)⟩
                    case measure => simp [intOf]; omega
                  case false =>
                    cases hu : bitB (nth xs l) j
                    case true =>
                      have VZ := Lib.hid (show vZ 6 xs j l = false by simp [vZ, hu])
                      go_wp2_with (go_at_call 71; refine (l01Bit_any _ _ _ (by omega) (by omega)).mono ?_; rintro e w' ⟨rfl, rfl⟩)
                      go_quiet ((go_at_call 71; exact q_same (l01Bit_any _ _ _ (by omega) (by omega)) rfl))
                      go_wp2
                      go_roundw
                      case rel => exact ⟨l + 1, hltz, by go_num, Lib.hid (allTo_next AZ.out (okZ_ok VZ.out)), Lib.hid (below_drewN D.out _)⟩
                      case measure => simp [intOf]; omega
                    case false =>
                      have VZ := Lib.hid (show vZ 6 xs j l = true by simp [vZ, hv, hu])
                      go_wp2_with (go_at_call 71; refine (l01Bit_any _ _ _ (by omega) (by omega)).mono ?_; rintro e w' ⟨rfl, rfl⟩)
                      go_quiet ((go_at_call 71; exact q_same (l01Bit_any _ _ _ (by omega) (by omega)) rfl))
                      go_wp2
                      go_ret
                      exact ⟨ret_bool (flB_z hlt hlty hltz HBY.out HBZ.out VZ.out).symm, below_drewN D.out _⟩

end Go.Proofs.Ytbaeacppojpplaa
