/- ClassicalEntails of the model and of the program. Conditions: the package's table for the program, and those in the theorems. -/
import Derived.Test.YtfpnmeacnhcakaaDoorEnM
import Derived.Test.YtfpnmeacnhcakaaDoorFs
import Derived.Test.YtfpnmeacnhcakaaDoorRow
namespace Go.Proofs.YtfpnmeacnhcakaaDoor
open Go.RowKit

set_option maxHeartbeats 2000000 in
theorem l04Entails_any (xss : List (List Nd)) (f : Fm) (hg : ∀ j, j < xss.length → ck (nthL xss j) = 0) (hf : f.ok) (hp : f.pl) (a : Option Addr) (len cap b off m c : Nat) (w : World) (hl : len ≤ 1048576) (hm : m ≤ 1048576) (h : AtNC w a len xss) (h' : AtF w b off m c f) :
    Calls Tryd.prog 47 #[.slice a len cap, .slice (some ⟨b, off, none⟩) m c] w fun e w' => e = .returned (.bool (enTo xss f 64)) ∧ w = w' := by
  have V := Lib.hid (l04Value_any f hf hp)
  have H := Lib.hid h
  have F := Lib.hid h'
  have HG := Lib.hid hg
  have LEN := Lib.hid h.1
  clear h h' hg hf hp
  go_enter Tryd.func47, Tryd.ntmps47
  go_wp2
  go_loop [5] (fun i => ∃ r : Nat, r ≤ 64 ∧ i = .int .i64 r ∧ Hid (enTo xss f r = true)) (fun i => 64 - (intOf i).toNat)
  case atStart => exact ⟨0, Nat.zero_le _, rfl, (show _ = _ from rfl)⟩
  case round =>
    obtain ⟨r, hr, rfl, hen⟩ := hrel
    by_cases hrl : r < 64
    · have VV := Lib.hid (V.out r b off m c w hrl hm F.out)
      go_wp2
      go_loop [6, 7] (fun x i => ∃ j : Nat, j ≤ len ∧ i = .int .i64 j ∧ x = .bool (alTo xss r j)) (fun _ i => len - (intOf i).toNat)
      case atStart => exact ⟨0, Nat.zero_le _, rfl, rfl⟩
      case round =>
        obtain ⟨j, hj, rfl, rfl⟩ := hrel
        cases hal : alTo xss r j
        · have N := Lib.hid (enTo_skip hen.out (by rw [← LEN.out]; exact alTo_false hj hal))
          clear hal
          by_cases hlt : j < len
          · go_wp2
            go_round
            case rel => exact ⟨r + 1, hrl, by go_num, N⟩
            case measure => simp [intOf]; omega
          · go_wp2
            go_round
            case rel => exact ⟨r + 1, hrl, by go_num, N⟩
            case measure => simp [intOf]; omega
        · by_cases hlt : j < len
          · obtain ⟨b1, off1, rfl⟩ : ∃ b1 off1, a = some ⟨b1, off1, none⟩ := by
              obtain ⟨-, us, -, h3⟩ := H.out
              obtain ⟨b1, off1, ha, -⟩ := h3.resolve_left (by omega)
              exact ⟨b1, off1, ha⟩
            obtain ⟨hb1, a2, c2, hc, hat2, hc1, hc2⟩ := H.out.at hlt
            have hck := HG.out j (by rw [← LEN.out]; exact hlt)
            obtain ⟨b2, off2, rfl, hf2, f1, f4, h40⟩ := plain_at hck hat2 hc1 hc2
            have N := Lib.hid (alTo_next hal)
            have VP := Lib.hid (l04Value_any _ f1 f4 r b2 off2 _ c2 w hrl (by omega) hf2)
            have hln : (nthL xss j).length ≤ 40 := h40
            generalize (nthL xss j).length = n2 at hc hc1 VP hln
            clear hal hat2 hck hf2 f1 f4 h40 hc1 hc2
            rw [← N.out] at VP
            go_wp2_with fail
            refine VP.out.mono ?_
            rintro e w' ⟨rfl, rfl⟩
            go_wp2
            go_round
            case rel => exact ⟨j + 1, hlt, by go_num, rfl⟩
            case measure => simp [intOf]; omega
          · obtain rfl : j = len := by omega
            have A := Lib.hid (show alTo xss r xss.length = true by rw [← LEN.out]; exact hal)
            clear hal
            cases hev : f.ev r
            · have N := Lib.hid (enTo_no hrl A.out hev)
              rw [hev] at VV
              clear hev
              go_wp2_with fail
              refine VV.out.mono ?_
              rintro e w' ⟨rfl, rfl⟩
              go_wp2
              go_ret
              exact ⟨ret_bool N.out.symm, rfl⟩
            · have N := Lib.hid (enTo_yes hen.out hev)
              rw [hev] at VV
              clear hev
              go_wp2_with fail
              refine VV.out.mono ?_
              rintro e w' ⟨rfl, rfl⟩
              go_wp2
              go_round
              case rel => exact ⟨r + 1, hrl, by go_num, N⟩
              case measure => simp [intOf]; omega
    · obtain rfl : r = 64 := by omega
      have N := Lib.hid hen.out
      clear hen
      go_wp2
      go_ret
      exact ⟨ret_bool N.out.symm, rfl⟩

end Go.Proofs.YtfpnmeacnhcakaaDoor
