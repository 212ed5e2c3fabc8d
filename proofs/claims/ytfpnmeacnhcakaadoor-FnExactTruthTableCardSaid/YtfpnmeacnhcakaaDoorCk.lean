/- The checks of arguments that have to be plain formulas, of the model and of the program. Conditions: those in the theorems. -/
import Derived.Test.YtfpnmeacnhcakaaDoorAreF
import Derived.Test.YtfpnmeacnhcakaaDoorPlain
namespace Go.Proofs.YtfpnmeacnhcakaaDoor
open Go.RowKit

def plAll (xss : List (List Nd)) (n : Nat) : Bool := (List.range n).all fun i => plTo (nthL xss i) (nthL xss i).length
theorem plAll_at {xss : List (List Nd)} {j i : Nat} (h : plAll xss j = true) (hi : i < j) : plTo (nthL xss i) (nthL xss i).length = true := List.all_eq_true.1 h i (List.mem_range.2 hi)
theorem plAll_succ {xss : List (List Nd)} {j : Nat} (h : plAll xss j = true) (hi : plTo (nthL xss j) (nthL xss j).length = true) : plAll xss (j + 1) = true := by
  rw [plAll, List.range_succ, List.all_append, Bool.and_eq_true]
  exact ⟨h, by simp [hi]⟩
theorem plAll_bad {xss : List (List Nd)} {n j : Nat} (h : j < n) (hi : plTo (nthL xss j) (nthL xss j).length = false) : plAll xss n = false := by
  cases e : plAll xss n with
  | false => rfl
  | true => rw [plAll_at e h] at hi; cases hi
/-- The error of lists that have to be plain formulas; of one. -/
def ckA (xss : List (List Nd)) (n : Nat) : Int := if okAll xss n then (if plAll xss n then 0 else 5) else 1
def ck (xs : List Nd) : Int := if isB xs xs.length then (if plTo xs xs.length then 0 else 5) else 1
theorem ckA_1 (xs : List Nd) : ckA [xs] 1 = ck xs := by rw [ckA, okAll_1, ck]; simp [plAll, nthL]
theorem ckA_bad {xss : List (List Nd)} {n j : Nat} (h : j < n) (hi : isB (nthL xss j) (nthL xss j).length = false) : ckA xss n = 1 := by rw [ckA, okAll_bad h hi]; rfl
theorem ckA_not {xss : List (List Nd)} {n j : Nat} (hk : okAll xss n = true) (h : j < n) (hi : plTo (nthL xss j) (nthL xss j).length = false) : ckA xss n = 5 := by rw [ckA, hk, plAll_bad h hi]; rfl
theorem ckA_good {xss : List (List Nd)} {n : Nat} (hk : okAll xss n = true) (hp : plAll xss n = true) : ckA xss n = 0 := by rw [ckA, hk, hp]; rfl
theorem ck_good {xs : List Nd} (h : ck xs = 0) : isB xs xs.length = true ∧ plTo xs xs.length = true := by
  unfold ck at h
  split at h
  · split at h
    · exact ⟨by assumption, by assumption⟩
    · cases h
  · cases h

set_option maxHeartbeats 1000000 in
theorem l04Code_any (xss : List (List Nd)) (a : Option Addr) (len cap : Nat) (w : World) (hl : len ≤ 2097152) (hi : ∀ j, j < len → (nthL xss j).length ≤ 1048576) (h : AtNN w a len xss) :
    Calls Tryd.prog 31 #[.slice a len cap] w fun e w' => e = .returned (.int .i64 (ckA xss len)) ∧ w = w' := by
  have H := Lib.hid h
  have LI := Lib.hid hi
  clear h hi
  go_enter Tryd.func31, Tryd.ntmps31
  go_wp2
  go_loop [3] (fun i => ∃ j : Nat, j ≤ len ∧ i = .int .i64 j ∧ Hid (okAll xss j = true)) (fun i => len - (intOf i).toNat)
  case atStart => exact ⟨0, Nat.zero_le _, rfl, (show _ = _ from rfl)⟩
  case round =>
    obtain ⟨j, hj, rfl, hok⟩ := hrel
    by_cases hlt : j < len
    · obtain ⟨b, off, rfl, hb, hc⟩ := H.out.2.resolve_left (by omega)
      obtain ⟨a1, cap1, hc1, hat1⟩ := hc j hlt
      have hn3 := LI.out j hlt
      obtain ⟨n, hn⟩ : ∃ n, n = (nthL xss j).length := ⟨_, rfl⟩
      rw [← hn] at hc1 hat1 hn3
      have N := Lib.hid hn
      have A1 := Lib.hid hat1
      clear hc hat1 hn
      cases hbb : isB (nthL xss j) n
      · have BB := Lib.hid hbb
        have E := Lib.hid (ckA_bad hlt (show isB (nthL xss j) (nthL xss j).length = false by rw [← N.out]; exact hbb))
        clear hbb
        go_wp2_with (go_at_call 50; refine (l02Is_any _ _ _ _ _ hn3 A1.out).mono ?_; rw [BB.out]; rintro e w' ⟨rfl, rfl⟩)
        go_ret
        exact ⟨ret_int E.out.symm, rfl⟩
      · have BB := Lib.hid hbb
        have OK := Lib.hid (okAll_succ hok.out (show isB (nthL xss j) (nthL xss j).length = true by rw [← N.out]; exact hbb))
        clear hbb
        go_wp2_with (go_at_call 50; refine (l02Is_any _ _ _ _ _ hn3 A1.out).mono ?_; rw [BB.out]; rintro e w' ⟨rfl, rfl⟩)
        go_round
        case rel => exact ⟨j + 1, hlt, by go_num, OK⟩
        case measure => simp [intOf]; omega
    · obtain rfl : j = len := by omega
      have OKA := Lib.hid hok.out
      clear hok
      go_wp2
      go_loop [4] (fun i => ∃ k : Nat, k ≤ j ∧ i = .int .i64 k ∧ Hid (plAll xss k = true)) (fun i => j - (intOf i).toNat)
      case atStart => exact ⟨0, Nat.zero_le _, rfl, (show _ = _ from rfl)⟩
      case round =>
        obtain ⟨k, hk, rfl, hpl⟩ := hrel
        by_cases hlt2 : k < j
        · obtain ⟨b, off, rfl, hb, hc⟩ := H.out.2.resolve_left (by omega)
          obtain ⟨a1, cap1, hc1, hat1⟩ := hc k hlt2
          have hn3 := LI.out k hlt2
          obtain ⟨n, hn⟩ : ∃ n, n = (nthL xss k).length := ⟨_, rfl⟩
          rw [← hn] at hc1 hat1 hn3
          have N := Lib.hid hn
          have A1 := Lib.hid hat1
          clear hc hat1 hn
          cases hbb : plTo (nthL xss k) n
          · have BB := Lib.hid hbb
            have E := Lib.hid (ckA_not OKA.out hlt2 (show plTo (nthL xss k) (nthL xss k).length = false by rw [← N.out]; exact hbb))
            clear hbb
            go_wp2_with (go_at_call 51; refine (l02Plain_any _ _ _ _ _ hn3 A1.out).mono ?_; rw [BB.out]; rintro e w' ⟨rfl, rfl⟩)
            go_ret
            exact ⟨ret_int E.out.symm, rfl⟩
          · have BB := Lib.hid hbb
            have OK := Lib.hid (plAll_succ hpl.out (show plTo (nthL xss k) (nthL xss k).length = true by rw [← N.out]; exact hbb))
            clear hbb
            go_wp2_with (go_at_call 51; refine (l02Plain_any _ _ _ _ _ hn3 A1.out).mono ?_; rw [BB.out]; rintro e w' ⟨rfl, rfl⟩)
            go_round
            case rel => exact ⟨k + 1, hlt2, by go_num, OK⟩
            case measure => simp [intOf]; omega
        · obtain rfl : k = j := by omega
          have E := Lib.hid (ckA_good OKA.out hpl.out)
          clear hpl
          go_wp2
          go_ret
          exact ⟨ret_int E.out.symm, rfl⟩

set_option maxHeartbeats 1000000 in
theorem checkPlain_any (xss : List (List Nd)) (a : Option Addr) (len cap : Nat) (w : World) (hl : len ≤ 2097152) (hi : ∀ j, j < len → (nthL xss j).length ≤ 1048576) (h : AtNN w a len xss) :
    Calls Tryd.prog 48 #[.slice a len cap] w fun e w' => e = .returned (.int .i64 (ckA xss len)) ∧ Below w.heap.size w w' := by
  have H := Lib.hid h
  have LI := Lib.hid hi
  clear h hi
  cases hok : okAll xss len
  · have E := Lib.hid (show ckA xss len = 1 by rw [ckA, hok]; rfl)
    have OK := Lib.hid hok
    clear hok
    go_enter Tryd.func48, Tryd.ntmps48
    go_wp2_with fail
    refine (areF_any _ _ _ _ _ hl LI.out H.out).mono ?_
    rw [OK.out]
    rintro e w1 ⟨rfl, hb1⟩
    go_wp2
    go_ret
    exact ⟨ret_int E.out.symm, hb1⟩
  · have OKA := Lib.hid hok
    clear hok
    go_enter Tryd.func48, Tryd.ntmps48
    go_wp2_with fail
    refine (areF_any _ _ _ _ _ hl LI.out H.out).mono ?_
    rw [OKA.out]
    rintro e w1 ⟨rfl, hb1⟩
    have B1 := Lib.hid hb1
    clear hb1
    go_wp2
    go_loopw [12] (fun i wr => ∃ j : Nat, j ≤ len ∧ i = .int .i64 j ∧ Hid (plAll xss j = true) ∧ Below w.heap.size w wr) (fun i _ => len - (intOf i).toNat)
    case atStart => exact ⟨0, Nat.zero_le _, rfl, (show _ = _ from rfl), B1.out⟩
    case round =>
      obtain ⟨j, hj, rfl, hpl, hbel⟩ := hrel
      have B := Lib.hid hbel
      clear hbel
      by_cases hlt : j < len
      · obtain ⟨b, off, rfl, hb, hc⟩ := H.out.2.resolve_left (by omega)
        obtain ⟨a1, cap1, hc0, hat1⟩ := hc j hlt
        have hc1 : wr.cell? ⟨b, off + j, none⟩ = some (.slice a1 (nthL xss j).length cap1) := (B.out.cell (p := ⟨b, off + j, none⟩) hb).trans hc0
        have hn3 := LI.out j hlt
        obtain ⟨r, hr⟩ : ∃ r, r = plR (nthL xss j) := ⟨_, rfl⟩
        have R := Lib.hid hr
        have A1 := Lib.hid (hat1.keep B.out (Nat.le_refl _))
        have PR := Lib.hid (show plR (nthL xss j) = plTo (nthL xss j) (nthL xss j).length from (plain_good (okAll_at OKA.out hlt)).1)
        clear hc hc0 hat1 hr
        cases r
        · have E := Lib.hid (ckA_not OKA.out hlt (by rw [← PR.out]; exact R.out.symm))
          go_wp2_with fail
          refine (implIsPlain_at _ _ _ _ hn3 A1.out).mono ?_
          rw [← R.out]
          rintro e w2 ⟨rfl, hb2⟩
          have B2 := Lib.hid (B.out.trans (hb2.mono B.out.size))
          clear hb2
          go_wp2
          go_ret
          exact ⟨ret_int E.out.symm, B2.out⟩
        · have OK := Lib.hid (plAll_succ hpl.out (by rw [← PR.out]; exact R.out.symm))
          go_wp2_with fail
          refine (implIsPlain_at _ _ _ _ hn3 A1.out).mono ?_
          rw [← R.out]
          rintro e w2 ⟨rfl, hb2⟩
          have B2 := Lib.hid (B.out.trans (hb2.mono B.out.size))
          clear hb2
          go_wp2
          go_roundw
          case rel => exact ⟨j + 1, hlt, by go_num, OK, B2.out⟩
          case measure => simp [intOf]; omega
      · obtain rfl : j = len := by omega
        have E := Lib.hid (ckA_good OKA.out hpl.out)
        clear hpl
        go_wp2
        go_ret
        exact ⟨ret_int E.out.symm, B.out⟩

theorem ck1_any (xs : List Nd) (a : Option Addr) (len cap C : Nat) (w : World) (hl : len ≤ 1048576) (h : AtN w a len xs) (t : TypeId) (hC : C = w.heap.size) :
    Calls Tryd.prog 48 #[.slice (some ⟨C, 0, none⟩) 1 1] (w.alloc (.cells #[.slice a len cap] t)) fun e w' => e = .returned (.int .i64 (ck xs)) ∧ Below w.heap.size w w' := by
  refine (checkPlain_any [xs] _ 1 1 _ (by omega) (nthL_le1 (by rw [← h.1]; exact hl)) (lay1 h t hC)).mono ?_
  rintro e w' ⟨rfl, hb⟩
  have b0 : Below w.heap.size w (w.alloc (.cells #[.slice a len cap] t)) := (Below.refl _ _).alloc (Nat.le_refl _) _
  exact ⟨by rw [ckA_1], b0.trans (hb.mono b0.size)⟩
theorem code1_any (xs : List Nd) (a : Option Addr) (len cap C : Nat) (w : World) (hl : len ≤ 1048576) (h : AtN w a len xs) (t : TypeId) (hC : C = w.heap.size) :
    Calls Tryd.prog 31 #[.slice (some ⟨C, 0, none⟩) 1 1] (w.alloc (.cells #[.slice a len cap] t)) fun e w' => e = .returned (.int .i64 (ck xs)) ∧ Below w.heap.size w w' := by
  refine (l04Code_any [xs] _ 1 1 _ (by omega) (nthL_le1 (by rw [← h.1]; exact hl)) (lay1 h t hC)).mono ?_
  rintro e w' ⟨rfl, rfl⟩
  exact ⟨by rw [ckA_1], (Below.refl _ _).alloc (Nat.le_refl _) _⟩

end Go.Proofs.YtfpnmeacnhcakaaDoor
