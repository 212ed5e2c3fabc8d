/- Contracts of IsPlain of the model and of the program, at every list of nodes. Conditions: those in the theorems. -/
import Derived.Test.YtfpnmeacnhcakaaDoorPart
namespace Go.Proofs.YtfpnmeacnhcakaaDoor
open Go.RowKit

def mdB (k : Int) : Bool := k == 5 || k == 6
def plTo (xs : List Nd) : Nat → Bool
  | 0 => true
  | k + 1 => plTo xs k && !mdB (kd xs k)
theorem pl_false {xs : List Nd} {k len : Nat} (h : plTo xs k = false) (hk : k ≤ len) : plTo xs len = false := by
  induction len with
  | zero => have : k = 0 := by omega
            subst this; exact h
  | succ l ih =>
    by_cases e : k = l + 1
    · subst e; exact h
    · rw [plTo, ih (by omega)]; rfl
theorem pl_bad {xs : List Nd} {k len : Nat} (h : mdB (kd xs k) = true) (hk : k < len) : plTo xs len = false := by
  refine pl_false (k := k + 1) ?_ hk
  rw [plTo, h]; simp
theorem pl_step {xs : List Nd} {k : Nat} (h : plTo xs k = true) (h2 : mdB (kd xs k) = false) : plTo xs (k + 1) = true := by rw [plTo, h, h2]; rfl

set_option maxHeartbeats 1000000 in
theorem l02Plain_any (xs : List Nd) (a : Option Addr) (len cap : Nat) (w : World) (hl : len ≤ 1048576) (h : AtN w a len xs) :
    Calls Tryd.prog 51 #[.slice a len cap] w fun e w' => e = .returned (.bool (plTo xs len)) ∧ w = w' := by
  have H := Lib.hid h
  clear h
  go_enter Tryd.func51, Tryd.ntmps51
  go_wp2
  go_loop [3] (fun i => ∃ k : Nat, k ≤ len ∧ i = .int .i64 k ∧ plTo xs k = true) (fun i => len - (intOf i).toNat)
  case atStart => exact ⟨0, Nat.zero_le _, rfl, rfl⟩
  case round =>
    obtain ⟨k, hk, rfl, hp⟩ := hrel
    have HP := Lib.hid hp
    clear hp
    by_cases hlt : k < len
    · obtain ⟨b, off, rfl, hb, hc⟩ := H.out.2.resolve_left (by omega)
      obtain ⟨x, hx⟩ : ∃ x, x = kd xs k := ⟨_, rfl⟩
      have hc1 := (hc k hlt).1
      rw [← hx] at hc1
      clear hc
      have HX := Lib.hid hx
      clear hx
      cases h5 : (x == 5)
      · cases h6 : (x == 6)
        · have HS := Lib.hid (pl_step HP.out (show mdB (kd xs k) = false by rw [← HX.out, mdB, h5, h6]; rfl))
          go_wp2
          go_round
          case rel => exact ⟨k + 1, hlt, by go_num, HS.out⟩
          case measure => simp [intOf]; omega
        · have HS := Lib.hid (pl_bad (show mdB (kd xs k) = true by rw [← HX.out, mdB, h5, h6]; rfl) hlt)
          go_wp2
          go_ret
          exact ⟨ret_bool HS.out.symm, rfl⟩
      · have HS := Lib.hid (pl_bad (show mdB (kd xs k) = true by rw [← HX.out, mdB, h5]; rfl) hlt)
        go_wp2
        go_ret
        exact ⟨ret_bool HS.out.symm, rfl⟩
    · obtain rfl : k = len := by omega
      go_wp2
      go_ret
      exact ⟨ret_bool HP.out.symm, rfl⟩

def plR (xs : List Nd) : Bool := isB xs xs.length && plTo xs xs.length
def plC (xs : List Nd) : Int := if isB xs xs.length then 0 else 1
theorem plain_bad {xs : List Nd} (h : isB xs xs.length = false) : plR xs = false ∧ plC xs = 1 := by unfold plR plC; rw [h]; exact ⟨rfl, rfl⟩
theorem plain_good {xs : List Nd} (h : isB xs xs.length = true) : plR xs = plTo xs xs.length ∧ plC xs = 0 := by unfold plR plC; rw [h]; exact ⟨rfl, rfl⟩

set_option maxHeartbeats 1000000 in
theorem implIsPlain_at (x0 : List Nd) (a : Option Addr) (cap : Nat) (w : World) (hl : x0.length ≤ 1048576) (hat : AtN w a x0.length x0) :
    Calls Tryd.prog 60 #[.slice a x0.length cap] w fun e w' => e = .returned (.tuple #[.bool (plR x0), .int .i64 (plC x0)]) ∧ Below w.heap.size w w' := by
  have H := Lib.hid hat
  clear hat
  cases hb : isB x0 x0.length
  · obtain ⟨e1, e2⟩ := plain_bad hb
    rw [e1, e2]
    have HB := Lib.hid hb
    clear hb e1 e2
    go_enter Tryd.func60, Tryd.ntmps60
    go_wp2_with (go_at_call 56; refine (implIsF_any _ _ _ _ _ hl H.out).mono ?_; rw [HB.out]; rintro e w' ⟨rfl, hb⟩)
    go_ret2
    exact ⟨rfl, hb⟩
  · obtain ⟨e1, e2⟩ := plain_good hb
    rw [e1, e2]
    have HB := Lib.hid hb
    clear hb e1 e2
    obtain ⟨len, hlen⟩ : ∃ len, len = x0.length := ⟨_, rfl⟩
    rw [← hlen] at H HB hl ⊢
    clear hlen
    go_enter Tryd.func60, Tryd.ntmps60
    go_wp2_with fail
    refine (implIsF_any _ _ _ _ _ hl H.out).mono ?_
    rw [HB.out]
    rintro e w0 ⟨rfl, hb0⟩
    go_wp2
    go_loopw [11] (fun i wr => ∃ k : Nat, k ≤ len ∧ i = .int .i64 k ∧ plTo x0 k = true ∧ Below w.heap.size w wr) (fun i _ => len - (intOf i).toNat)
    case atStart => exact ⟨0, Nat.zero_le _, rfl, rfl, hb0⟩
    case round =>
      obtain ⟨k, hk, rfl, hp, hbel⟩ := hrel
      have HP := Lib.hid hp
      have BL := Lib.hid hbel
      clear hp hb0
      by_cases hlt : k < len
      · obtain ⟨b, off, rfl, hb, hc⟩ := H.out.2.resolve_left (by omega)
        have hc1 : wr.cell? ⟨b, off + k * 2, none⟩ = some (.int .i64 (kd x0 k)) := (hbel.cell (p := ⟨b, off + k * 2, none⟩) hb).trans (hc k hlt).1
        have hc2 : wr.cell? ⟨b, off + k * 2 + 1, none⟩ = some (.int .i64 (sy x0 k)) := (hbel.cell (p := ⟨b, off + k * 2 + 1, none⟩) hb).trans (hc k hlt).2
        clear hc
        have ba := Lib.hid (hbel.alloc hbel.size (.cells #[.int .i64 (kd x0 k), .int .i64 (sy x0 k)] 52))
        clear hbel
        cases hm : mdB (kd x0 k)
        · have HS := Lib.hid (pl_step HP.out hm)
          have HM : Hid ((kd x0 k == 5 || kd x0 k == 6) = false) := hm
          clear hm
          go_wp2_with (go_at_call 70; refine (isModal_any _ _).mono ?_; rw [HM.out]; rintro e w' ⟨rfl, rfl⟩)
          go_roundw
          case rel => exact ⟨k + 1, hlt, by go_num, HS.out, ba.out⟩
          case measure => simp [intOf]; omega
        · have HS := Lib.hid (pl_bad hm hlt)
          have HM : Hid ((kd x0 k == 5 || kd x0 k == 6) = true) := hm
          clear hm
          go_wp2_with (go_at_call 70; refine (isModal_any _ _).mono ?_; rw [HM.out]; rintro e w' ⟨rfl, rfl⟩)
          go_ret2
          exact ⟨by rw [HS.out]; rfl, ba.out⟩
      · obtain rfl : k = len := by omega
        clear hbel
        go_wp2
        go_ret2
        exact ⟨by rw [HP.out]; rfl, BL.out⟩

theorem implIsPlain_v (x0 : List Nd) (v : Value) (lo hi : Nat) (w : World) (hl : x0.length ≤ 1048576) (h : InN w lo hi v x0) :
    Calls Tryd.prog 60 #[v] w fun e w' => e = .returned (.tuple #[.bool (plR x0), .int .i64 (plC x0)]) ∧ Below w.heap.size w w' := by
  obtain ⟨a, cap, rfl, hat⟩ := h.at
  exact implIsPlain_at x0 a cap w hl hat

end Go.Proofs.YtfpnmeacnhcakaaDoor
