/- Contracts of the model's small functions of chapter 7 over links and masks. Conditions: those in the theorems. -/
import Derived.Test.YthopleeehbkjaaaSiM
namespace Go.Proofs.Ythopleeehbkjaaa
open Go.RowKit

theorem foB_false {ls : List Int} {s o : Int} {k l : Nat} (hk : k ≤ l) (h : foB ls s o k = false) : foB ls s o l = false := by
  induction l with
  | zero => simp at hk; subst hk; exact h
  | succ l ih =>
    by_cases e : k = l + 1
    · subst e; exact h
    · rw [foB, ih (by omega)]; rfl
theorem insB_false {us vs : List Int} {k l : Nat} (hk : k ≤ l) (h : insB us vs k = false) : insB us vs l = false := by
  induction l with
  | zero => simp at hk; subst hk; exact h
  | succ l ih =>
    by_cases e : k = l + 1
    · subst e; exact h
    · rw [insB, ih (by omega)]; rfl

set_option maxHeartbeats 400000 in
theorem l07Forth_any (ls : List Int) (s o : Int) (a : Option Addr) (len cap : Nat) (w : World) (hl : len ≤ 30) (h : At w a len ls) :
    Calls Try.prog 101 #[.slice a len cap, .int .i64 s, .int .i64 o] w fun e w' => e = .returned (.bool (foB ls s o len)) ∧ w = w' := by
  have H := Lib.hid h
  clear h
  go_enter Try.func101, Try.ntmps101
  go_wp2
  go_loop [7] (fun i => ∃ k : Nat, k ≤ len ∧ i = .int .i64 k ∧ foB ls s o k = true) (fun i => len - (intOf i).toNat)
  case atStart => exact ⟨0, Nat.zero_le _, rfl, rfl⟩
  case round =>
    obtain ⟨k, hk, rfl, hm⟩ := hrel
    have HM := Lib.hid hm
    clear hm
    by_cases hlt : k < len
    · obtain ⟨b, off, rfl, hb, hc⟩ := H.out.2.resolve_left (by omega)
      have hcell := hc k hlt
      clear hc
      cases hbit : bitB s k
      · have HB := Lib.hid hbit
        go_wp2_with (go_at_call 94; refine (l01Bit_any _ _ _ (by omega) (by omega)).mono ?_; rintro e w' ⟨rfl, rfl⟩)
        go_round
        case rel => exact ⟨k + 1, hlt, by go_num, by rw [foB, HM.out, HB.out]; rfl⟩
        case measure => simp [intOf]; omega
      · have HB := Lib.hid hbit
        cases hz : (bits .and .i64 (nth ls k) o == 0)
        · have HZ := Lib.hid hz
          go_wp2_with (go_at_call 94; refine (l01Bit_any _ _ _ (by omega) (by omega)).mono ?_; rintro e w' ⟨rfl, rfl⟩)
          go_round
          case rel => exact ⟨k + 1, hlt, by go_num, by rw [foB, HM.out, HB.out, HZ.out]; rfl⟩
          case measure => simp [intOf]; omega
        · have HZ := Lib.hid hz
          go_wp2_with (go_at_call 94; refine (l01Bit_any _ _ _ (by omega) (by omega)).mono ?_; rintro e w' ⟨rfl, rfl⟩)
          go_ret
          exact ⟨ret_bool (foB_false (k := k + 1) hlt (by rw [foB, HM.out, HB.out, HZ.out]; rfl)).symm, rfl⟩
    · obtain rfl : k = len := by omega
      go_wp2
      go_ret
      exact ⟨ret_bool HM.out.symm, rfl⟩

set_option maxHeartbeats 400000 in
theorem l07Inside_any (us vs : List Int) (a a' : Option Addr) (len len' cap cap' : Nat) (w : World) (hl : len ≤ 1048576) (hll : len ≤ len') (h : At w a len us) (h' : At w a' len' vs) :
    Calls Try.prog 59 #[.slice a len cap, .slice a' len' cap'] w (SomeDrew w fun e => e = .returned (.bool (insB us vs len))) := by
  have H := Lib.hid h
  have H' := Lib.hid h'
  clear h h'
  go_enter Try.func59, Try.ntmps59
  go_wp2
  go_loopw [5] (fun i wr => ∃ k q : Nat, k ≤ len ∧ i = .int .i64 k ∧ insB us vs k = true ∧ wr = w.drewN q) (fun i _ => len - (intOf i).toNat)
  case atStart => exact ⟨0, 0, Nat.zero_le _, rfl, rfl, rfl⟩
  case round =>
    obtain ⟨k, q, hk, rfl, hm, rfl⟩ := hrel
    have HM := Lib.hid hm
    clear hm
    by_cases hlt : k < len
    · obtain ⟨b, off, rfl, hb, hc⟩ := H.out.2.resolve_left (by omega)
      have hcell := hc k hlt
      obtain ⟨b', off', rfl, hb', hc'⟩ := H'.out.2.resolve_left (by omega)
      have hlt2 : k < len' := by omega
      have hcell2 := hc' k hlt2
      clear hc hc'
      cases hz : (bits .andNot .i64 (nth us k) (nth vs k) == 0)
      all_goals
        have hz2 : (bits .andNot .i64 (nth us k) (nth vs k) != 0) = !(bits .andNot .i64 (nth us k) (nth vs k) == 0) := rfl
        rw [hz] at hz2
        have HZ := Lib.hid hz
        clear hz
        go_wp2
        go_quiet (fail)
        go_wp2
        first
        | (go_ret
           exact ⟨ret_bool (insB_false (k := k + 1) hlt (by rw [insB, HM.out, HZ.out]; rfl)).symm, q + nq, by rw [World.drewN_drewN]⟩)
        | (go_roundw
           case rel => exact ⟨k + 1, _, hlt, by go_num, by rw [insB, HM.out, HZ.out]; rfl, rfl⟩
           case measure => simp [intOf]; omega)
    · obtain rfl : k = len := by omega
      go_wp2
      go_ret
      exact ⟨ret_bool HM.out.symm, _, rfl⟩

end Go.Proofs.Ythopleeehbkjaaa
