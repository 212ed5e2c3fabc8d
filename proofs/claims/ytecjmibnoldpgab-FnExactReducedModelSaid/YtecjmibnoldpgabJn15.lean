/- 5 texts in one: SiS, Tr2, Tr3, Tr4, TrA. -/
import Derived.Test.YtecjmibnoldpgabSiM
import Derived.Test.YtecjmibnoldpgabJn14
/- Contracts of the model's small functions of chapter 7 over links and masks. Conditions: those in the theorems. -/
namespace Go.Proofs.Ytecjmibnoldpgab
open Go.RowKit

theorem foB_false {ls : List Int} {s o : Int} {k l : Nat} (hk : k ≤ l) (h : foB ls s o k = false) : foB ls s o l = false := by
  induction l with
  | zero => simp at hk; subst hk; exact h
  | succ l ih =>
    by_cases e : k = l + 1
    · subst e; exact h
    · rw [foB, ih (by omega)]; rfl
theorem insB_false {us vs : List Int} {k l : Nat} (hk : k ≤ l) (h : insB us vs k = false) : insB us vs l = false := by
  induction l with
  | zero => simp at hk; subst hk; exact h
  | succ l ih =>
    by_cases e : k = l + 1
    · subst e; exact h
    · rw [insB, ih (by omega)]; rfl

set_option maxHeartbeats 400000 in
theorem l07Forth_any (ls : List Int) (s o : Int) (a : Option Addr) (len cap : Nat) (w : World) (hl : len ≤ 30) (h : At w a len ls) :
    Calls Try.prog 98 #[.slice a len cap, .int .i64 s, .int .i64 o] w fun e w' => e = .returned (.bool (foB ls s o len)) ∧ w = w' := by
  have H := Lib.hid h
  clear h
  go_enter Try.func98, Try.ntmps98
  go_wp2
  go_loop [7] (fun i => ∃ k : Nat, k ≤ len ∧ i = .int .i64 k ∧ foB ls s o k = true) (fun i => len - (intOf i).toNat)
  case atStart => exact ⟨0, Nat.zero_le _, rfl, rfl⟩
  case round =>
    obtain ⟨k, hk, rfl, hm⟩ := hrel
    have HM := Lib.hid hm
    clear hm
    by_cases hlt : k < len
    · obtain ⟨b, off, rfl, hb, hc⟩ := H.out.2.resolve_left (by omega)
      have hcell := hc k hlt
      clear hc
      cases hbit : bitB s k
      · have HB := Lib.hid hbit
        go_wp2_with (go_at_call 66; refine (l01Bit_any _ _ _ (by omega) (by omega)).mono ?_; rintro e w' ⟨rfl, rfl⟩)
        go_round
        case rel => exact ⟨k + 1, hlt, by go_num, by rw [foB, HM.out, HB.out]; rfl⟩
        case measure => simp [intOf]; omega
      · have HB := Lib.hid hbit
        cases hz : (bits .and .i64 (nth ls k) o == 0)
        · have HZ := Lib.hid hz
          go_wp2_with (go_at_call 66; refine (l01Bit_any _ _ _ (by omega) (by omega)).mono ?_; rintro e w' ⟨rfl, rfl⟩)
          go_round
          case rel => exact ⟨k + 1, hlt, by go_num, by rw [foB, HM.out, HB.out, HZ.out]; rfl⟩
          case measure => simp [intOf]; omega
        · have HZ := Lib.hid hz
          go_wp2_with (go_at_call 66; refine (l01Bit_any _ _ _ (by omega) (by omega)).mono ?_; rintro e w' ⟨rfl, rfl⟩)
          go_ret
          exact ⟨ret_bool (foB_false (k := k + 1) hlt (by rw [foB, HM.out, HB.out, HZ.out]; rfl)).symm, rfl⟩
    · obtain rfl : k = len := by omega
      go_wp2
      go_ret
      exact ⟨ret_bool HM.out.symm, rfl⟩

end Go.Proofs.Ytecjmibnoldpgab

/- The truth set of a formula of two parts (kind 2), by the model. Conditions: those in the theorem. -/
namespace Go.Proofs.Ytecjmibnoldpgab
open Go.RowKit

end Go.Proofs.Ytecjmibnoldpgab

/- The truth set of a formula of two parts (kind 3), by the model. Conditions: those in the theorem. -/
namespace Go.Proofs.Ytecjmibnoldpgab
open Go.RowKit

end Go.Proofs.Ytecjmibnoldpgab

/- The truth set of a formula of two parts (kind 4), by the model. Conditions: those in the theorem. -/
namespace Go.Proofs.Ytecjmibnoldpgab
open Go.RowKit

end Go.Proofs.Ytecjmibnoldpgab

/- The truth set of a formula, by the model. Conditions: those in the theorems. -/
namespace Go.Proofs.Ytecjmibnoldpgab
open Go.RowKit

end Go.Proofs.Ytecjmibnoldpgab
