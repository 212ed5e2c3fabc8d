/- 2 texts in one: Part, True. -/
import Derived.Test.YtpccocmiadpgiaaJn02
import Derived.Test.YtpccocmiadpgiaaJn03
/- Contracts of the program's functions that walk the parts of a list of nodes: where a part ends, is it a negation, how high and deep is it. Conditions: those in the theorems. -/
namespace Go.Proofs.Ytpccocmiadpgiaa
open Go.RowKit

theorem pe_lt {xs : List Nd} {len : Nat} {o : Int} {i : Nat} (ho : 0 < o) (hi : i ≤ len) (h : 0 ≤ pe xs (len - i) o i) : i < len := by
  by_cases e : i = len
  · subst e; rw [Nat.sub_self, pe, if_neg (by omega)] at h; omega
  · omega
theorem pe_step {xs : List Nd} {len : Nat} {o : Int} {i : Nat} (ho : 0 < o) (hi : i < len) : pe xs (len - i) o i = pe xs (len - (i + 1)) (o - 1 + prt (kd xs i)) (i + 1) := by
  rw [show len - i = (len - (i + 1)) + 1 by omega, pe, if_neg (by omega)]
theorem pe_zero {xs : List Nd} {f : Nat} {i : Nat} : pe xs f 0 i = i := by cases f <;> rw [pe, if_pos (by omega)]

set_option maxHeartbeats 400000 in
theorem partEnd_any (xs : List Nd) (a : Option Addr) (len cap i : Nat) (e : Int) (w : World) (hl : len ≤ 1048576) (hi : i ≤ len) (h : AtN w a len xs) (he : pe xs (len - i) 1 i = e) (h0 : 0 ≤ e) :
    Calls Try.prog 89 #[.slice a len cap, .int .i64 i] w fun r w' => r = .returned (.int .i64 e) ∧ w = w' := by
  have H := Lib.hid h
  have E := Lib.hid he
  have Z := Lib.hid h0
  clear h he h0
  go_enter Try.func89, Try.ntmps89
  go_wp2
  go_loop [1, 5] (fun i' o => ∃ k p : Nat, i ≤ k ∧ k ≤ len ∧ p ≤ 1 + 2 * k ∧ i' = .int .i64 k ∧ o = .int .i64 p ∧ pe xs (len - k) p k = e) (fun i' _ => len - (intOf i').toNat)
  case atStart => exact ⟨i, 1, Nat.le_refl _, hi, by omega, rfl, rfl, E.out⟩
  case round =>
    obtain ⟨k, p, hik, hk, hp, rfl, rfl, he⟩ := hrel
    have HE := Lib.hid he
    clear he
    by_cases h0 : 0 < p
    · have hlt : k < len := pe_lt (show (0 : Int) < (p : Int) by omega) hk (by rw [HE.out]; exact Z.out)
      obtain ⟨b, off, rfl, hb, hc⟩ := H.out.2.resolve_left (by omega)
      have hc1 := (hc k hlt).1
      clear hc
      have hb2 := prt_bd (kd xs k)
      obtain ⟨q, hq⟩ := Int.eq_ofNat_of_zero_le hb2.1
      have hq2 : q ≤ 2 := by omega
      have HQ := Lib.hid hq
      have HST := Lib.hid (pe_step (xs := xs) (len := len) (show (0 : Int) < (p : Int) by omega) hlt)
      clear hb2 hq
      go_wp2_with (go_at_call 88; refine (partCount_any _ _).mono ?_; rw [HQ.out]; rintro e w' ⟨rfl, rfl⟩)
      go_round
      case rel => exact ⟨k + 1, p - 1 + q, by omega, hlt, by omega, by go_num, by congr 1; omega, by rw [← HE.out, HST.out, HQ.out]; congr 1; omega⟩
      case measure => simp [intOf]; omega
    · obtain rfl : p = 0 := by omega
      have HV := Lib.hid (show (k : Int) = e by rw [← HE.out]; exact pe_zero.symm)
      go_wp2
      go_ret
      exact ⟨ret_int HV.out, rfl⟩

end Go.Proofs.Ytpccocmiadpgiaa

/- The contract of the model's l02True. No conditions. -/
namespace Go.Proofs.Ytpccocmiadpgiaa
open Go.RowKit

theorem l02True_all (w : World) : Calls Try.prog 40 #[] w fun e w' => ∃ v, e = .returned v ∧ OwnN w' w.heap.size v [(4, 0), (1, 0), (1, 0)] ∧ Below w.heap.size w w' := by
  go_enter Try.func40, Try.ntmps40
  go_wp2_with fail
  refine (l02False_any _).mono ?_
  rintro e w1 ⟨v1, rfl, ho1, hb1⟩
  obtain ⟨a1, c1, rfl, at1, -, -, -⟩ := ho1.at
  have B1 := Lib.hid hb1
  have A1 := Lib.hid at1
  clear hb1 ho1 at1
  go_wp2_with fail
  refine (l02Not_any [(1, 0)] _ _ _ _ (by simp) (by simp) A1.out).mono ?_
  rintro e w2 ⟨v2, rfl, ho2, hb2⟩
  have B2 := Lib.hid (B1.out.trans (hb2.mono B1.out.size))
  have O2 := Lib.hid (ho2.mono B1.out.size)
  clear hb2 ho2
  go_wp2
  go_ret
  exact ⟨_, rfl, O2.out, B2.out⟩

end Go.Proofs.Ytpccocmiadpgiaa
