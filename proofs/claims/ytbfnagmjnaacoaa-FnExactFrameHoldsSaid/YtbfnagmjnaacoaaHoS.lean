/- The model's nesting of quantifiers, and whether a point formula has values. Conditions: those in the theorems. -/
import Derived.Deep.RegionWith
import Derived.Deep.RegionLaw
import Derived.RegionTactic
import Derived.BigRegion
import Derived.ChangeAlike
import Derived.Test.YtbfnagmjnaacoaaHoM
namespace Go.Proofs.Ytbfnagmjnaacoaa
open Go.RowKit

def NsC (f : Pt) : Prop := ∀ (b off len cap : Nat) (w : World), len ≤ 1048576 → AtT w b off len cap f →
    Calls Try.prog 104 #[.slice (some ⟨b, off, none⟩) len cap] w fun e w' => e = .returned (.int .i64 (nst f : Nat)) ∧ w = w'

theorem ppP_at {f : Pt} (hf : f.ok) : ppP f.kind = (match f with | .le _ _ _ => 0 | .bi _ _ _ => 2 | .un _ _ _ => 1) := by
  cases f with
  | le k x y => rcases hf with ⟨rfl | rfl, -⟩ | ⟨rfl, -⟩ | ⟨rfl, -⟩ <;> rfl
  | bi k a b => rcases hf.1 with h | h | h <;> (show ppP k = 2; rw [h]; rfl)
  | un k x a => rcases hf.1 with h | h <;> (show ppP k = 1; rw [h]; rfl)

set_option maxHeartbeats 2000000 in
theorem l10Nested_any (f : Pt) (hf : f.ok) : NsC f := by
  induction f with
  | le k x y =>
    intro b off len cap w hl h
    obtain ⟨hb, c1, c2, c3⟩ := h.head
    have hlen := h.len
    have h0 : 0 < len := by rw [hlen]; exact Pt.sz_pos _
    have HQ := Lib.hid (ppP_at hf)
    clear h hlen
    go_enter Try.func104, Try.ntmps104
    go_wp2_with (go_at_call 84; refine (l10Parts_any _ _).mono ?_; rw [HQ.out]; rintro e w' ⟨rfl, rfl⟩)
    go_ret
    exact ⟨rfl, rfl⟩
  | un k x a ih =>
    intro b off len cap w hl h
    obtain ⟨hb, c1, c2, c3⟩ := h.head
    have hlen := h.len
    have hs : (Pt.un k x a).sz = 1 + a.sz := rfl
    have hap := a.sz_pos
    have h0 : 1 < len := by omega
    have h1 := h.2.1
    have h2 := h.2.2
    unfold maxLen at h2
    have HQ := Lib.hid (ppP_at hf)
    have IH := Lib.hid (ih hf.2.2 b (off + 3) (len - 1) (cap - 1) w (by omega) h.under)
    have hn := nst_le a
    have hn2 : nst a ≤ 1048576 := by omega
    obtain ⟨m, hm⟩ : ∃ m, m = nst a := ⟨_, rfl⟩
    have HM := Lib.hid (show ((nst (.un k x a) : Nat) : Int) = 1 + (m : Int) by rw [hm]; simp only [nst]; omega)
    rw [← hm] at IH hn2
    clear h hlen hs hap ih hn hm
    go_enter Try.func104, Try.ntmps104
    go_wp2_with (first | (go_at_call 84; refine (l10Parts_any _ _).mono ?_; rw [HQ.out]; rintro e w' ⟨rfl, rfl⟩) | (go_at_call 104; refine IH.out.mono ?_; rintro e w' ⟨rfl, rfl⟩))
    go_ret
    exact ⟨ret_int HM.out.symm, rfl⟩
  | bi k f g ihf ihg =>
    intro b off len cap w hl h
    obtain ⟨hb, c1, c2, c3⟩ := h.head
    have hlen := h.len
    have hs : (Pt.bi k f g).sz = 1 + f.sz + g.sz := rfl
    have h0 : 0 < len := by omega
    have HQ := Lib.hid (ppP_at hf)
    have LE := Lib.hid (l10Left_any k f g hf b off len cap w hl h)
    have RI := Lib.hid (l10Right_any k f g hf b off len cap w hl h)
    have IX := Lib.hid (ihf hf.2.1 b (off + 3) f.sz (cap - 1) w (by omega) h.left)
    have IY := Lib.hid (ihg hf.2.2 b (off + (1 + f.sz) * 3) g.sz (cap - (1 + f.sz)) w (by omega) h.right)
    have hn1 := nst_le f
    have hn2 := nst_le g
    obtain ⟨p, hp⟩ : ∃ p, p = nst f := ⟨_, rfl⟩
    obtain ⟨q, hq⟩ : ∃ q, q = nst g := ⟨_, rfl⟩
    rw [← hp] at IX hn1
    rw [← hq] at IY hn2
    have HM := Lib.hid (show nst (.bi k f g) = max p q by rw [hp, hq]; rfl)
    have hp2 : p ≤ 1048576 := by omega
    have hq2 : q ≤ 1048576 := by omega
    clear h hlen hs ihf ihg hn1 hn2 hp hq
    by_cases hpq : p ≤ q
    · have hpq2 : (p : Int) ≤ (q : Int) := by omega
      have HR := Lib.hid (show ((nst (.bi k f g) : Nat) : Int) = (q : Int) by rw [HM.out]; omega)
      go_enter Try.func104, Try.ntmps104
      go_wp2_with (go_at_call 84; refine (l10Parts_any _ _).mono ?_; rw [HQ.out]; rintro e w' ⟨rfl, rfl⟩)
      refine LE.out.mono ?_
      rintro e w' ⟨rfl, rfl⟩
      go_wp2_with fail
      refine IX.out.mono ?_
      rintro e w' ⟨rfl, rfl⟩
      go_wp2_with fail
      refine RI.out.mono ?_
      rintro e w' ⟨rfl, rfl⟩
      go_wp2_with fail
      refine IY.out.mono ?_
      rintro e w' ⟨rfl, rfl⟩
      go_wp2
      all_goals (go_ret; exact ⟨ret_int (by rw [HM.out]; omega), rfl⟩)
    · have hpq2 : (q : Int) ≤ (p : Int) := by omega
      have hpq3 : ¬ (p : Int) < (q : Int) := by omega
      have hpq4 : (q : Int) < (p : Int) := by omega
      have HR := Lib.hid (show ((nst (.bi k f g) : Nat) : Int) = (p : Int) by rw [HM.out]; omega)
      go_enter Try.func104, Try.ntmps104
      go_wp2_with (go_at_call 84; refine (l10Parts_any _ _).mono ?_; rw [HQ.out]; rintro e w' ⟨rfl, rfl⟩)
      refine LE.out.mono ?_
      rintro e w' ⟨rfl, rfl⟩
      go_wp2_with fail
      refine IX.out.mono ?_
      rintro e w' ⟨rfl, rfl⟩
      go_wp2_with fail
      refine RI.out.mono ?_
      rintro e w' ⟨rfl, rfl⟩
      go_wp2_with fail
      refine IY.out.mono ?_
      rintro e w' ⟨rfl, rfl⟩
      go_wp2
      all_goals (go_ret; exact ⟨ret_int (by rw [HM.out]; omega), rfl⟩)

set_option maxHeartbeats 1000000 in
theorem l10Fits_any (f : Pt) (hf : f.ok) (N : Nat) (hN : N ≤ 30) (b off len cap : Nat) (w : World) (hl : len ≤ 1048576) (h : AtT w b off len cap f) :
    Calls Try.prog 49 #[.slice (some ⟨b, off, none⟩) len cap, .int .i64 N] w fun e w' => e = .returned (.bool (fitP N (nst f))) ∧ w = w' := by
  have NS := Lib.hid (l10Nested_any f hf b off len cap w hl h)
  have hn := nst_le f
  have hlen := h.len
  obtain ⟨m, hm⟩ : ∃ m, m = nst f := ⟨_, rfl⟩
  rw [← hm] at NS ⊢
  have hm2 : m ≤ 1048576 := by omega
  clear h hn hlen hm
  go_enter Try.func49, Try.ntmps49
  go_wp2_with (go_at_call 104; refine NS.out.mono ?_; rintro e w' ⟨rfl, rfl⟩)
  go_loop [6, 7] (fun bo i => ∃ k q : Nat, k ≤ m ∧ i = .int .i64 k ∧ bo = .int .i64 q ∧ q ≤ 983040 ∧ Hid (q = N ^ k)) (fun _ i => m - (intOf i).toNat)
  case atStart => exact ⟨0, 1, Nat.zero_le _, rfl, rfl, by omega, Lib.hid rfl⟩
  case round =>
    obtain ⟨k, q, hk, rfl, rfl, hq2, HQ⟩ := hrel
    by_cases hlt : k < m
    · by_cases hqb : q ≤ 32768
      · have hm3 : q * N ≤ 983040 := Nat.le_trans (Nat.mul_le_mul hqb hN) (by omega)
        obtain ⟨z, hz⟩ : ∃ z, z = q * N := ⟨_, rfl⟩
        have hcast : ((q * N : Nat) : Int) = (q : Int) * (N : Int) := by simp
        have hwz : IntKind.i64.wrap ((q : Int) * (N : Int)) = (z : Int) := by rw [← hcast, IntKind.wrap_i64, ← hz]; omega
        have HZ := Lib.hid (show z = N ^ (k + 1) by rw [hz, HQ.out, Nat.pow_succ])
        have hz2 : z ≤ 983040 := by omega
        clear hz hm3 hcast
        go_wp2
        go_round
        case rel => exact ⟨k + 1, z, hlt, by go_num, by first | rfl | (congr 1; omega), hz2, HZ⟩
        case measure => simp [intOf]; omega
      · have hv : fitP N m = false := by
          have := pow_grow hk (by rw [← HQ.out]; omega)
          rw [fitP, decide_eq_false (show ¬ N ^ m ≤ 32768 by omega), Bool.and_false]
        have HV := Lib.hid hv
        clear hv
        by_cases h6 : m ≤ 6
        all_goals
          go_wp2
          go_ret
          first
          | exact ⟨ret_bool HV.out.symm, rfl⟩
          | exact ⟨ret_bool (by rw [HV.out]; simp; omega), rfl⟩
    · obtain rfl : k = m := by omega
      have HV := Lib.hid (show fitP N k = (decide (k ≤ 6) && decide (q ≤ 32768)) by rw [HQ.out]; rfl)
      by_cases h6 : k ≤ 6
      · by_cases hqb : q ≤ 32768
        · have E := Lib.hid (show fitP N k = true by rw [HV.out, decide_eq_true h6, decide_eq_true hqb]; rfl)
          go_wp2
          go_ret
          first
          | exact ⟨ret_bool E.out.symm, rfl⟩
          | exact ⟨ret_bool (by rw [E.out]; simp; omega), rfl⟩
        · have E := Lib.hid (show fitP N k = false by rw [HV.out, decide_eq_false hqb, Bool.and_false])
          go_wp2
          go_ret
          first
          | exact ⟨ret_bool E.out.symm, rfl⟩
          | exact ⟨ret_bool (by rw [E.out]; simp; omega), rfl⟩
      · have E := Lib.hid (show fitP N k = false by rw [HV.out, decide_eq_false h6, Bool.false_and])
        go_wp2
        go_ret
        first
        | exact ⟨ret_bool E.out.symm, rfl⟩
        | exact ⟨ret_bool (by rw [E.out]; simp; omega), rfl⟩

end Go.Proofs.Ytbfnagmjnaacoaa
