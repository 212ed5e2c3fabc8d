/- 2 texts in one: LawPart, True. -/
import Derived.Test.YtnoaaklkbfbdbaaPart
import Derived.Test.YtnoaaklkbfbdbaaJn03
/- The walk of the law FnExactPartEnd. Conditions: those in the theorems. -/
namespace Go.Proofs.Ytnoaaklkbfbdbaa
open Go.RowKit

def peR (xs : List Nd) (i : Int) : Int := if isB xs xs.length && inB i 0 ((xs.length : Int) - 1) then pe xs (xs.length - i.toNat) 1 i.toNat else 0
def peC (xs : List Nd) (i : Int) : Int := if isB xs xs.length then (if inB i 0 ((xs.length : Int) - 1) then 0 else 2) else 1
theorem pe_bad {xs : List Nd} {i : Int} (h : isB xs xs.length = false) : peR xs i = 0 ∧ peC xs i = 1 := by simp [peR, peC, h]
theorem pe_out {xs : List Nd} {i : Int} (h : isB xs xs.length = true) (h2 : inB i 0 ((xs.length : Int) - 1) = false) : peR xs i = 0 ∧ peC xs i = 2 := by simp [peR, peC, h, h2]
theorem pe_good {xs : List Nd} {i : Int} (h : isB xs xs.length = true) (h2 : inB i 0 ((xs.length : Int) - 1) = true) :
    ∃ k e : Nat, i = k ∧ k < xs.length ∧ pe xs (xs.length - k) 1 k = e ∧ peR xs i = e ∧ peC xs i = 0 := by
  have h3 : 0 ≤ i ∧ i ≤ (xs.length : Int) - 1 := by simpa [inB] using h2
  obtain ⟨k, rfl⟩ := Int.eq_ofNat_of_zero_le h3.1
  have hk : k < xs.length := by omega
  obtain ⟨f, r, hf, he⟩ := sub_at h hk
  refine ⟨k, k + f.sz, rfl, hk, pe_end f hf he, ?_, by simp [peC, h, h2]⟩
  rw [peR, h, h2, Int.toNat_natCast, pe_end f hf he]; rfl

set_option maxHeartbeats 400000 in
theorem implPartEnd_v (x0 : List Nd) (x1 : Int) (v : Value) (lo hi : Nat) (w : World) (hl : x0.length ≤ 1048576) (h : InN w lo hi v x0) :
    Calls Try.prog 29 #[v, .int .i64 x1] w fun e w' => e = .returned (.tuple #[.int .i64 (peR x0 x1), .int .i64 (peC x0 x1)]) ∧ Below w.heap.size w w' := by
  obtain ⟨a, cap, rfl, hat⟩ := h.at
  have H := Lib.hid hat
  clear h hat
  cases hb : isB x0 x0.length
  · obtain ⟨e1, e2⟩ := pe_bad (i := x1) hb
    rw [e1, e2]
    have HB := Lib.hid hb
    clear hb e1 e2
    go_enter Try.func29, Try.ntmps29
    go_wp2_with (go_at_call 32; refine (implIsF_any _ _ _ _ _ hl H.out).mono ?_; rw [HB.out]; rintro e w' ⟨rfl, hb⟩)
    go_ret2
    exact ⟨rfl, hb⟩
  · cases hc : inB x1 0 ((x0.length : Int) - 1)
    · obtain ⟨e1, e2⟩ := pe_out hb hc
      rw [e1, e2]
      have HB := Lib.hid hb
      have hc' : x1 < 0 ∨ (0 ≤ x1 ∧ (x0.length : Int) ≤ x1) := by simp [inB] at hc; omega
      clear hb hc e1 e2
      rcases hc' with hc | ⟨hc1, hc2⟩
      all_goals
        go_enter Try.func29, Try.ntmps29
        go_wp2_with (go_at_call 32; refine (implIsF_any _ _ _ _ _ hl H.out).mono ?_; rw [HB.out]; rintro e w' ⟨rfl, hb⟩)
        go_ret2
        exact ⟨rfl, hb⟩
    · obtain ⟨k, t, rfl, hk, hp, e1, e2⟩ := pe_good hb hc
      rw [e1, e2]
      have HB := Lib.hid hb
      have HP := Lib.hid hp
      clear hb hc e1 e2 hp
      go_enter Try.func29, Try.ntmps29
      go_wp2_with (first | (go_at_call 32; refine (implIsF_any _ _ _ _ _ hl H.out).mono ?_; rw [HB.out]; rintro e w' ⟨rfl, hb⟩) | (go_at_call 65; refine (partEnd_any x0 _ _ _ k _ _ hl (by omega) (H.out.keep hb (Nat.le_refl _)) HP.out (by omega)).mono ?_; rintro e w' ⟨rfl, rfl⟩))
      go_ret2
      exact ⟨rfl, hb⟩

end Go.Proofs.Ytnoaaklkbfbdbaa

/- The contract of the model's l02True. No conditions. -/
namespace Go.Proofs.Ytnoaaklkbfbdbaa
open Go.RowKit

theorem l02True_all (w : World) : Calls Try.prog 117 #[] w fun e w' => ∃ v, e = .returned v ∧ OwnN w' w.heap.size v [(4, 0), (1, 0), (1, 0)] ∧ Below w.heap.size w w' := by
  go_enter Try.func117, Try.ntmps117
  go_wp2_with fail
  refine (l02False_any _).mono ?_
  rintro e w1 ⟨v1, rfl, ho1, hb1⟩
  obtain ⟨a1, c1, rfl, at1, -, -, -⟩ := ho1.at
  have B1 := Lib.hid hb1
  have A1 := Lib.hid at1
  clear hb1 ho1 at1
  go_wp2_with fail
  refine (l02Not_any [(1, 0)] _ _ _ _ (by simp) (by simp) A1.out).mono ?_
  rintro e w2 ⟨v2, rfl, ho2, hb2⟩
  have B2 := Lib.hid (B1.out.trans (hb2.mono B1.out.size))
  have O2 := Lib.hid (ho2.mono B1.out.size)
  clear hb2 ho2
  go_wp2
  go_ret
  exact ⟨_, rfl, O2.out, B2.out⟩

end Go.Proofs.Ytnoaaklkbfbdbaa
