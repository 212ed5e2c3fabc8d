/- Contracts of NodePolarity, VariablePolarity and IsGuarded of the model and of the program, at every argument. Conditions: those in the theorems. -/
import Derived.Test.YtfpnmeacnhcakaaDoorPolW
import Derived.Test.YtfpnmeacnhcakaaDoorAreF
import Derived.Test.YtfpnmeacnhcakaaDoorWrite
namespace Go.Proofs.YtfpnmeacnhcakaaDoor
open Go.RowKit

theorem imp_at {xs : List Nd} (hb : isB xs xs.length = true) {k : Nat} (hk : k < xs.length) (h4 : kd xs k = 4) : ∃ e : Nat, pe xs (xs.length - (k + 1)) 1 (k + 1) = e ∧ k + 1 ≤ e ∧ e ≤ xs.length := by
  obtain ⟨f, r, hf, he⟩ := sub_at hb hk
  cases f with
  | va s => rw [kd_at (x := (0, s)) (r := r) he] at h4; exact absurd h4 (show (0 : Int) ≠ 4 by decide)
  | fa => rw [kd_at (x := (1, 0)) (r := r) he] at h4; exact absurd h4 (show (1 : Int) ≠ 4 by decide)
  | un m a =>
    rw [kd_at (x := (m, 0)) (r := a.enc ++ r) (by rw [he]; simp [Fm.enc])] at h4
    have := hf.1
    have : m = 4 := h4
    omega
  | bi m a b =>
    have h1 : xs.drop (k + 1) = a.enc ++ (b.enc ++ r) := drop_next (x := (m, 0)) (by rw [he]; simp [Fm.enc])
    have h2 := pe_end a hf.2.1 h1
    have h3 := congrArg List.length h1
    simp only [List.length_drop, List.length_append, Fm.enc_len] at h3
    have hp := a.sz_pos
    exact ⟨_, h2, by omega, by omega⟩
theorem part_at {xs : List Nd} (hb : isB xs xs.length = true) {k : Nat} (hk : k < xs.length) : ∃ e : Nat, pe xs (xs.length - k) 1 k = e ∧ k + 1 ≤ e ∧ e ≤ xs.length := by
  obtain ⟨f, r, hf, he⟩ := sub_at hb hk
  have h2 := pe_end f hf he
  have h3 := congrArg List.length he
  simp only [List.length_drop, List.length_append, Fm.enc_len] at h3
  have hp := f.sz_pos
  exact ⟨_, h2, by omega, by omega⟩
theorem pol_fm {xs : List Nd} (hb : isB xs xs.length = true) {i : Nat} (hi : i < xs.length) : pol xs i i = nth ((toFm xs).pls 1) i := by
  obtain ⟨h1, h2, h3⟩ := toFm_of hb
  refine pol_all h1 h2 ?_
  rw [← Fm.enc_len, ← h2]; exact hi

def npR (xs : List Nd) (i : Int) : Int := if isB xs xs.length && (decide (0 ≤ i) && decide (i < xs.length)) then pol xs i.toNat i.toNat else 0
def npC (xs : List Nd) (i : Int) : Int := cvI (isB xs xs.length) xs.length i
theorem np_bad {xs : List Nd} {i : Int} (h : isB xs xs.length = false) : npR xs i = 0 ∧ npC xs i = 1 := by simp [npR, npC, cvI, h]
theorem np_out {xs : List Nd} {i : Int} (h : isB xs xs.length = true) (h2 : (decide (0 ≤ i) && decide (i < xs.length)) = false) : npR xs i = 0 ∧ npC xs i = 2 := by simp only [npR, npC, cvI, h, h2]; exact ⟨rfl, rfl⟩
theorem np_good {xs : List Nd} {i : Int} (h : isB xs xs.length = true) (h2 : (decide (0 ≤ i) && decide (i < xs.length)) = true) : ∃ k : Nat, i = k ∧ k < xs.length ∧ npR xs i = pol xs k k ∧ npC xs i = 0 := by
  have h3 : 0 ≤ i ∧ i < xs.length := by simpa using h2
  obtain ⟨k, rfl⟩ := Int.eq_ofNat_of_zero_le h3.1
  refine ⟨k, rfl, by omega, ?_, ?_⟩
  · rw [npR, h, h2]; rfl
  · rw [npC, cvI, h, h2]; rfl

end Go.Proofs.YtfpnmeacnhcakaaDoor
