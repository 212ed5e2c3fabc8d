/- CloseFrame of both, in value form. Conditions: those in the theorems. -/
import Derived.Test.YtpedinmflhgcoaaClS2
namespace Go.Proofs.Ytpedinmflhgcoaa
open Go.RowKit

theorem specCloseFrame_any (n f : Int) (xs E : List Int) (a : Option Addr) (cap : Nat) (w : World) (hl : xs.length ≤ 1048576) (hE : frB n xs = true → EuSpec xs E) (h : At w a xs.length xs) (hca : a = none → cap = 0) :
    Calls Try.prog 31 #[.agg #[.int .i64 n, .slice a xs.length cap], .int .i64 f] w fun e w' => RF w' w.heap.size (clL n xs E f).length (clC n xs f) (clL n xs E f) e ∧ Below w.heap.size w w' := by
  cases hf : frB n xs
  · have C := clC_1 (f := f) hf
    have L : clL n xs E f = [] := clL_no (by rw [C]; decide)
    refine (specCloseBad_any n f xs a cap w hl hf h).mono ?_
    rintro e w' ⟨rfl, hb⟩
    exact ⟨RF.bad C (by rw [L]; rfl) L, hb⟩
  · obtain ⟨hn, h8, -, -⟩ := frB_ok hf
    have hn' : n = (xs.length : Int) := by omega
    subst hn'
    cases hk : knF f
    · have C := clC_2 hf hk
      have L : clL xs.length xs E f = [] := clL_no (by rw [C]; decide)
      refine (specCloseNo_any f hk xs a cap w hl hf h hca).mono ?_
      rintro e w' ⟨rfl, hb⟩
      exact ⟨RF.bad C (by rw [L]; rfl) L, hb⟩
    · have C := clC_0 hf hk
      have L := clL_ok (E := E) C
      rw [C, L]
      rcases kn_cases hk with rfl | rfl | rfl | rfl
      · exact specClose0_any xs a cap w hl hf h hca
      · exact specClose2_any xs a cap w hl hf h hca
      · exact specClose3_any xs a cap w hl hf h hca
      · exact specCloseEu_any xs E a cap w hl hf (hE hf) h hca

/-- The least Euclidean relation over xs, where one is. -/
theorem eps_ok (n : Int) (xs : List Int) (h : frB n xs = true) : EuSpec xs (Classical.epsilon (EuSpec xs)) := by
  obtain ⟨-, h8, -, hr⟩ := frB_ok h
  exact Classical.epsilon_spec (EuSpec.ex (by omega) hr)
theorem CloseFrame_len (n : Int) (xs : List Int) (f : Int) : (clL n xs (Classical.epsilon (EuSpec xs)) f).length ≤ 1048576 := by
  by_cases h : clC n xs f = 0
  · rw [clL_ok h]
    cases hf : frB n xs
    · rw [clC_1 hf] at h; cases h
    · obtain ⟨-, h8, -, -⟩ := frB_ok hf
      rw [clR_len (eps_ok n xs hf)]
      omega
  · rw [clL_no h]; simp
theorem specCloseFrame_v (n : Int) (xs : List Int) (f : Int) (v : Value) (lo hi : Nat) (w : World) (hl : xs.length ≤ 1048576) (h : InF w lo hi v n xs) :
    Calls Try.prog 31 #[v, .int .i64 f] w fun e w' => ∃ v, e = .returned (.tuple #[v, .int .i64 (clC n xs f)]) ∧ OwnF w' w.heap.size v (clL n xs (Classical.epsilon (EuSpec xs)) f).length (clL n xs (Classical.epsilon (EuSpec xs)) f) ∧ Below w.heap.size w w' := by
  obtain ⟨a, cap, rfl, hat, hca⟩ := h.at
  exact (specCloseFrame_any n f xs _ a cap w hl (eps_ok n xs) hat hca).mono fun e w' ⟨⟨v, e1, o⟩, b⟩ => ⟨v, e1, o, b⟩
theorem implCloseFrame_v (n : Int) (xs : List Int) (f : Int) (v : Value) (lo hi : Nat) (w : World) (hl : xs.length ≤ 1048576) (h : InF w lo hi v n xs) :
    Calls Try.prog 32 #[v, .int .i64 f] w fun e w' => ∃ v, e = .returned (.tuple #[v, .int .i64 (clC n xs f)]) ∧ OwnF w' w.heap.size v (clL n xs (Classical.epsilon (EuSpec xs)) f).length (clL n xs (Classical.epsilon (EuSpec xs)) f) ∧ Below w.heap.size w w' := by
  obtain ⟨a, cap, rfl, hat, -⟩ := h.at
  exact (implCloseFrame_any n f xs _ a _ cap w hl (eps_ok n xs) hat).mono fun e w' ⟨⟨v, e1, o⟩, b⟩ => ⟨v, e1, o, b⟩

end Go.Proofs.Ytpedinmflhgcoaa
