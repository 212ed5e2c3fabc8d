/- Contracts of ComposeSubstitutions of the model and of the program, at every argument. Conditions: those in the theorems. -/
import Derived.Test.YtfkahkhmnchnjaaSubV
import Derived.Test.YtfkahkhmnchnjaaInL
namespace Go.Proofs.Ytfkahkhmnchnjaa
open Go.RowKit

/-- The images of the first k lists. -/
def thTo (s : Int → List Nd) (xss : List (List Nd)) (k : Nat) : List (List Nd) := (List.range k).map fun j => subTo s (nthL xss j) (nthL xss j).length
theorem thTo_len (s : Int → List Nd) (xss : List (List Nd)) (k : Nat) : (thTo s xss k).length = k := by simp [thTo]
theorem thTo_succ (s : Int → List Nd) (xss : List (List Nd)) (k : Nat) : thTo s xss (k + 1) = thTo s xss k ++ [subTo s (nthL xss k) (nthL xss k).length] := by simp [thTo, List.range_succ]
theorem thTo_at {s : Int → List Nd} {xss : List (List Nd)} {k j : Nat} (h : j < k) : nthL (thTo s xss k) j = subTo s (nthL xss j) (nthL xss j).length := by
  show (thTo s xss k).getD j [] = _
  unfold thTo
  simp [List.getD_eq_getElem?_getD, h]
/-- Formulas, each of at most 40 nodes. -/
def fms (xss : List (List Nd)) : Prop := ∀ j, j < xss.length → isB (nthL xss j) (nthL xss j).length = true
theorem isS_fms {xss : List (List Nd)} (h : isS xss = true) : fms xss := by
  simp only [isS, Bool.and_eq_true, decide_eq_true_eq] at h
  exact fun j hj => okAll_at h.2 hj

/-- Are all lists short. -/
def limB (xss : List (List Nd)) (k : Nat) : Bool := (List.range k).all fun j => decide ((nthL xss j).length ≤ 40)
theorem limB_succ {xss : List (List Nd)} {k : Nat} (h : limB xss k = true) (h2 : (nthL xss k).length ≤ 40) : limB xss (k + 1) = true := by
  rw [limB, List.range_succ, List.all_append, Bool.and_eq_true]
  exact ⟨h, by simp [h2]⟩
theorem limB_bad {xss : List (List Nd)} {n k : Nat} (hk : k < n) (h2 : 40 < (nthL xss k).length) : limB xss n = false := by
  cases e : limB xss n with
  | false => rfl
  | true =>
    have := List.all_eq_true.1 e k (List.mem_range.2 hk)
    simp at this
    omega
theorem limB_at {xss : List (List Nd)} {n k : Nat} (h : limB xss n = true) (hk : k < n) : (nthL xss k).length ≤ 40 := by
  have := List.all_eq_true.1 h k (List.mem_range.2 hk)
  simpa using this
def alR (xss : List (List Nd)) : List (List Nd) := if limB xss xss.length then xss else []
def alC (xss : List (List Nd)) : Int := if limB xss xss.length then 0 else 3
theorem al_no {xss : List (List Nd)} (h : limB xss xss.length = false) : alR xss = [] ∧ alC xss = 3 := by simp [alR, alC, h]
theorem al_ok {xss : List (List Nd)} (h : limB xss xss.length = true) : alR xss = xss ∧ alC xss = 0 := by simp [alR, alC, h]

set_option maxHeartbeats 1000000 in
theorem areLim_any (xss : List (List Nd)) (a : Option Addr) (len cap : Nat) (w : World) (hl : len ≤ 4096) (hs : ∀ j, j < len → (nthL xss j).length ≤ 1048576) (h : AtNN w a len xss) :
    Calls Try.prog 53 #[.slice a len cap] w fun e w' => e = .returned (.bool (limB xss len)) ∧ w = w' := by
  have H := Lib.hid h
  have LI := Lib.hid hs
  clear h hs
  go_enter Try.func53, Try.ntmps53
  go_wp2
  go_loop [7] (fun i => ∃ (j : Nat), j ≤ len ∧ i = .int .i64 j ∧ Hid (limB xss j = true)) (fun i => len - (intOf i).toNat)
  case atStart => exact ⟨0, Nat.zero_le _, rfl, (show _ = _ from rfl)⟩
  case round =>
    obtain ⟨j, hj, rfl, hok⟩ := hrel
    by_cases hlt : j < len
    · obtain ⟨b, off, rfl, hb, hc⟩ := H.out.2.resolve_left (by omega)
      obtain ⟨a1, cap1, hc1, -⟩ := hc j hlt
      obtain ⟨n, hn⟩ : ∃ n, n = (nthL xss j).length := ⟨_, rfl⟩
      have hn2 := LI.out j hlt
      rw [← hn] at hc1 hn2
      have N := Lib.hid hn
      clear hc hn
      by_cases h40 : (40 : Int) < (n : Int)
      · have E := Lib.hid (limB_bad (xss := xss) (k := j) hlt (by rw [← N.out]; omega))
        go_wp2
        go_ret
        exact ⟨ret_bool E.out.symm, rfl⟩
      · have OK := Lib.hid (limB_succ hok.out (show (nthL xss j).length ≤ 40 by rw [← N.out]; omega))
        go_wp2
        go_round
        case rel => exact ⟨j + 1, hlt, by go_num, OK⟩
        case measure => simp [intOf]; omega
    · obtain rfl : j = len := by omega
      have E := Lib.hid hok.out
      clear hok
      go_wp2
      go_ret
      exact ⟨ret_bool E.out.symm, rfl⟩

end Go.Proofs.Ytfkahkhmnchnjaa
