/- The program's checks of arguments: lists of formulas, a variable, a node. Conditions: those in the theorems. -/
import Derived.Test.YtnoaaklkbfbdbaaDoorJn12
namespace Go.Proofs.YtnoaaklkbfbdbaaDoor
open Go.RowKit

set_option maxHeartbeats 1000000 in
theorem areF_any (xss : List (List Nd)) (a : Option Addr) (len cap : Nat) (w : World) (hl : len ≤ 2097152) (hi : ∀ j, j < len → (nthL xss j).length ≤ 1048576) (h : AtNN w a len xss) :
    Calls Tryd.prog 41 #[.slice a len cap] w fun e w' => e = .returned (.bool (okAll xss len)) ∧ Below w.heap.size w w' := by
  have H := Lib.hid h
  have LI := Lib.hid hi
  clear h hi
  go_enter Tryd.func41, Tryd.ntmps41
  go_wp2
  go_loopw [7] (fun i wr => ∃ (j : Nat), j ≤ len ∧ i = .int .i64 j ∧ Hid (okAll xss j = true) ∧ Below w.heap.size w wr) (fun i _ => len - (intOf i).toNat)
  case atStart => exact ⟨0, Nat.zero_le _, rfl, (show _ = _ from rfl), Below.refl _ _⟩
  case round =>
    obtain ⟨j, hj, rfl, hok, hbel⟩ := hrel
    have B := Lib.hid hbel
    clear hbel
    by_cases hlt : j < len
    · obtain ⟨b, off, rfl, hb, hc⟩ := H.out.2.resolve_left (by omega)
      obtain ⟨a1, cap1, hc0, hat1⟩ := hc j hlt
      have hc1 : wr.cell? ⟨b, off + j, none⟩ = some (.slice a1 (nthL xss j).length cap1) := (B.out.cell (p := ⟨b, off + j, none⟩) hb).trans hc0
      have hn3 := LI.out j hlt
      obtain ⟨n, hn⟩ : ∃ n, n = (nthL xss j).length := ⟨_, rfl⟩
      rw [← hn] at hc1 hat1 hn3
      have N := Lib.hid hn
      have A1 := Lib.hid (hat1.keep B.out (Nat.le_refl _))
      clear hc hc0 hat1 hn
      cases hbb : isB (nthL xss j) n
      · have BB := Lib.hid hbb
        clear hbb
        have E := Lib.hid (okAll_bad hlt (show isB (nthL xss j) (nthL xss j).length = false by rw [← N.out]; exact BB.out))
        go_wp2_with fail
        refine (implIsF_any _ _ _ _ _ hn3 A1.out).mono ?_
        rw [BB.out]
        rintro e w1 ⟨rfl, hb1⟩
        have B1 := Lib.hid (B.out.trans (hb1.mono B.out.size))
        clear hb1
        go_wp2
        go_ret
        exact ⟨ret_bool E.out.symm, B1.out⟩
      · have BB := Lib.hid hbb
        clear hbb
        have OK := Lib.hid (okAll_succ hok.out (show isB (nthL xss j) (nthL xss j).length = true by rw [← N.out]; exact BB.out))
        go_wp2_with fail
        refine (implIsF_any _ _ _ _ _ hn3 A1.out).mono ?_
        rw [BB.out]
        rintro e w1 ⟨rfl, hb1⟩
        have B1 := Lib.hid (B.out.trans (hb1.mono B.out.size))
        clear hb1
        go_wp2
        go_roundw
        case rel => exact ⟨j + 1, hlt, by go_num, OK, B1.out⟩
        case measure => simp [intOf]; omega
    · obtain rfl : j = len := by omega
      have OK := Lib.hid hok.out
      clear hok
      go_wp2
      go_ret
      exact ⟨ret_bool OK.out.symm, B.out⟩

theorem okAll_1 (xs : List Nd) : okAll [xs] 1 = isB xs xs.length := by simp [okAll, nthL]
theorem okAll_2 (xs ys : List Nd) : okAll [xs, ys] 2 = (isB xs xs.length && isB ys ys.length) := by
  rw [okAll, show List.range 2 = [0, 1] from rfl]
  simp [nthL]
theorem nthL_le1 {xs : List Nd} {n : Nat} (h : xs.length ≤ n) : ∀ j, j < 1 → (nthL [xs] j).length ≤ n := by
  intro j hj
  obtain rfl : j = 0 := by omega
  exact h
theorem nthL_le2 {xs ys : List Nd} {n : Nat} (h : xs.length ≤ n) (h' : ys.length ≤ n) : ∀ j, j < 2 → (nthL [xs, ys] j).length ≤ n := by
  intro j hj
  match j, hj with
  | 0, _ => exact h
  | 1, _ => exact h'

theorem areF1_any (xs : List Nd) (a : Option Addr) (len cap C : Nat) (w : World) (hl : len ≤ 1048576) (h : AtN w a len xs) (t : TypeId) (hC : C = w.heap.size) :
    Calls Tryd.prog 41 #[.slice (some ⟨C, 0, none⟩) 1 1] (w.alloc (.cells #[.slice a len cap] t)) fun e w' => e = .returned (.bool (isB xs len)) ∧ Below w.heap.size w w' := by
  refine (areF_any [xs] _ 1 1 _ (by omega) (nthL_le1 (by rw [← h.1]; exact hl)) (lay1 h t hC)).mono ?_
  rintro e w' ⟨rfl, hb⟩
  have b0 : Below w.heap.size w (w.alloc (.cells #[.slice a len cap] t)) := (Below.refl _ _).alloc (Nat.le_refl _) _
  exact ⟨by rw [okAll_1, h.1], b0.trans (hb.mono b0.size)⟩
theorem areF2_any (xs ys : List Nd) (a a' : Option Addr) (len cap len' cap' C : Nat) (w : World) (hl : len ≤ 1048576) (hl' : len' ≤ 1048576) (h : AtN w a len xs) (h' : AtN w a' len' ys) (t : TypeId) (hC : C = w.heap.size) :
    Calls Tryd.prog 41 #[.slice (some ⟨C, 0, none⟩) 2 2] (w.alloc (.cells #[.slice a len cap, .slice a' len' cap'] t)) fun e w' => e = .returned (.bool (isB xs len && isB ys len')) ∧ Below w.heap.size w w' := by
  refine (areF_any [xs, ys] _ 2 2 _ (by omega) (nthL_le2 (by rw [← h.1]; exact hl) (by rw [← h'.1]; exact hl')) (lay2 h h' t hC)).mono ?_
  rintro e w' ⟨rfl, hb⟩
  have b0 : Below w.heap.size w (w.alloc (.cells #[.slice a len cap, .slice a' len' cap'] t)) := (Below.refl _ _).alloc (Nat.le_refl _) _
  exact ⟨by rw [okAll_2, h.1, h'.1], b0.trans (hb.mono b0.size)⟩

/-- The error of a list of lists and a number that has to be one of 0 .. n - 1. -/
def cvI (b : Bool) (n v : Int) : Int := if b then (if decide (0 ≤ v) && decide (v < n) then 0 else 2) else 1

end Go.Proofs.YtnoaaklkbfbdbaaDoor
