/- Contracts of the methods isDone and isWithinLimit of the program's unification. Conditions: those in the theorems. -/
import Derived.Test.YtbhgedabcclimaaUfI
import Derived.Deep.RegionHeld3
namespace Go.Proofs.Ytbhgedabcclimaa
open Go.RowKit

theorem tyU : 85 ≠ 26 ∧ 85 ≠ 61 := by decide
/-- Block R holds the program's unification. -/
def UnR (w : World) (R : Nat) (va vb vi : Value) : Prop := w.heap[R]? = some (.cells #[va, vb, vi] 85 (0, 0))
theorem UnR.cells {w : World} {R : Nat} {va vb vi : Value} (h : UnR w R va vb vi) :
    w.cell? ⟨R, 0, none⟩ = some va ∧ w.cell? ⟨R, 1, none⟩ = some vb ∧ w.cell? ⟨R, 2, none⟩ = some vi ∧ w.frozen? ⟨R, 0, none⟩ = false ∧ w.frozen? ⟨R, 1, none⟩ = false ∧ w.frozen? ⟨R, 2, none⟩ = false := by
  unfold UnR at h
  exact ⟨by simp [World.cell?, h], by simp [World.cell?, h], by simp [World.cell?, h], by simp [World.frozen?, h], by simp [World.frozen?, h], by simp [World.frozen?, h]⟩
theorem UnR.lt {w : World} {R : Nat} {va vb vi : Value} (h : UnR w R va vb vi) : R < w.heap.size := (Array.getElem?_eq_some_iff.1 h).1
theorem UnR.keep {w w' : World} {R C : Nat} {va vb vi : Value} (h : UnR w R va vb vi) (hb : Below C w w') (hC : w.heap.size ≤ C) : UnR w' R va vb vi := by
  have := hb.block R (Nat.lt_of_lt_of_le h.lt hC)
  unfold UnR at h ⊢
  rw [this]
  exact h
theorem areLim2_any (xs ys : List Nd) (a a' : Option Addr) (len cap len' cap' C : Nat) (w : World) (hl : len ≤ 1048576) (hl' : len' ≤ 1048576) (h : AtN w a len xs) (h' : AtN w a' len' ys) (t : TypeId) (hC : C = w.heap.size) :
    Calls Try.prog 71 #[.slice (some ⟨C, 0, none⟩) 2 2] (w.alloc (.cells #[.slice a len cap, .slice a' len' cap'] t)) fun e w' => e = .returned (.bool (decide (len ≤ 40) && decide (len' ≤ 40))) ∧ (w.alloc (.cells #[.slice a len cap, .slice a' len' cap'] t)) = w' := by
  refine (areLim_any [xs, ys] _ 2 2 _ (by omega) (nthL_le2 (by rw [← h.1]; exact hl) (by rw [← h'.1]; exact hl')) (lay2 h h' t hC)).mono ?_
  rintro e w' ⟨rfl, hb⟩
  exact ⟨by rw [h.1, h'.1]; simp [limB, List.range_succ, nthL], hb⟩

set_option maxHeartbeats 4000000 in
theorem isDone_any (xs ys : List Nd) (R : Nat) (a a' : Option Addr) (n n' c c' : Nat) (vi : Value) (w : World) (hl : n ≤ 1048576) (hl' : n' ≤ 1048576) (hR : UnR w R (.slice a n c) (.slice a' n' c') vi) (h : AtN w a n xs) (h' : AtN w a' n' ys) :
    Calls Try.prog 78 #[.pointer (some ⟨R, 0, none⟩)] w fun e w' => e = .returned (.bool (decide (xs = ys))) ∧ Below w.heap.size w w' := by
  obtain ⟨c0, c1, c2, -⟩ := hR.cells
  have H := Lib.hid h
  have H' := Lib.hid h'
  clear h h' hR
  go_enter Try.func78, Try.ntmps78
  go_wp2
  go_region_with (go_at_call 94; refine (slEqual_any xs ys _ _ _ _ _ _ _ hl hl' (show AtN w.drew _ _ _ from H.out) (show AtN w.drew _ _ _ from H'.out)).mono ?_; rintro e w1 ⟨rfl, hb1⟩)
  all_goals (try go_wp2_with fail)
  all_goals go_ret
  all_goals exact ⟨rfl, (show Below w.heap.size w _ from (Below.refl w.heap.size w).drew.trans hb1)⟩

set_option maxHeartbeats 4000000 in
set_option maxRecDepth 100000 in
theorem isLimit_any (xs ys : List Nd) (im : List (List Nd)) (R : Nat) (a a' g : Option Addr) (n n' m c c' cm : Nat) (w : World) (hl : n ≤ 1048576) (hl' : n' ≤ 1048576) (hm : m ≤ 4096) (hi : ∀ j, j < m → (nthL im j).length ≤ 1048576) (hR : UnR w R (.slice a n c) (.slice a' n' c') (.slice g m cm)) (h : AtN w a n xs) (h' : AtN w a' n' ys) (h2 : AtNN w g m im) :
    Calls Try.prog 81 #[.pointer (some ⟨R, 0, none⟩)] w fun e w' => e = .returned (.bool ((decide (n ≤ 40) && decide (n' ≤ 40)) && limB im m)) ∧ Below w.heap.size w w' := by
  obtain ⟨c0, c1, c2, -⟩ := hR.cells
  have B1 := Lib.hid (((Below.refl w.heap.size w).drew.alloc (Nat.le_refl _) (.cells #[.slice a n c, .slice a' n' c'] 26)))
  have C := Lib.hid (areLim2_any xs ys a a' n c n' c' w.heap.size w.drew hl hl' (show AtN w.drew _ _ _ from h) (show AtN w.drew _ _ _ from h') 26 rfl)
  have C2 := Lib.hid (areLim_any im g m cm _ hm hi (h2.keep B1.out (Nat.le_refl _)))
  obtain ⟨d0, d1, d2, -⟩ := (hR.keep B1.out (Nat.le_refl _)).cells
  obtain ⟨LB, hLB⟩ : ∃ LB, LB = (decide (n ≤ 40) && decide (n' ≤ 40)) := ⟨_, rfl⟩
  obtain ⟨L2, hL2⟩ : ∃ L2, L2 = limB im m := ⟨_, rfl⟩
  rw [← hLB] at C ⊢
  rw [← hL2] at C2 ⊢
  clear h h' hR hi h2 hLB hL2
  go_enter Try.func81, Try.ntmps81
  go_wp2
  cases LB
  · first | (go_region_with (go_at_call 71; refine C.out.mono ?_; rintro e w1 ⟨rfl, rfl⟩)) | fail
    all_goals (try go_wp2_with fail)
    all_goals go_ret
    all_goals exact ⟨rfl, B1.out⟩
  · first | (go_region_held3 (fun w' => w'.cell? ⟨R, 0, none⟩ = some (.slice a n c) ∧ w'.cell? ⟨R, 1, none⟩ = some (.slice a' n' c') ∧ w'.cell? ⟨R, 2, none⟩ = some (.slice g m cm)) (first | exact ⟨c0, c1, c2⟩ | exact ⟨d0, d1, d2⟩ | go_keep) (first | (go_at_call_of 71 cm; refine C2.out.mono ?_; rintro e w1 ⟨rfl, rfl⟩) | (go_at_call 71; refine C.out.mono ?_; rintro e w1 ⟨rfl, rfl⟩))) | fail
    all_goals (try go_wp2_with fail)
    all_goals go_ret
    all_goals exact ⟨ret_bool (Bool.true_and _).symm, B1.out⟩

end Go.Proofs.Ytbhgedabcclimaa
