/- The program's reader of formulas: the methods that join parts. Conditions: those in the theorems. -/
import Derived.Test.YtbfpfhmhgcmbaaaFjb
namespace Go.Proofs.Ytbfpfhmhgcmbaaa
open Go.RowKit

theorem jp_not (b : Fm) (P : List Fm) : jp (-2) (b :: P) = .bi 4 b .fa :: P := by cases P <;> simp [jp]
theorem jp_un {m : Int} (h : m = 5 ∨ m = 6) (b : Fm) (P : List Fm) : jp m (b :: P) = .un m b :: P := by
  rcases h with rfl | rfl <;> cases P <;> simp [jp]
theorem jp_bin {m : Int} (h : m = 2 ∨ m = 3 ∨ m = 4) (a b : Fm) (P : List Fm) : jp m (b :: a :: P) = .bi m a b :: P := by
  rcases h with rfl | rfl | rfl <;> simp [jp]
theorem nb_le (W : List Int) : nb W ≤ W.length := by
  induction W with
  | nil => exact Nat.le_refl _
  | cons m W ih => rw [nb, List.length_cons]; split <;> omega

theorem joinParts_any (R lo ex n : Nat) (m : Int) (W : List Int) (P : List Fm) (w : World) (hn : n ≤ 200) (hwp : WP 1 n (m :: W) P) (hm : m ≠ -1) (hlo : lo ≤ w.heap.size) (h : Fl w R lo ex W P) :
    Calls Try.prog 41 #[.pointer (some ⟨R, 0, none⟩), .int .i64 m] w fun e w' => (∃ v, e = .returned v) ∧ Fl w' R lo ex W (jp m P) ∧ BX R lo w w' := by
  obtain ⟨h1, h2, h3, h4⟩ := hwp
  have hk := nb_le W
  simp only [List.length_cons] at h4
  rcases h1 m (List.mem_cons_self ..) with e | e | e
  · subst e
    match P, h2, h4, h with
    | [], h2, _, _ => simp [nb] at h2
    | b :: P', h2, h4, h =>
      rw [jp_not]
      have e1 : (if ((-2 : Int) = 2 ∨ (-2 : Int) = 3 ∨ (-2 : Int) = 4) then 1 else 0) = 0 := by decide
      simp only [nb, e1, List.length_cons] at h2
      simp only [ms'] at h4
      exact joinNot_any R lo ex W P' b w (by omega) hlo (by omega) h
  · exact absurd e hm
  · rcases e with e | e | e | e | e
    · match P, h2, h4, h with
      | [], h2, _, _ => simp [nb, e] at h2
      | [a], h2, _, _ => simp [nb, e] at h2
      | b :: a :: P', h2, h4, h =>
        rw [jp_bin (.inl e)]
        simp only [nb, if_pos (show m = 2 ∨ m = 3 ∨ m = 4 from .inl e), List.length_cons] at h2
        simp only [ms'] at h4
        exact joinBin_any R lo ex W P' a b m (.inl e) w (by omega) hlo (by omega) h
    · match P, h2, h4, h with
      | [], h2, _, _ => simp [nb, e] at h2
      | [a], h2, _, _ => simp [nb, e] at h2
      | b :: a :: P', h2, h4, h =>
        rw [jp_bin (.inr (.inl e))]
        simp only [nb, if_pos (show m = 2 ∨ m = 3 ∨ m = 4 from .inr (.inl e)), List.length_cons] at h2
        simp only [ms'] at h4
        exact joinBin_any R lo ex W P' a b m (.inr (.inl e)) w (by omega) hlo (by omega) h
    · match P, h2, h4, h with
      | [], h2, _, _ => simp [nb, e] at h2
      | [a], h2, _, _ => simp [nb, e] at h2
      | b :: a :: P', h2, h4, h =>
        rw [jp_bin (.inr (.inr e))]
        simp only [nb, if_pos (show m = 2 ∨ m = 3 ∨ m = 4 from .inr (.inr e)), List.length_cons] at h2
        simp only [ms'] at h4
        exact joinBin_any R lo ex W P' a b m (.inr (.inr e)) w (by omega) hlo (by omega) h
    · match P, h2, h4, h with
      | [], h2, _, _ => simp [nb, e] at h2
      | b :: P', h2, h4, h =>
        rw [jp_un (.inl e)]
        simp only [nb, if_neg (show ¬ (m = 2 ∨ m = 3 ∨ m = 4) by omega), List.length_cons] at h2
        simp only [ms'] at h4
        exact joinUn_any R lo ex W P' b m (.inl e) w (by omega) hlo (by omega) h
    · match P, h2, h4, h with
      | [], h2, _, _ => simp [nb, e] at h2
      | b :: P', h2, h4, h =>
        rw [jp_un (.inr e)]
        simp only [nb, if_neg (show ¬ (m = 2 ∨ m = 3 ∨ m = 4) by omega), List.length_cons] at h2
        simp only [ms'] at h4
        exact joinUn_any R lo ex W P' b m (.inr e) w (by omega) hlo (by omega) h

theorem bindOf_any (m : Int) (w : World) : Calls Try.prog 40 #[.int .i64 m] w fun e w' => e = .returned (.int .i64 (bnd m)) ∧ w = w' := by
  by_cases e1 : m = -1
  · subst e1
    go_enter Try.func40, Try.ntmps40
    go_wp2
    go_ret
    exact ⟨rfl, rfl⟩
  by_cases e2 : m = 4
  · subst e2
    go_enter Try.func40, Try.ntmps40
    go_wp2
    go_ret
    exact ⟨rfl, rfl⟩
  by_cases e3 : m = 3
  · subst e3
    go_enter Try.func40, Try.ntmps40
    go_wp2
    go_ret
    exact ⟨rfl, rfl⟩
  by_cases e4 : m = 2
  · subst e4
    go_enter Try.func40, Try.ntmps40
    go_wp2
    go_ret
    exact ⟨rfl, rfl⟩
  by_cases e5 : m = 5
  · subst e5
    go_enter Try.func40, Try.ntmps40
    go_wp2
    go_ret
    exact ⟨rfl, rfl⟩
  by_cases e6 : m = 6
  · subst e6
    go_enter Try.func40, Try.ntmps40
    go_wp2
    go_ret
    exact ⟨rfl, rfl⟩
  by_cases e7 : m = -2
  · subst e7
    go_enter Try.func40, Try.ntmps40
    go_wp2
    go_ret
    exact ⟨rfl, rfl⟩
  have E : bnd m = 5 := by simp [bnd, e1, e2, e3, e4, e5, e6, e7]
  go_enter Try.func40, Try.ntmps40
  go_wp2
  go_ret
  exact ⟨by rw [E]; rfl, rfl⟩

end Go.Proofs.Ytbfpfhmhgcmbaaa
