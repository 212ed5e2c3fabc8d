/- What the law FnClosures asks of a closed frame. Plain mathematics. -/
import Derived.Test.YtpedinmflhgcoaaCsM
import Derived.Test.YtpedinmflhgcoaaClF
import Derived.Test.YtpedinmflhgcoaaFf
import Derived.Test.YtpedinmflhgcoaaDcf
namespace Go.Proofs.Ytpedinmflhgcoaa
open Go.RowKit

/-- The list of the closed frame. -/
noncomputable def clY (n : Int) (xs : List Int) (f : Int) : List Int := clL n xs (Classical.epsilon (EuSpec xs)) f
theorem frB_of {ys : List Int} (h8 : ys.length ≤ 8) (hr : Rel ys.length (nth ys)) : frB ys.length ys = true :=
  frB_eq (by simp [inB]; omega) rfl ((mksTo_iff (by omega) ys ys.length).2 fun i _ => hr i)
theorem clos_all {n f : Int} {xs : List Int} (h : clC n xs f = 0) :
    n = xs.length ∧ xs.length ≤ 8 ∧ knF f = true ∧ (clY n xs f).length = xs.length ∧ frB (clY n xs f).length (clY n xs f) = true ∧ clC (clY n xs f).length (clY n xs f) f = 0 ∧ clY (clY n xs f).length (clY n xs f) f = clY n xs f ∧
    rtC n xs = 0 ∧ rtC (clY n xs f).length (clY n xs f) = 0 ∧ flB f.toNat (clY n xs f) = true ∧ flB f.toNat xs = sfB n xs (clY n xs f).length (clY n xs f) ∧ ∀ k, k < xs.length → bits .andNot .i64 (nth xs k) (nth (clY n xs f) k) = 0 := by
  cases hfr : frB n xs
  · rw [clC_1 hfr] at h; cases h
  · cases hk : knF f
    · rw [clC_2 hfr hk] at h; cases h
    · obtain ⟨hn, h8, -, hr⟩ := frB_ok hfr
      have hE := eps_ok n xs hfr
      have e : clY n xs f = clR xs (Classical.epsilon (EuSpec xs)) f := clL_ok h
      obtain ⟨c1, c2⟩ := clR_T h8 hr hE hk
      have hlen := clR_len hE f
      rw [← e] at c1 c2 hlen
      generalize hy : clY n xs f = ys at e c1 c2 hlen ⊢
      have hry : Rel ys.length (nth ys) := by rw [hlen]; exact c1
      have h8y : ys.length ≤ 8 := by omega
      have hfy := frB_of h8y hry
      have hCy : clC ys.length ys f = 0 := clC_0 hfy hk
      have hH : Hasf f ys := cl_has hr hlen hk c2 c1
      have hsame : clY ys.length ys f = ys := by
        rw [clY, clL_ok hCy]
        exact cl_same h8y hry (eps_ok _ ys hfy) hk hH
      refine ⟨hn, h8, rfl, hlen, hfy, hCy, hsame, by rw [rtC, hfr]; rfl, by rw [rtC, hfy]; rfl, (fl_has h8y hry hk).2 hH, ?_, fun k hk' => ?_⟩
      · rw [Bool.eq_iff_iff, fl_has h8 hr hk, sfB, Bool.and_eq_true, decide_eq_true_eq, decide_eq_true_eq]
        constructor
        · intro hh
          have := cl_same h8 hr hE hk hh
          rw [← e] at this
          exact ⟨by omega, this.symm⟩
        · rintro ⟨-, hxy⟩
          rw [hxy]; exact hH
      · refine (andNot_zero (by omega) (hr k) (c1 k)).2 fun i hi => (c2 k i hk').2 (cl_sub hk hi)

end Go.Proofs.Ytpedinmflhgcoaa
