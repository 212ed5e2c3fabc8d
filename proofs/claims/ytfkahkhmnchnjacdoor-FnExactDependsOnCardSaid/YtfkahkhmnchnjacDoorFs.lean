/- The first row with a value by the model; IsTautology of the model and of the program. Conditions: the package's table for the program, and those in the theorems. -/
import Derived.Test.YtfkahkhmnchnjacDoorMa
import Derived.Test.YtfkahkhmnchnjacDoorTv
namespace Go.Proofs.YtfkahkhmnchnjacDoor
open Go.RowKit

/-- The number of the first element that is v, counted from k; -1 if none is. -/
def fs : List Bool → Bool → Nat → Int
  | [], _, _ => -1
  | b :: bs, v, k => if b = v then k else fs bs v (k + 1)
theorem fs_end {bs : List Bool} {v : Bool} {k n : Nat} (h : fs bs v 0 = fs (bs.drop k) v k) (hk : k = n) (hn : n = bs.length) : fs bs v 0 = -1 := by
  rw [h, List.drop_eq_nil_of_le (by omega)]; rfl
theorem fs_hit {bs : List Bool} {v : Bool} {k n : Nat} (h : fs bs v 0 = fs (bs.drop k) v k) (hk : k < n) (hn : n = bs.length) (e : bs.getD k false = v) : fs bs v 0 = k := by
  subst hn
  rw [h, List.drop_eq_getElem_cons hk, fs, if_pos (by rw [← e]; simp [List.getD, hk])]
theorem fs_go {bs : List Bool} {v : Bool} {k n : Nat} (h : fs bs v 0 = fs (bs.drop k) v k) (hk : k < n) (hn : n = bs.length) (e : bs.getD k false ≠ v) : fs bs v 0 = fs (bs.drop (k + 1)) v (k + 1) := by
  subst hn
  rw [h, List.drop_eq_getElem_cons hk, fs, if_neg (by intro e2; exact e (by rw [← e2]; simp [List.getD, hk]))]
theorem fs_neg {bs : List Bool} {v : Bool} (k : Nat) : fs bs v k < 0 ↔ ∀ b ∈ bs, b ≠ v := by
  induction bs generalizing k with
  | nil => simp [fs]
  | cons b bs ih =>
    rw [fs]
    split
    · rename_i h; subst h; simp
    · rename_i h
      rw [ih]; simp [h]
theorem fs_tbl {f : Fm} {v : Bool} : fs (tbl f 64) v 0 < 0 ↔ ∀ r, r < 64 → f.ev r ≠ v := by
  rw [fs_neg]
  simp [tbl]
theorem all_ones (f : Fm) (hf : f.ok) : (U f.mw == 18446744073709551615) = decide (fs (tbl f 64) false 0 < 0) := by
  rw [U_all, U_beq, Bool.eq_iff_iff, beq_iff_eq, decide_eq_true_eq, fs_tbl]
  constructor
  · intro h r hr
    rw [← Fm.mw_row f hf r hr, h, BitVec.getLsbD_allOnes]; simp [hr]
  · intro h
    refine word_ext fun r hr => ?_
    rw [Fm.mw_row f hf r hr, BitVec.getLsbD_allOnes]
    have := h r hr
    cases e : f.ev r
    · exact (this e).elim
    · simp [hr]

noncomputable def tauR (xs : List Nd) : Bool := if ck xs = 0 then decide (fs (tbl (toFm xs) 64) false 0 < 0) else false
theorem tauR_bad {xs : List Nd} (h : ck xs ≠ 0) : tauR xs = false := if_neg h
theorem tauR_good {xs : List Nd} (h : ck xs = 0) : tauR xs = decide (fs (tbl (toFm xs) 64) false 0 < 0) := if_pos h
theorem plain_at {xs : List Nd} {a : Option Addr} {cap : Nat} {w : World} (hc : ck xs = 0) (h : AtN w a xs.length xs) (h1 : xs.length ≤ cap) (h2 : cap ≤ maxLen) :
    ∃ b off, a = some ⟨b, off, none⟩ ∧ AtF w b off xs.length cap (toFm xs) ∧ (toFm xs).ok ∧ (toFm xs).pl ∧ xs.length ≤ 40 := by
  obtain ⟨hb, hpl⟩ := ck_good hc
  obtain ⟨b, off, ha, hf⟩ := h.formula hb h1 h2
  exact ⟨b, off, ha, hf, (toFm_of hb).1, toFm_pl hb hpl, (is_pos' hb).2⟩
theorem ret_bi {a b : Bool} {i j : Int} (h1 : a = b) (h2 : i = j) : Ending.returned (.tuple #[.bool a, .int .i64 i]) = .returned (.tuple #[.bool b, .int .i64 j]) := by rw [h1, h2]

end Go.Proofs.YtfkahkhmnchnjacDoor
