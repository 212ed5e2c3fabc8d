/- The program's reader of formulas: the contract of the method that joins the last two parts. Conditions: those in the theorems. -/
import Derived.Test.YtbfpfhmhgcmbaaaFj
namespace Go.Proofs.Ytbfpfhmhgcmbaaa
open Go.RowKit

theorem fl_bin {w w1 : World} {R lo ex g cP L : Nat} {W : List Int} {P : List Fm} {a b f : Fm} {us : List Value} {vW v : Value} (hL : L = P.length + 1) (hR : w.heap[R]? = some (.cells #[.int .i64 ex, vW, .slice (some ⟨g, 0, none⟩) (L + 1) cP] 33 (0, 0))) (hRl : True) (hW : w.ownsRow lo 2 1 vW W.length (wV W))
    (hP : w.ownsRow lo 22 1 (.slice (some ⟨g, 0, none⟩) (L + 1) cP) (L + 1) us) (hPa : Pa w lo (b :: a :: P) us) (hlo : lo ≤ w.heap.size) (hb : Below w.heap.size w w1) (ho : OwnN w1 w.heap.size v f.enc) :
    Fl ((w1.setCell ⟨g, P.length, none⟩ v).setCell ⟨R, 2, none⟩ (.slice (some ⟨g, 0, none⟩) L cP)) R lo ex W (f :: P) ∧ BX R lo w ((w1.setCell ⟨g, P.length, none⟩ v).setCell ⟨R, 2, none⟩ (.slice (some ⟨g, 0, none⟩) L cP)) ∧
    (w1.setCell ⟨g, P.length, none⟩ v).cell? ⟨R, 2, none⟩ = some (.slice (some ⟨g, 0, none⟩) (L + 1) cP) ∧ (w1.setCell ⟨g, P.length, none⟩ v).frozen? ⟨R, 2, none⟩ = false := by
  subst hL
  have hul := hP.1
  have hR1 := (hb.block R (Array.getElem?_eq_some_iff.1 hR).1).trans hR
  have hW1 := ownsRow_below hW (row_lt hW) hb
  have hP1 := ownsRow_below hP (row_lt hP) hb
  have hPa1 : Pa w1 lo (f :: P) ((us.take (P.length + 1)).set P.length v) := (hPa.below hb).pop.set (by simp; omega) (ownsRow_mono ho hlo)
  have hst := hP1.stored P.length v
  have hgl : lo ≤ g := (row_type hP g rfl).1
  have hR2 := rec_kept hR1 hst.2 (row_other hP1 tys.2.2.2.2.1)
  have hW2 := row_kept hW1 hst.2 (row_other hP1 (Ne.symm tys.1))
  have hP2 := row_take hst.1 (P.length + 1) (by omega)
  have hPa2 := hPa1.kept hst.2 (row_other hP1 tys.2.2.2.1)
  rw [List.take_set] at hP2
  obtain ⟨-, -, d2, -, -, g2⟩ := fl_cells hR2
  exact ⟨⟨vW, _, _, set_heap hR2 2 _, hRl, row_set hW2 hR2 (Ne.symm tys.2.2.1) 2 _, row_set hP2 hR2 (Ne.symm tys.2.2.2.2.1) 2 _, hPa2.kept (grown_set _ R 2 _) (rec_other hR2 (Ne.symm tys.2.2.2.2.2))⟩, ((Below.bx hb hlo).setCell (p := ⟨g, P.length, none⟩) (.inr hgl) v).setCell (p := ⟨R, 2, none⟩) (.inl rfl) _, d2, g2⟩

end Go.Proofs.Ytbfpfhmhgcmbaaa
