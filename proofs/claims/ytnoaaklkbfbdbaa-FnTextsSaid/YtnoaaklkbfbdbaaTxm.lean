/- The texts of a formula's parts, told for the law FnTexts. Conditions: those in the theorems. -/
import Derived.Test.YtnoaaklkbfbdbaaJn12
import Derived.Test.YtnoaaklkbfbdbaaCmp
import Derived.Test.YtnoaaklkbfbdbaaJn13
namespace Go.Proofs.Ytnoaaklkbfbdbaa

theorem toFm_encT (f : Fm) (hf : f.ok) (h40 : f.sz ≤ 40) : toFm f.enc = f := by
  have hb := fm_is f hf h40
  obtain ⟨g1, g2, -⟩ := toFm_of hb
  exact (enc_inj _ g1 f [] [] hf (by rw [← g2])).1
theorem fmAt_zero (f : Fm) (hf : f.ok) (h40 : f.sz ≤ 40) : fmAt f.enc 0 = f := by
  have hb := fm_is f hf h40
  obtain ⟨g1, r, g2⟩ := fmAt_of hb (is_pos' hb).1
  exact (enc_inj f hf _ [] r g1 (by rw [List.append_nil]; simpa using g2)).1.symm
theorem tx_mem (f : Fm) (hf : f.ok) (h40 : f.sz ≤ 40) : f.wr 0 ∈ suL f.enc f.enc.length :=
  ((suL_facts f.enc f.enc.length).2 _).2 ⟨0, (is_pos' (fm_is f hf h40)).1, by rw [txAt, fmAt_zero f hf h40]⟩
theorem nthS_mem {L : List (List UInt8)} {i : Nat} (h : i < L.length) : nthS L i ∈ L := by
  rw [nthS, List.getD_eq_getElem?_getD, List.getElem?_eq_getElem h]
  exact List.getElem_mem _
theorem tx_entry {z : List Nd} (hB : isB z z.length = true) {i : Nat} (h : i < (suL z z.length).length) : ∃ g : Fm, g.ok ∧ g.sz ≤ 40 ∧ nthS (suL z z.length) i = g.wr 0 := by
  obtain ⟨j, hj, e⟩ := ((suL_facts z z.length).2 _).1 (nthS_mem h)
  obtain ⟨g1, r, g2⟩ := fmAt_of hB hj
  refine ⟨fmAt z j, g1, ?_, e⟩
  have q := congrArg List.length g2
  have p := (is_pos' hB).2
  simp [Fm.enc_len] at q
  omega
theorem tx_up {z : List Nd} {i : Nat} (h : i + 1 < (suL z z.length).length) : nthS (suL z z.length) i < nthS (suL z z.length) (i + 1) := by
  have q := List.pairwise_iff_getElem.1 (suL_facts z z.length).1 i (i + 1) (by omega) h (by omega)
  have e : ∀ k, (hk : k < (suL z z.length).length) → nthS (suL z z.length) k = (suL z z.length)[k] := fun k hk => by rw [nthS, List.getD_eq_getElem?_getD, List.getElem?_eq_getElem hk]; rfl
  rw [e _ (by omega), e _ h]
  exact q
theorem co_fm (g f : Fm) (hg : g.ok) (hf : f.ok) (h1 : g.sz ≤ 40) (h2 : f.sz ≤ 40) : coR g.enc f.enc = Lib.compareBytes (g.wr 0) (f.wr 0) ∧ coC g.enc f.enc = 0 := by
  have q := co_good (xs := g.enc) (ys := f.enc) (by rw [fm_is g hg h1, fm_is f hf h2]; rfl)
  rw [toFm_encT g hg h1, toFm_encT f hf h2] at q
  exact q
theorem cmp3 (a b : List UInt8) : (Lib.compareBytes a b = -1 ∧ Op.bytesLess a b = true ∧ ¬ a = b) ∨ (Lib.compareBytes a b = 1 ∧ Op.bytesLess a b = false ∧ ¬ a = b) ∨ (Lib.compareBytes a b = 0 ∧ Op.bytesLess a b = false ∧ a = b) := by
  rw [cmp_less, less_lt, less_lt]
  by_cases h1 : a < b
  · exact .inl ⟨by simp [h1], by simp [h1], fun e => by subst e; exact List.lt_irrefl _ h1⟩
  · by_cases h2 : b < a
    · exact .inr (.inl ⟨by simp [h1, h2], by simp [h1], fun e => by subst e; exact h1 h2⟩)
    · exact .inr (.inr ⟨by simp [h1, h2], by simp [h1], List.le_antisymm (List.not_lt.1 h2) (List.not_lt.1 h1)⟩)

end Go.Proofs.Ytnoaaklkbfbdbaa
