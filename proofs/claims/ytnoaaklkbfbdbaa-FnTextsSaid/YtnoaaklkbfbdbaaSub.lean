/- Contracts of the model's functions that list the texts of all parts of a formula. Conditions: those in the theorems. -/
import Derived.Sort.Walk0
import Derived.Lib.Walk
import Derived.Test.YtnoaaklkbfbdbaaJn11
import Derived.Test.YtnoaaklkbfbdbaaJn10
import Derived.Test.YtnoaaklkbfbdbaaWrite3
namespace Go.Proofs.Ytnoaaklkbfbdbaa
open Go.RowKit

open Classical in
/-- The formula at an index of a list of nodes. -/
noncomputable def fmAt (xs : List Nd) (j : Nat) : Fm := if h : ∃ f : Fm, f.ok ∧ ∃ r, xs.drop j = f.enc ++ r then Classical.choose h else .fa
theorem fmAt_of {xs : List Nd} (h : isB xs xs.length = true) {j : Nat} (hj : j < xs.length) : (fmAt xs j).ok ∧ ∃ r, xs.drop j = (fmAt xs j).enc ++ r := by
  obtain ⟨f, r, hf, he⟩ := sub_at h hj
  have hx : ∃ f : Fm, f.ok ∧ ∃ r, xs.drop j = f.enc ++ r := ⟨f, hf, r, he⟩
  rw [fmAt, dif_pos hx]
  exact Classical.choose_spec hx
noncomputable def txAt (xs : List Nd) (j : Nat) : List UInt8 := (fmAt xs j).wr 0
theorem AtN.part {w : World} {b off len cap : Nat} {xs : List Nd} (h : AtN w (some ⟨b, off, none⟩) len xs) (hc : len ≤ cap) (hm : cap ≤ maxLen) {j : Nat} {f : Fm} {r : List Nd} (he : xs.drop j = f.enc ++ r) :
    j + f.sz ≤ len ∧ AtF w b (off + j * 2) f.sz (cap - j) f := by
  have hl := h.1
  have hsz := congrArg List.length he
  have hp := f.sz_pos
  simp [Fm.enc_len] at hsz
  have hjl : j + f.sz ≤ len := by omega
  have hs := h.sub j f.sz hjl
  have e : (xs.drop j).take f.sz = f.enc := by rw [he, ← Fm.enc_len]; simp
  rw [e] at hs
  exact ⟨hjl, hs, by omega, by omega⟩

theorem lt_ne (x y : List UInt8) (h : ¬ y < x) (k : x ≠ y) : x < y := by
  by_cases e : x < y
  · exact e
  · exact absurd (List.le_antisymm (List.not_lt.1 h) (List.not_lt.1 e)) k
theorem less_lt (x y : List UInt8) : Op.bytesLess x y = decide (x < y) := Go.Proofs.bytesLess_eq x y

/-- A list in strictly ascending order, with one element put in. -/
theorem ins_up {l : List (List UInt8)} {t : List UInt8} (hl : l.Pairwise (· < ·)) {k : Nat} (hk : k ≤ l.length) (h1 : ∀ j, j < k → nthS l j < t) (h2 : k < l.length → t < nthS l k) :
    (l.take k ++ [t] ++ l.drop k).Pairwise (· < ·) ∧ ∀ x, x ∈ l.take k ++ [t] ++ l.drop k ↔ x ∈ l ∨ x = t := by
  have hT : ∀ x ∈ l.take k, x < t := by
    intro x hx
    obtain ⟨j, hj, e⟩ := List.getElem_of_mem hx
    have hj' : j < k := by simp at hj; omega
    have := h1 j hj'
    have e2 : nthS l j = x := by simp [nthS, List.getD_eq_getElem?_getD, show j < l.length by omega]; rw [← e]; simp
    rwa [e2] at this
  have hD : ∀ x ∈ l.drop k, t < x := by
    intro x hx
    obtain ⟨j, hj, e⟩ := List.getElem_of_mem hx
    have hkl : k < l.length := by simp at hj; omega
    have hkj : k + j < l.length := by simp at hj; omega
    have h3 := h2 hkl
    have e2 : nthS l k = l[k] := by simp [nthS, List.getD_eq_getElem?_getD, hkl]
    have e3 : x = l[k + j] := by rw [← e]; simp
    rw [e2] at h3
    by_cases h0 : j = 0
    · subst h0; rw [e3]; exact h3
    · rw [List.pairwise_iff_getElem] at hl
      have h4 := hl k (k + j) hkl hkj (by omega)
      rw [e3]
      exact List.lt_trans h3 h4
  have hP := hl
  rw [← List.take_append_drop k l, List.pairwise_append] at hP
  refine ⟨?_, fun x => ?_⟩
  · rw [List.append_assoc, List.pairwise_append]
    refine ⟨hP.1, ?_, fun x hx y hy => ?_⟩
    · rw [List.singleton_append, List.pairwise_cons]
      exact ⟨hD, hP.2.1⟩
    · rcases List.mem_cons.1 hy with rfl | hy
      · exact hT x hx
      · exact hP.2.2 x hx y hy
  · have : x ∈ l ↔ x ∈ l.take k ∨ x ∈ l.drop k := by
      conv => lhs; rw [← List.take_append_drop k l]
      exact List.mem_append
    rw [this]
    simp
    constructor
    · rintro (h | h | h)
      · exact .inl (.inl h)
      · exact .inr h
      · exact .inl (.inr h)
    · rintro ((h | h) | h)
      · exact .inl h
      · exact .inr (.inr h)
      · exact .inr (.inl h)

theorem AtS.sub {w : World} {b off len : Nat} {l : List (List UInt8)} (h : AtS w (some ⟨b, off, none⟩) len l) (i n : Nat) (hi : i + n ≤ len) : AtS w (some ⟨b, off + i, none⟩) n ((l.drop i).take n) := by
  have hl := h.1
  refine ⟨by simp; omega, ?_⟩
  by_cases hn : n = 0
  · exact .inl hn
  · obtain ⟨b', off', ha, hb, hc⟩ := h.2.resolve_left (by omega)
    cases ha
    refine .inr ⟨b, off + i, rfl, hb, fun j hj => ?_⟩
    have e1 : nthS ((l.drop i).take n) j = nthS l (i + j) := by simp [nthS, List.getD_eq_getElem?_getD, hj, List.getElem?_drop]
    have := hc (i + j) (by omega)
    rw [e1, Nat.add_assoc]
    exact this
theorem AtS.news0 {w : World} {ad : Addr} {m : Nat} {ys : List (List UInt8)} (h : AtS w (some ad) m ys) : ∀ j u, (cS ys)[j]? = some u → w.cell? (ad.add j) = some u := by
  intro j u hu
  by_cases h0 : m = 0
  · have : ys = [] := List.eq_nil_of_length_eq_zero (by rw [← h.1]; exact h0)
    subst this
    simp [cS] at hu
  · obtain ⟨b, off, ha, -, -⟩ := h.2.resolve_left h0
    cases ha
    exact h.news j u hu

/-- What l02Insert leaves. -/
def InsR (B : Nat) (w : World) (l : List (List UInt8)) (t : List UInt8) (e : Ending) (w' : World) : Prop :=
  ∃ g c l', e = .returned (.slice (some ⟨g, 0, none⟩) l'.length c) ∧ OwnS w' B (.slice (some ⟨g, 0, none⟩) l'.length c) l' ∧ l'.Pairwise (· < ·) ∧ (∀ x, x ∈ l' ↔ x ∈ l ∨ x = t) ∧ l'.length ≤ l.length + 1 ∧ Below B w w'

end Go.Proofs.Ytnoaaklkbfbdbaa
