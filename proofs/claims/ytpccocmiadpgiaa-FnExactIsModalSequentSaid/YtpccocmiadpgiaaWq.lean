/- What is read is a formula, and its place of the first bad byte lies in the text; what ParseFormula answers, by its error. No conditions but those in the theorems. -/
import Derived.Test.YtpccocmiadpgiaaWp
namespace Go.Proofs.Ytpccocmiadpgiaa

def MOk (m : Int) : Prop := m = -2 ∨ m = -1 ∨ m = 2 ∨ m = 3 ∨ m = 4 ∨ m = 5 ∨ m = 6
def SOk (W : List Int) (P : List Fm) : Prop := (∀ m ∈ W, MOk m) ∧ ∀ f ∈ P, f.ok
theorem jp_ok {m : Int} {P : List Fm} (hm : MOk m) (h1 : ¬ m = -1) (hP : ∀ f ∈ P, f.ok) : ∀ f ∈ jp m P, f.ok := by
  match P, hP with
  | [], _ => simp [jp]
  | [a], hP =>
    have ha : a.ok := hP a (by simp)
    simp only [jp]
    split
    · intro f hf; simp at hf; subst hf; exact ⟨by omega, ha, trivial⟩
    · split
      · rename_i h; intro f hf; simp at hf; subst hf; exact ⟨h, ha⟩
      · intro f hf; simp at hf; subst hf; exact ha
  | b :: a :: P, hP =>
    have hb : b.ok := hP b (by simp)
    have ha : a.ok := hP a (by simp)
    have hr : ∀ f ∈ P, f.ok := fun f hf => hP f (by simp [hf])
    simp only [jp]
    split
    · intro f hf
      simp at hf
      rcases hf with rfl | rfl | hf
      · exact ⟨by omega, hb, trivial⟩
      · exact ha
      · exact hr f hf
    · split
      · rename_i h
        intro f hf
        simp at hf
        rcases hf with rfl | rfl | hf
        · exact ⟨h, hb⟩
        · exact ha
        · exact hr f hf
      · intro f hf
        simp at hf
        rcases hf with rfl | hf
        · exact ⟨by rcases hm with h | h | h | h | h | h | h <;> omega, ha, hb⟩
        · exact hr f hf
theorem jn_ok {b : Nat} (hb : 1 ≤ b) (W : List Int) : ∀ P, SOk W P → SOk (jn b W P).1 (jn b W P).2 := by
  induction W with
  | nil => intro P h; exact h
  | cons m W ih =>
    intro P h
    rw [jn]
    split
    · exact h
    · rename_i hlt
      have h1 : ¬ m = -1 := fun e => by subst e; simp [bnd] at hlt; omega
      exact ih _ ⟨fun x hx => h.1 x (by simp [hx]), jp_ok (h.1 m (by simp)) h1 h.2⟩
theorem sok_cons {m : Int} {W : List Int} {P : List Fm} (hm : MOk m) (h : SOk W P) : SOk (m :: W) P := ⟨fun x hx => by
  simp at hx
  rcases hx with rfl | hx
  · exact hm
  · exact h.1 x hx, h.2⟩
theorem sok_put {W : List Int} {P : List Fm} {f : Fm} (hf : f.ok) (h : SOk W P) : SOk W (f :: P) := ⟨h.1, fun x hx => by
  simp at hx
  rcases hx with rfl | hx
  · exact hf
  · exact h.2 x hx⟩
theorem stp_ok {st st' : St} {c : UInt8} (h : SOk st.W st.P) (hs : stp st c = some st') : SOk st'.W st'.P := by
  unfold stp at hs
  split at hs
  · split at hs
    · cases hs; exact sok_cons (by unfold MOk; omega) h
    · cases hs
  · split at hs
    · split at hs
      · cases hs; exact sok_cons (by unfold MOk; omega) h
      · cases hs
    · split at hs
      · split at hs
        · cases hs; exact sok_cons (by unfold MOk; omega) h
        · split at hs
          · cases hs; exact sok_cons (by unfold MOk; omega) h
          · split at hs
            · cases hs; exact h
            · split at hs
              · cases hs; exact h
              · split at hs
                · cases hs; exact sok_put trivial h
                · split at hs
                  · cases hs; exact sok_put ⟨by omega, trivial, trivial⟩ h
                  · split at hs
                    · rename_i hc
                      cases hs
                      refine sok_put ⟨?_, ?_⟩ h
                      · have := UInt8.le_iff_toNat_le.1 hc.1; simp at this; omega
                      · have := UInt8.le_iff_toNat_le.1 hc.2; simp at this; omega
                    · cases hs
      · split at hs
        · cases hs; exact sok_cons (by unfold MOk; omega) (jn_ok (by omega) _ _ h)
        · split at hs
          · cases hs; exact sok_cons (by unfold MOk; omega) (jn_ok (by omega) _ _ h)
          · split at hs
            · cases hs; exact sok_cons (by unfold MOk; omega) (jn_ok (by omega) _ _ h)
            · split at hs
              · have k := jn_ok (b := 1) (by omega) _ _ h
                obtain ⟨W1, P1, e⟩ : ∃ W1 P1, jn 1 st.W st.P = (W1, P1) := ⟨_, _, rfl⟩
                rw [e] at hs k
                cases W1 with
                | nil => simp [closed] at hs
                | cons m W1 =>
                  simp [closed] at hs
                  subst hs
                  exact ⟨fun x hx => k.1 x (by simp [hx]), k.2⟩
              · cases hs
theorem scan_ok (s : List UInt8) : ∀ st : St, SOk st.W st.P → SOk (scan st s).1.W (scan st s).1.P := by
  induction s with
  | nil => intro st h; exact h
  | cons c s ih =>
    intro st h
    rw [scan]
    cases e : stp st c with
    | none => exact h
    | some st' => exact ih st' (stp_ok h e)
theorem last_mem : ∀ (P : List Fm) (f : Fm), last P = some f → f ∈ P
  | [], _, h => by simp [last] at h
  | [a], f, h => by simp [last] at h; simp [h]
  | _ :: b :: P, f, h => List.mem_cons_of_mem _ (last_mem (b :: P) f (by simpa [last] using h))
theorem readF_good {s : List UInt8} {f : Fm} (h : readF s = some f) : f.ok := by
  have k := scan_ok s st0 ⟨by simp [st0], by simp [st0]⟩
  unfold readF at h
  obtain ⟨st, r, e⟩ : ∃ st r, scan st0 s = (st, r) := ⟨_, _, rfl⟩
  rw [e] at h k
  cases r with
  | cons c r => simp at h
  | nil =>
    simp only [ends] at h
    split at h
    · have q := jn_ok (b := 1) (by omega) _ _ k
      obtain ⟨W1, P1, e1⟩ : ∃ W1 P1, jn 1 st.W st.P = (W1, P1) := ⟨_, _, rfl⟩
      rw [e1] at h q
      cases W1 with
      | cons m W1 => simp at h
      | nil => exact q.2 f (last_mem P1 f (by simpa using h))
    · cases h

/-- What ParseFormula answers, by its error. -/
theorem p_cases (s : List UInt8) : (pC s = 6 ∧ pZ s = [] ∧ 0 ≤ pA s ∧ pA s ≤ s.length) ∨ (pC s = 3 ∧ pZ s = [] ∧ pA s = 0) ∨ (pC s = 0 ∧ pA s = 0 ∧ ∃ f : Fm, f.ok ∧ f.sz ≤ 40 ∧ pZ s = f.enc) := by
  by_cases hb : 200 < s.length
  · obtain ⟨e1, e2, e3⟩ := p_long hb
    exact .inr (.inl ⟨e3, e1, e2⟩)
  · cases hr : readF s with
    | none =>
      obtain ⟨e1, e2, e3⟩ := p_bad hb hr
      refine .inl ⟨e3, e1, by rw [e2]; omega, ?_⟩
      rw [e2]
      have : badAt s ≤ s.length := Nat.sub_le _ _
      omega
    | some f =>
      by_cases h40 : 40 < f.sz
      · obtain ⟨e1, e2, e3⟩ := p_big hb hr h40
        exact .inr (.inl ⟨e3, e1, e2⟩)
      · obtain ⟨e1, e2, e3⟩ := p_ok hb hr h40
        exact .inr (.inr ⟨e3, e2, f, readF_good hr, by omega, e1⟩)

end Go.Proofs.Ytpccocmiadpgiaa
