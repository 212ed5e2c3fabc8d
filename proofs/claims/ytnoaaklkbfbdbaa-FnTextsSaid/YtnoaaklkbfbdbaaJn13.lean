/- 2 texts in one: Wq, Mach. -/
import Derived.Test.YtnoaaklkbfbdbaaJn08
/- What is read is a formula, and its place of the first bad byte lies in the text; what ParseFormula answers, by its error. No conditions but those in the theorems. -/
namespace Go.Proofs.Ytnoaaklkbfbdbaa

def MOk (m : Int) : Prop := m = -2 ∨ m = -1 ∨ m = 2 ∨ m = 3 ∨ m = 4 ∨ m = 5 ∨ m = 6
def SOk (W : List Int) (P : List Fm) : Prop := (∀ m ∈ W, MOk m) ∧ ∀ f ∈ P, f.ok
theorem jp_ok {m : Int} {P : List Fm} (hm : MOk m) (h1 : ¬ m = -1) (hP : ∀ f ∈ P, f.ok) : ∀ f ∈ jp m P, f.ok := by
  match P, hP with
  | [], _ => simp [jp]
  | [a], hP =>
    have ha : a.ok := hP a (by simp)
    simp only [jp]
    split
    · intro f hf; simp at hf; subst hf; exact ⟨by omega, ha, trivial⟩
    · split
      · rename_i h; intro f hf; simp at hf; subst hf; exact ⟨h, ha⟩
      · intro f hf; simp at hf; subst hf; exact ha
  | b :: a :: P, hP =>
    have hb : b.ok := hP b (by simp)
    have ha : a.ok := hP a (by simp)
    have hr : ∀ f ∈ P, f.ok := fun f hf => hP f (by simp [hf])
    simp only [jp]
    split
    · intro f hf
      simp at hf
      rcases hf with rfl | rfl | hf
      · exact ⟨by omega, hb, trivial⟩
      · exact ha
      · exact hr f hf
    · split
      · rename_i h
        intro f hf
        simp at hf
        rcases hf with rfl | rfl | hf
        · exact ⟨h, hb⟩
        · exact ha
        · exact hr f hf
      · intro f hf
        simp at hf
        rcases hf with rfl | hf
        · exact ⟨by rcases hm with h | h | h | h | h | h | h <;> omega, ha, hb⟩
        · exact hr f hf
theorem jn_ok {b : Nat} (hb : 1 ≤ b) (W : List Int) : ∀ P, SOk W P → SOk (jn b W P).1 (jn b W P).2 := by
  induction W with
  | nil => intro P h; exact h
  | cons m W ih =>
    intro P h
    rw [jn]
    split
    · exact h
    · rename_i hlt
      have h1 : ¬ m = -1 := fun e => by subst e; simp [bnd] at hlt; omega
      exact ih _ ⟨fun x hx => h.1 x (by simp [hx]), jp_ok (h.1 m (by simp)) h1 h.2⟩
theorem sok_cons {m : Int} {W : List Int} {P : List Fm} (hm : MOk m) (h : SOk W P) : SOk (m :: W) P := ⟨fun x hx => by
  simp at hx
  rcases hx with rfl | hx
  · exact hm
  · exact h.1 x hx, h.2⟩
theorem sok_put {W : List Int} {P : List Fm} {f : Fm} (hf : f.ok) (h : SOk W P) : SOk W (f :: P) := ⟨h.1, fun x hx => by
  simp at hx
  rcases hx with rfl | hx
  · exact hf
  · exact h.2 x hx⟩
theorem stp_ok {st st' : St} {c : UInt8} (h : SOk st.W st.P) (hs : stp st c = some st') : SOk st'.W st'.P := by
  unfold stp at hs
  split at hs
  · split at hs
    · cases hs; exact sok_cons (by unfold MOk; omega) h
    · cases hs
  · split at hs
    · split at hs
      · cases hs; exact sok_cons (by unfold MOk; omega) h
      · cases hs
    · split at hs
      · split at hs
        · cases hs; exact sok_cons (by unfold MOk; omega) h
        · split at hs
          · cases hs; exact sok_cons (by unfold MOk; omega) h
          · split at hs
            · cases hs; exact h
            · split at hs
              · cases hs; exact h
              · split at hs
                · cases hs; exact sok_put trivial h
                · split at hs
                  · cases hs; exact sok_put ⟨by omega, trivial, trivial⟩ h
                  · split at hs
                    · rename_i hc
                      cases hs
                      refine sok_put ⟨?_, ?_⟩ h
                      · have := UInt8.le_iff_toNat_le.1 hc.1; simp at this; omega
                      · have := UInt8.le_iff_toNat_le.1 hc.2; simp at this; omega
                    · cases hs
      · split at hs
        · cases hs; exact sok_cons (by unfold MOk; omega) (jn_ok (by omega) _ _ h)
        · split at hs
          · cases hs; exact sok_cons (by unfold MOk; omega) (jn_ok (by omega) _ _ h)
          · split at hs
            · cases hs; exact sok_cons (by unfold MOk; omega) (jn_ok (by omega) _ _ h)
            · split at hs
              · have k := jn_ok (b := 1) (by omega) _ _ h
                obtain ⟨W1, P1, e⟩ : ∃ W1 P1, jn 1 st.W st.P = (W1, P1) := ⟨_, _, rfl⟩
                rw [e] at hs k
                cases W1 with
                | nil => simp [closed] at hs
                | cons m W1 =>
                  simp [closed] at hs
                  subst hs
                  exact ⟨fun x hx => k.1 x (by simp [hx]), k.2⟩
              · cases hs
theorem scan_ok (s : List UInt8) : ∀ st : St, SOk st.W st.P → SOk (scan st s).1.W (scan st s).1.P := by
  induction s with
  | nil => intro st h; exact h
  | cons c s ih =>
    intro st h
    rw [scan]
    cases e : stp st c with
    | none => exact h
    | some st' => exact ih st' (stp_ok h e)
theorem last_mem : ∀ (P : List Fm) (f : Fm), last P = some f → f ∈ P
  | [], _, h => by simp [last] at h
  | [a], f, h => by simp [last] at h; simp [h]
  | _ :: b :: P, f, h => List.mem_cons_of_mem _ (last_mem (b :: P) f (by simpa [last] using h))
theorem readF_good {s : List UInt8} {f : Fm} (h : readF s = some f) : f.ok := by
  have k := scan_ok s st0 ⟨by simp [st0], by simp [st0]⟩
  unfold readF at h
  obtain ⟨st, r, e⟩ : ∃ st r, scan st0 s = (st, r) := ⟨_, _, rfl⟩
  rw [e] at h k
  cases r with
  | cons c r => simp at h
  | nil =>
    simp only [ends] at h
    split at h
    · have q := jn_ok (b := 1) (by omega) _ _ k
      obtain ⟨W1, P1, e1⟩ : ∃ W1 P1, jn 1 st.W st.P = (W1, P1) := ⟨_, _, rfl⟩
      rw [e1] at h q
      cases W1 with
      | cons m W1 => simp at h
      | nil => exact q.2 f (last_mem P1 f (by simpa using h))
    · cases h

/-- What ParseFormula answers, by its error. -/
theorem p_cases (s : List UInt8) : (pC s = 6 ∧ pZ s = [] ∧ 0 ≤ pA s ∧ pA s ≤ s.length) ∨ (pC s = 3 ∧ pZ s = [] ∧ pA s = 0) ∨ (pC s = 0 ∧ pA s = 0 ∧ ∃ f : Fm, f.ok ∧ f.sz ≤ 40 ∧ pZ s = f.enc) := by
  by_cases hb : 200 < s.length
  · obtain ⟨e1, e2, e3⟩ := p_long hb
    exact .inr (.inl ⟨e3, e1, e2⟩)
  · cases hr : readF s with
    | none =>
      obtain ⟨e1, e2, e3⟩ := p_bad hb hr
      refine .inl ⟨e3, e1, by rw [e2]; omega, ?_⟩
      rw [e2]
      have : badAt s ≤ s.length := Nat.sub_le _ _
      omega
    | some f =>
      by_cases h40 : 40 < f.sz
      · obtain ⟨e1, e2, e3⟩ := p_big hb hr h40
        exact .inr (.inl ⟨e3, e1, e2⟩)
      · obtain ⟨e1, e2, e3⟩ := p_ok hb hr h40
        exact .inr (.inr ⟨e3, e2, f, readF_good hr, by omega, e1⟩)

end Go.Proofs.Ytnoaaklkbfbdbaa

/- The reader with a stack: what holds of its marks and parts in every state. No conditions but those in the theorems. -/
namespace Go.Proofs.Ytnoaaklkbfbdbaa

/-- How many marks wait for two parts. -/
def nb : List Int → Nat
  | [] => 0
  | m :: W => (if m = 2 ∨ m = 3 ∨ m = 4 then 1 else 0) + nb W
def mk1 (m : Int) : Prop := m = -2 ∨ m = -1 ∨ m = 2 ∨ m = 3 ∨ m = 4 ∨ m = 5 ∨ m = 6
def ms' : List Fm → Nat
  | [] => 0
  | f :: P => f.sz + ms' P
/-- Marks, parts (d of them more than marks for two), their nodes. -/
def WP (d n : Nat) (W : List Int) (P : List Fm) : Prop := (∀ m ∈ W, mk1 m) ∧ P.length = nb W + d ∧ (∀ f ∈ P, f.ok) ∧ ms' P + 2 * W.length ≤ 3 * n
theorem WP.more {d n n' : Nat} {W : List Int} {P : List Fm} (h : WP d n W P) (hn : n ≤ n') : WP d n' W P := ⟨h.1, h.2.1, h.2.2.1, by have := h.2.2.2; omega⟩
theorem jp_wp {n : Nat} {m : Int} {W : List Int} {P : List Fm} (h : WP 1 n (m :: W) P) (hm : m ≠ -1) : WP 1 n W (jp m P) := by
  obtain ⟨h1, h2, h3, h4⟩ := h
  have hW : ∀ x ∈ W, mk1 x := fun x hx => h1 x (List.mem_cons_of_mem _ hx)
  have hmk : mk1 m := h1 m (List.mem_cons_self ..)
  match P, h2, h3, h4 with
  | [], h2, _, _ => simp [nb] at h2
  | [a], h2, h3, h4 =>
    have ha : a.ok := h3 a (List.mem_cons_self ..)
    have hb : ¬ (m = 2 ∨ m = 3 ∨ m = 4) := fun h => by simp [nb, h] at h2
    simp only [nb, if_neg hb, List.length_cons, List.length_nil] at h2
    simp only [ms', List.length_cons] at h4
    by_cases e : m = -2
    · subst e
      refine ⟨hW, by simp [jp]; omega, ?_, ?_⟩
      · intro f hf
        simp only [jp, if_true, List.mem_singleton] at hf
        subst hf
        exact ⟨.inr (.inr rfl), ha, trivial⟩
      · simp only [jp, if_true, ms', Fm.sz]; omega
    · have e2 : m = 5 ∨ m = 6 := by
        rcases hmk with h | h | h | h | h | h | h
        · exact absurd h e
        · exact absurd h hm
        · exact absurd (.inl h) hb
        · exact absurd (.inr (.inl h)) hb
        · exact absurd (.inr (.inr h)) hb
        · exact .inl h
        · exact .inr h
      refine ⟨hW, by simp [jp, e, e2]; omega, ?_, ?_⟩
      · intro f hf
        simp only [jp, if_neg e, if_pos e2, List.mem_singleton] at hf
        subst hf
        exact ⟨e2, ha⟩
      · simp only [jp, if_neg e, if_pos e2, ms', Fm.sz]; omega
  | b :: a :: P, h2, h3, h4 =>
    have hb : b.ok := h3 b (by simp)
    have ha : a.ok := h3 a (by simp)
    have hP : ∀ f ∈ P, f.ok := fun f hf => h3 f (by simp [hf])
    simp only [nb, List.length_cons] at h2
    simp only [ms', List.length_cons] at h4
    by_cases e : m = -2
    · subst e
      refine ⟨hW, by simp [jp] at h2 ⊢; omega, ?_, ?_⟩
      · intro f hf
        simp only [jp, if_true, List.mem_cons] at hf
        rcases hf with rfl | rfl | hf
        · exact ⟨.inr (.inr rfl), hb, trivial⟩
        · exact ha
        · exact hP f hf
      · simp only [jp, if_true, ms', Fm.sz]; omega
    · by_cases e2 : m = 5 ∨ m = 6
      · have hn2 : ¬ (m = 2 ∨ m = 3 ∨ m = 4) := by omega
        rw [if_neg hn2] at h2
        refine ⟨hW, by simp [jp, e, e2]; omega, ?_, ?_⟩
        · intro f hf
          simp only [jp, if_neg e, if_pos e2, List.mem_cons] at hf
          rcases hf with rfl | rfl | hf
          · exact ⟨e2, hb⟩
          · exact ha
          · exact hP f hf
        · simp only [jp, if_neg e, if_pos e2, ms', Fm.sz]; omega
      · have e3 : m = 2 ∨ m = 3 ∨ m = 4 := by
          unfold mk1 at hmk
          omega
        rw [if_pos e3] at h2
        refine ⟨hW, by simp [jp, e, e2]; omega, ?_, ?_⟩
        · intro f hf
          simp only [jp, if_neg e, if_neg e2, List.mem_cons] at hf
          rcases hf with rfl | hf
          · exact ⟨e3, ha, hb⟩
          · exact hP f hf
        · simp only [jp, if_neg e, if_neg e2, ms', Fm.sz]; omega
theorem jn_wp {n b : Nat} (hb : 1 ≤ b) : ∀ (W : List Int) (P : List Fm), WP 1 n W P → WP 1 n (jn b W P).1 (jn b W P).2 := by
  intro W
  induction W with
  | nil => intro P h; exact h
  | cons m W ih =>
    intro P h
    rw [jn]
    split
    · exact h
    · rename_i hlt
      exact ih _ (jp_wp h (fun e => hlt (by subst e; simp [bnd]; omega)))
theorem jn_stop (b : Nat) : ∀ (W : List Int) (P : List Fm), topLt b (jn b W P).1 := by
  intro W
  induction W with
  | nil => intro P; trivial
  | cons m W ih =>
    intro P
    rw [jn]
    split
    · rename_i h; exact h
    · exact ih _
/-- A state after n bytes. -/
def WF (n : Nat) (st : St) : Prop := st.ex ≤ 3 ∧ WP (if st.ex = 3 then 1 else 0) n st.W st.P
theorem wf0 : WF 0 st0 := ⟨by simp [st0], by simp [st0, WP, nb, ms']⟩
theorem wp_mark {n : Nat} {m : Int} {W : List Int} {P : List Fm} (d : Nat) (h : WP d n W P) (hm : mk1 m) (d' : Nat) (hd : d' + (if m = 2 ∨ m = 3 ∨ m = 4 then 1 else 0) = d) : WP d' (n + 1) (m :: W) P := by
  obtain ⟨h1, h2, h3, h4⟩ := h
  refine ⟨fun x hx => by rcases List.mem_cons.1 hx with rfl | hx; exact hm; exact h1 x hx, by rw [nb]; omega, h3, by simp only [List.length_cons]; omega⟩
theorem wp_part {n : Nat} {f : Fm} {W : List Int} {P : List Fm} (h : WP 0 n W P) (hf : f.ok) (hs : f.sz ≤ 3) : WP 1 (n + 1) W (f :: P) := by
  obtain ⟨h1, h2, h3, h4⟩ := h
  exact ⟨h1, by simp only [List.length_cons]; omega, fun x hx => by rcases List.mem_cons.1 hx with rfl | hx; exact hf; exact h3 x hx, by simp only [ms']; omega⟩
theorem stp_wf {n : Nat} {st st' : St} {c : UInt8} (h : WF n st) (hs : stp st c = some st') : WF (n + 1) st' := by
  obtain ⟨hx, hw⟩ := h
  unfold stp at hs
  by_cases e1 : st.ex = 1
  · rw [if_pos e1] at hs
    rw [e1] at hw
    split at hs
    · cases hs; exact ⟨by simp, wp_mark 0 hw (by simp [mk1]) 0 (by simp)⟩
    · cases hs
  rw [if_neg e1] at hs
  by_cases e2 : st.ex = 2
  · rw [if_pos e2] at hs
    rw [e2] at hw
    split at hs
    · cases hs; exact ⟨by simp, wp_mark 0 hw (by simp [mk1]) 0 (by simp)⟩
    · cases hs
  rw [if_neg e2] at hs
  by_cases e0 : st.ex = 0
  · rw [if_pos e0] at hs
    rw [e0] at hw
    simp only [Nat.reduceEqDiff, if_false] at hw
    repeat' split at hs
    all_goals first | (cases hs; done) | skip
    all_goals (injection hs with hs; subst hs)
    · exact ⟨by simp, wp_mark 0 hw (by simp [mk1]) 0 (by simp)⟩
    · exact ⟨by simp, wp_mark 0 hw (by simp [mk1]) 0 (by simp)⟩
    · exact ⟨by simp, by simpa using hw.more (Nat.le_succ n)⟩
    · exact ⟨by simp, by simpa using hw.more (Nat.le_succ n)⟩
    · exact ⟨by simp, wp_part hw trivial (by simp [Fm.sz])⟩
    · exact ⟨by simp, wp_part hw ⟨.inr (.inr rfl), trivial, trivial⟩ (by simp [Fm.sz])⟩
    · rename_i h7
      have h8 : 112 ≤ c.toNat := h7.1
      have h9 : c.toNat ≤ 117 := h7.2
      exact ⟨by simp, wp_part hw ⟨by omega, by omega⟩ (by simp [Fm.sz])⟩
  · have e3 : st.ex = 3 := by omega
    rw [if_neg e0] at hs
    rw [e3] at hw
    simp only [if_true] at hw
    repeat' split at hs
    all_goals first | (cases hs; done) | skip
    · injection hs with hs; subst hs
      exact ⟨by simp, wp_mark 1 (jn_wp (by omega) _ _ hw) (by simp [mk1]) 0 (by simp)⟩
    · injection hs with hs; subst hs
      exact ⟨by simp, wp_mark 1 (jn_wp (by omega) _ _ hw) (by simp [mk1]) 0 (by simp)⟩
    · injection hs with hs; subst hs
      exact ⟨by simp, wp_mark 1 (jn_wp (by omega) _ _ hw) (by simp [mk1]) 0 (by simp)⟩
    · have hj := jn_wp (b := 1) (by omega) _ _ hw
      have ht := jn_stop 1 st.W st.P
      generalize jn 1 st.W st.P = r at hs hj ht
      obtain ⟨W, P⟩ := r
      cases W with
      | nil => cases hs
      | cons m W =>
        injection hs with hs; subst hs
        obtain ⟨h1, h2, h3, h4⟩ := hj
        have hm := h1 m (List.mem_cons_self ..)
        have ht2 : bnd m < 1 := ht
        have e : m = -1 := by
          rcases hm with h | h | h | h | h | h | h
          · subst h; simp [bnd] at ht2
          · exact h
          all_goals subst h; simp [bnd] at ht2
        subst e
        exact ⟨by simp, (show WP 1 (n + 1) W P from ⟨fun x hx => h1 x (List.mem_cons_of_mem _ hx), by simpa [nb] using h2, h3, by simp only [List.length_cons] at h4; omega⟩)⟩

end Go.Proofs.Ytnoaaklkbfbdbaa
