/- The reader with a stack: what holds of its marks and parts in every state. No conditions but those in the theorems. -/
import Derived.Test.YtpccocmiadpgiaaJn07
namespace Go.Proofs.Ytpccocmiadpgiaa

/-- How many marks wait for two parts. -/
def nb : List Int → Nat
  | [] => 0
  | m :: W => (if m = 2 ∨ m = 3 ∨ m = 4 then 1 else 0) + nb W
def mk1 (m : Int) : Prop := m = -2 ∨ m = -1 ∨ m = 2 ∨ m = 3 ∨ m = 4 ∨ m = 5 ∨ m = 6
def ms' : List Fm → Nat
  | [] => 0
  | f :: P => f.sz + ms' P
/-- Marks, parts (d of them more than marks for two), their nodes. -/
def WP (d n : Nat) (W : List Int) (P : List Fm) : Prop := (∀ m ∈ W, mk1 m) ∧ P.length = nb W + d ∧ (∀ f ∈ P, f.ok) ∧ ms' P + 2 * W.length ≤ 3 * n
theorem WP.more {d n n' : Nat} {W : List Int} {P : List Fm} (h : WP d n W P) (hn : n ≤ n') : WP d n' W P := ⟨h.1, h.2.1, h.2.2.1, by have := h.2.2.2; omega⟩
theorem jp_wp {n : Nat} {m : Int} {W : List Int} {P : List Fm} (h : WP 1 n (m :: W) P) (hm : m ≠ -1) : WP 1 n W (jp m P) := by
  obtain ⟨h1, h2, h3, h4⟩ := h
  have hW : ∀ x ∈ W, mk1 x := fun x hx => h1 x (List.mem_cons_of_mem _ hx)
  have hmk : mk1 m := h1 m (List.mem_cons_self ..)
  match P, h2, h3, h4 with
  | [], h2, _, _ => simp [nb] at h2
  | [a], h2, h3, h4 =>
    have ha : a.ok := h3 a (List.mem_cons_self ..)
    have hb : ¬ (m = 2 ∨ m = 3 ∨ m = 4) := fun h => by simp [nb, h] at h2
    simp only [nb, if_neg hb, List.length_cons, List.length_nil] at h2
    simp only [ms', List.length_cons] at h4
    by_cases e : m = -2
    · subst e
      refine ⟨hW, by simp [jp]; omega, ?_, ?_⟩
      · intro f hf
        simp only [jp, if_true, List.mem_singleton] at hf
        subst hf
        exact ⟨.inr (.inr rfl), ha, trivial⟩
      · simp only [jp, if_true, ms', Fm.sz]; omega
    · have e2 : m = 5 ∨ m = 6 := by
        rcases hmk with h | h | h | h | h | h | h
        · exact absurd h e
        · exact absurd h hm
        · exact absurd (.inl h) hb
        · exact absurd (.inr (.inl h)) hb
        · exact absurd (.inr (.inr h)) hb
        · exact .inl h
        · exact .inr h
      refine ⟨hW, by simp [jp, e, e2]; omega, ?_, ?_⟩
      · intro f hf
        simp only [jp, if_neg e, if_pos e2, List.mem_singleton] at hf
        subst hf
        exact ⟨e2, ha⟩
      · simp only [jp, if_neg e, if_pos e2, ms', Fm.sz]; omega
  | b :: a :: P, h2, h3, h4 =>
    have hb : b.ok := h3 b (by simp)
    have ha : a.ok := h3 a (by simp)
    have hP : ∀ f ∈ P, f.ok := fun f hf => h3 f (by simp [hf])
    simp only [nb, List.length_cons] at h2
    simp only [ms', List.length_cons] at h4
    by_cases e : m = -2
    · subst e
      refine ⟨hW, by simp [jp] at h2 ⊢; omega, ?_, ?_⟩
      · intro f hf
        simp only [jp, if_true, List.mem_cons] at hf
        rcases hf with rfl | rfl | hf
        · exact ⟨.inr (.inr rfl), hb, trivial⟩
        · exact ha
        · exact hP f hf
      · simp only [jp, if_true, ms', Fm.sz]; omega
    · by_cases e2 : m = 5 ∨ m = 6
      · have hn2 : ¬ (m = 2 ∨ m = 3 ∨ m = 4) := by omega
        rw [if_neg hn2] at h2
        refine ⟨hW, by simp [jp, e, e2]; omega, ?_, ?_⟩
        · intro f hf
          simp only [jp, if_neg e, if_pos e2, List.mem_cons] at hf
          rcases hf with rfl | rfl | hf
          · exact ⟨e2, hb⟩
          · exact ha
          · exact hP f hf
        · simp only [jp, if_neg e, if_pos e2, ms', Fm.sz]; omega
      · have e3 : m = 2 ∨ m = 3 ∨ m = 4 := by
          unfold mk1 at hmk
          omega
        rw [if_pos e3] at h2
        refine ⟨hW, by simp [jp, e, e2]; omega, ?_, ?_⟩
        · intro f hf
          simp only [jp, if_neg e, if_neg e2, List.mem_cons] at hf
          rcases hf with rfl | hf
          · exact ⟨e3, ha, hb⟩
          · exact hP f hf
        · simp only [jp, if_neg e, if_neg e2, ms', Fm.sz]; omega
theorem jn_wp {n b : Nat} (hb : 1 ≤ b) : ∀ (W : List Int) (P : List Fm), WP 1 n W P → WP 1 n (jn b W P).1 (jn b W P).2 := by
  intro W
  induction W with
  | nil => intro P h; exact h
  | cons m W ih =>
    intro P h
    rw [jn]
    split
    · exact h
    · rename_i hlt
      exact ih _ (jp_wp h (fun e => hlt (by subst e; simp [bnd]; omega)))
theorem jn_stop (b : Nat) : ∀ (W : List Int) (P : List Fm), topLt b (jn b W P).1 := by
  intro W
  induction W with
  | nil => intro P; trivial
  | cons m W ih =>
    intro P
    rw [jn]
    split
    · rename_i h; exact h
    · exact ih _
/-- A state after n bytes. -/
def WF (n : Nat) (st : St) : Prop := st.ex ≤ 3 ∧ WP (if st.ex = 3 then 1 else 0) n st.W st.P
theorem wf0 : WF 0 st0 := ⟨by simp [st0], by simp [st0, WP, nb, ms']⟩
theorem wp_mark {n : Nat} {m : Int} {W : List Int} {P : List Fm} (d : Nat) (h : WP d n W P) (hm : mk1 m) (d' : Nat) (hd : d' + (if m = 2 ∨ m = 3 ∨ m = 4 then 1 else 0) = d) : WP d' (n + 1) (m :: W) P := by
  obtain ⟨h1, h2, h3, h4⟩ := h
  refine ⟨fun x hx => by rcases List.mem_cons.1 hx with rfl | hx; exact hm; exact h1 x hx, by rw [nb]; omega, h3, by simp only [List.length_cons]; omega⟩
theorem wp_part {n : Nat} {f : Fm} {W : List Int} {P : List Fm} (h : WP 0 n W P) (hf : f.ok) (hs : f.sz ≤ 3) : WP 1 (n + 1) W (f :: P) := by
  obtain ⟨h1, h2, h3, h4⟩ := h
  exact ⟨h1, by simp only [List.length_cons]; omega, fun x hx => by rcases List.mem_cons.1 hx with rfl | hx; exact hf; exact h3 x hx, by simp only [ms']; omega⟩
theorem stp_wf {n : Nat} {st st' : St} {c : UInt8} (h : WF n st) (hs : stp st c = some st') : WF (n + 1) st' := by
  obtain ⟨hx, hw⟩ := h
  unfold stp at hs
  by_cases e1 : st.ex = 1
  · rw [if_pos e1] at hs
    rw [e1] at hw
    split at hs
    · cases hs; exact ⟨by simp, wp_mark 0 hw (by simp [mk1]) 0 (by simp)⟩
    · cases hs
  rw [if_neg e1] at hs
  by_cases e2 : st.ex = 2
  · rw [if_pos e2] at hs
    rw [e2] at hw
    split at hs
    · cases hs; exact ⟨by simp, wp_mark 0 hw (by simp [mk1]) 0 (by simp)⟩
    · cases hs
  rw [if_neg e2] at hs
  by_cases e0 : st.ex = 0
  · rw [if_pos e0] at hs
    rw [e0] at hw
    simp only [Nat.reduceEqDiff, if_false] at hw
    repeat' split at hs
    all_goals first | (cases hs; done) | skip
    all_goals (injection hs with hs; subst hs)
    · exact ⟨by simp, wp_mark 0 hw (by simp [mk1]) 0 (by simp)⟩
    · exact ⟨by simp, wp_mark 0 hw (by simp [mk1]) 0 (by simp)⟩
    · exact ⟨by simp, by simpa using hw.more (Nat.le_succ n)⟩
    · exact ⟨by simp, by simpa using hw.more (Nat.le_succ n)⟩
    · exact ⟨by simp, wp_part hw trivial (by simp [Fm.sz])⟩
    · exact ⟨by simp, wp_part hw ⟨.inr (.inr rfl), trivial, trivial⟩ (by simp [Fm.sz])⟩
    · rename_i h7
      have h8 : 112 ≤ c.toNat := h7.1
      have h9 : c.toNat ≤ 117 := h7.2
      exact ⟨by simp, wp_part hw ⟨by omega, by omega⟩ (by simp [Fm.sz])⟩
  · have e3 : st.ex = 3 := by omega
    rw [if_neg e0] at hs
    rw [e3] at hw
    simp only [if_true] at hw
    repeat' split at hs
    all_goals first | (cases hs; done) | skip
    · injection hs with hs; subst hs
      exact ⟨by simp, wp_mark 1 (jn_wp (by omega) _ _ hw) (by simp [mk1]) 0 (by simp)⟩
    · injection hs with hs; subst hs
      exact ⟨by simp, wp_mark 1 (jn_wp (by omega) _ _ hw) (by simp [mk1]) 0 (by simp)⟩
    · injection hs with hs; subst hs
      exact ⟨by simp, wp_mark 1 (jn_wp (by omega) _ _ hw) (by simp [mk1]) 0 (by simp)⟩
    · have hj := jn_wp (b := 1) (by omega) _ _ hw
      have ht := jn_stop 1 st.W st.P
      generalize jn 1 st.W st.P = r at hs hj ht
      obtain ⟨W, P⟩ := r
      cases W with
      | nil => cases hs
      | cons m W =>
        injection hs with hs; subst hs
        obtain ⟨h1, h2, h3, h4⟩ := hj
        have hm := h1 m (List.mem_cons_self ..)
        have ht2 : bnd m < 1 := ht
        have e : m = -1 := by
          rcases hm with h | h | h | h | h | h | h
          · subst h; simp [bnd] at ht2
          · exact h
          all_goals subst h; simp [bnd] at ht2
        subst e
        exact ⟨by simp, (show WP 1 (n + 1) W P from ⟨fun x hx => h1 x (List.mem_cons_of_mem _ hx), by simpa [nb] using h2, h3, by simp only [List.length_cons] at h4; omega⟩)⟩

end Go.Proofs.Ytpccocmiadpgiaa
