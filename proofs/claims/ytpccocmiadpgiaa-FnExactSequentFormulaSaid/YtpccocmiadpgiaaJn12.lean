/- 2 texts in one: Wp, Wq. -/
import Derived.Test.YtpccocmiadpgiaaJn06
/- What is written of a formula is read as that formula. Conditions: those in the theorems. -/
namespace Go.Proofs.Ytpccocmiadpgiaa

def PL (f : Fm) : Prop := (∀ r, Ps .pre (f.wr 3 ++ r) (.ok f r)) ∧ (∀ r q, Ps (.lAnd f) r q → Ps .and (f.wr 2 ++ r) q) ∧ (∀ r q, r.head? ≠ some 38 → Ps (.lOr f) r q → Ps .or (f.wr 1 ++ r) q) ∧ (∀ r, r.head? ≠ some 38 → r.head? ≠ some 124 → r.head? ≠ some 62 → Ps .imp (f.wr 0 ++ r) (.ok f r))
theorem andOf {f : Fm} {t : List UInt8} (h : ∀ r, Ps .pre (t ++ r) (.ok f r)) : ∀ r q, Ps (.lAnd f) r q → Ps .and (t ++ r) q := fun r q k => .an _ r f q (h r) k
theorem orOf {f : Fm} {t : List UInt8} (h : ∀ r q, Ps (.lAnd f) r q → Ps .and (t ++ r) q) : ∀ r q, r.head? ≠ some 38 → Ps (.lOr f) r q → Ps .or (t ++ r) q := fun r q h1 k => .or _ r f q (h r (.ok f r) (.laZ r f h1)) k
theorem impOf {f : Fm} {t : List UInt8} (h : ∀ r q, r.head? ≠ some 38 → Ps (.lOr f) r q → Ps .or (t ++ r) q) : ∀ r, r.head? ≠ some 38 → r.head? ≠ some 124 → r.head? ≠ some 62 → Ps .imp (t ++ r) (.ok f r) := fun r h1 h2 h3 => .imZ _ r f (h r (.ok f r) h1 (.loZ r f h2)) h3
theorem preOf {f : Fm} {t : List UInt8} (h : ∀ r, r.head? ≠ some 38 → r.head? ≠ some 124 → r.head? ≠ some 62 → Ps .imp (t ++ r) (.ok f r)) : ∀ r, Ps .pre ((40 :: (t ++ [41])) ++ r) (.ok f r) := fun r => by
  have k := h (41 :: r) (by simp) (by simp) (by simp)
  have e : (40 :: (t ++ [41])) ++ r = 40 :: (t ++ 41 :: r) := by simp
  rw [e]
  exact .pa _ r f k
theorem plOf {f : Fm} (h : ∀ r, Ps .pre (f.wr 3 ++ r) (.ok f r)) (h2 : f.wr 2 = f.wr 3) (h1 : f.wr 1 = f.wr 3) (h0 : f.wr 0 = f.wr 3) : PL f :=
  ⟨h, by rw [h2]; exact andOf h, by rw [h1]; exact orOf (andOf h), by rw [h0]; exact impOf (orOf (andOf h))⟩
theorem va_byte (s : Int) (h0 : 0 ≤ s) (h6 : s < 6) : (112 : UInt8) ≤ UInt8.ofNat (112 + s.toNat) ∧ UInt8.ofNat (112 + s.toNat) ≤ 117 ∧ ((UInt8.ofNat (112 + s.toNat)).toNat : Int) - 112 = s := by
  obtain ⟨k, rfl⟩ := Int.eq_ofNat_of_zero_le h0
  have hk : k < 6 := by omega
  have : ∀ k : Nat, k < 6 → (112 : UInt8) ≤ UInt8.ofNat (112 + (k : Int).toNat) ∧ UInt8.ofNat (112 + (k : Int).toNat) ≤ 117 ∧ ((UInt8.ofNat (112 + (k : Int).toNat)).toNat : Int) - 112 = k := by decide
  exact this k hk

theorem pl_all (f : Fm) (hf : f.ok) : PL f := by
  induction f with
  | va s =>
    obtain ⟨h1, h2, h3⟩ := va_byte s hf.1 hf.2
    refine plOf (fun r => ?_) rfl rfl rfl
    have k := Ps.va _ r h1 h2
    rw [h3] at k
    exact k
  | fa => exact plOf (fun r => .fa r) rfl rfl rfl
  | un k a ih =>
    obtain ⟨p, -, -, -⟩ := ih hf.2
    rcases hf.1 with rfl | rfl
    · exact plOf (fun r => .bo _ r a (p r)) rfl rfl rfl
    · exact plOf (fun r => .di _ r a (p r)) rfl rfl rfl
  | bi k a b iha ihb =>
    obtain ⟨pa, aa, oa, ia⟩ := iha hf.2.1
    obtain ⟨pb, ab, ob, ib⟩ := ihb hf.2.2
    rcases hf.1 with rfl | rfl | rfl
    · obtain ⟨t, ht⟩ : ∃ t, t = a.wr 2 ++ 38 :: b.wr 3 := ⟨_, rfl⟩
      have A : ∀ r q, Ps (.lAnd (.bi 2 a b)) r q → Ps .and (t ++ r) q := fun r q k => by
        have := aa (38 :: (b.wr 3 ++ r)) q (.la _ r a b q (pb r) k)
        rw [ht]
        simpa using this
      have w3 : (Fm.bi 2 a b).wr 3 = 40 :: (t ++ [41]) := by rw [ht]; rfl
      have w2 : (Fm.bi 2 a b).wr 2 = t := by rw [ht]; rfl
      have w1 : (Fm.bi 2 a b).wr 1 = t := by rw [ht]; rfl
      have w0 : (Fm.bi 2 a b).wr 0 = t := by rw [ht]; rfl
      exact ⟨by rw [w3]; exact preOf (impOf (orOf A)), by rw [w2]; exact A, by rw [w1]; exact orOf A, by rw [w0]; exact impOf (orOf A)⟩
    · obtain ⟨t, ht⟩ : ∃ t, t = a.wr 1 ++ 124 :: b.wr 2 := ⟨_, rfl⟩
      have A : ∀ r q, r.head? ≠ some 38 → Ps (.lOr (.bi 3 a b)) r q → Ps .or (t ++ r) q := fun r q h1 k => by
        have := oa (124 :: (b.wr 2 ++ r)) q (by simp) (.lo _ r a b q (ab r _ (.laZ r b h1)) k)
        rw [ht]
        simpa using this
      have w3 : (Fm.bi 3 a b).wr 3 = 40 :: (t ++ [41]) := by rw [ht]; rfl
      have w2 : (Fm.bi 3 a b).wr 2 = 40 :: (t ++ [41]) := by rw [ht]; rfl
      have w1 : (Fm.bi 3 a b).wr 1 = t := by rw [ht]; rfl
      have w0 : (Fm.bi 3 a b).wr 0 = t := by rw [ht]; rfl
      have B := preOf (impOf A)
      exact ⟨by rw [w3]; exact B, by rw [w2]; exact andOf B, by rw [w1]; exact A, by rw [w0]; exact impOf A⟩
    · cases hb : b.isFa with
      | true =>
        have eb : b = .fa := by cases b <;> simp_all [Fm.isFa]
        subst eb
        cases ha : a.isFa with
        | true =>
          have ea : a = .fa := by cases a <;> simp_all [Fm.isFa]
          subst ea
          exact plOf (fun r => .tr r) rfl rfl rfl
        | false =>
          have w : ∀ l, (Fm.bi 4 a .fa).wr l = 126 :: a.wr 3 := fun l => by simp only [Fm.wr, show Fm.fa.isFa = true from rfl, ha]; simp
          refine plOf (fun r => ?_) (by rw [w, w]) (by rw [w, w]) (by rw [w, w])
          rw [w]
          exact .no _ r a (pa r)
      | false =>
        obtain ⟨t, ht⟩ : ∃ t, t = a.wr 1 ++ 62 :: b.wr 0 := ⟨_, rfl⟩
        have A : ∀ r, r.head? ≠ some 38 → r.head? ≠ some 124 → r.head? ≠ some 62 → Ps .imp (t ++ r) (.ok (.bi 4 a b) r) := fun r h1 h2 h3 => by
          have k1 := oa (62 :: (b.wr 0 ++ r)) (.ok a (62 :: (b.wr 0 ++ r))) (by simp) (.loZ _ a (by simp))
          have := Ps.im _ _ r a b k1 (ib r h1 h2 h3)
          rw [ht]
          simpa using this
        have w0 : (Fm.bi 4 a b).wr 0 = t := by rw [ht]; simp [Fm.wr, hb, Fm.par]
        have w : ∀ l, 0 < l → (Fm.bi 4 a b).wr l = 40 :: (t ++ [41]) := fun l h => by rw [ht]; simp [Fm.wr, hb, Fm.par, h]
        have B := preOf A
        exact ⟨by rw [w 3 (by omega)]; exact B, by rw [w 2 (by omega)]; exact andOf B, by rw [w 1 (by omega)]; exact orOf (andOf B), by rw [w0]; exact A⟩

theorem ps_wr (f : Fm) (hf : f.ok) : Ps .imp (f.wr 0) (.ok f []) := by
  have h := (pl_all f hf).2.2.2 [] (by simp) (by simp) (by simp)
  simpa using h
theorem readF_wr (f : Fm) (hf : f.ok) : readF (f.wr 0) = some f := readF_ok (ps_wr f hf)
theorem p_wr (f : Fm) (hf : f.ok) (hs : f.sz ≤ 40) : pZ (f.wr 0) = f.enc ∧ pA (f.wr 0) = 0 ∧ pC (f.wr 0) = 0 :=
  p_ok (by have := f.wr_len 0; omega) (readF_wr f hf) (by omega)
/-- So is what is written of it in parentheses. -/
theorem readF_wr2 (f : Fm) (hf : f.ok) : readF (40 :: (f.wr 0 ++ [41])) = some f := by
  have h := preOf (pl_all f hf).2.2.2 []
  rw [List.append_nil] at h
  have k := impOf (orOf (andOf (f := f) (t := 40 :: (f.wr 0 ++ [41])) (fun r => preOf (pl_all f hf).2.2.2 r))) [] (by simp) (by simp) (by simp)
  rw [List.append_nil] at k
  exact readF_ok k
theorem p_wr2 (f : Fm) (hf : f.ok) (hs : f.sz ≤ 40) : pZ (40 :: (f.wr 0 ++ [41])) = f.enc ∧ pA (40 :: (f.wr 0 ++ [41])) = 0 ∧ pC (40 :: (f.wr 0 ++ [41])) = 0 :=
  p_ok (by have := f.wr_len 0; simp; omega) (readF_wr2 f hf) (by omega)

end Go.Proofs.Ytpccocmiadpgiaa

/- What is read is a formula, and its place of the first bad byte lies in the text; what ParseFormula answers, by its error. No conditions but those in the theorems. -/
namespace Go.Proofs.Ytpccocmiadpgiaa

def MOk (m : Int) : Prop := m = -2 ∨ m = -1 ∨ m = 2 ∨ m = 3 ∨ m = 4 ∨ m = 5 ∨ m = 6
def SOk (W : List Int) (P : List Fm) : Prop := (∀ m ∈ W, MOk m) ∧ ∀ f ∈ P, f.ok
theorem jp_ok {m : Int} {P : List Fm} (hm : MOk m) (h1 : ¬ m = -1) (hP : ∀ f ∈ P, f.ok) : ∀ f ∈ jp m P, f.ok := by
  match P, hP with
  | [], _ => simp [jp]
  | [a], hP =>
    have ha : a.ok := hP a (by simp)
    simp only [jp]
    split
    · intro f hf; simp at hf; subst hf; exact ⟨by omega, ha, trivial⟩
    · split
      · rename_i h; intro f hf; simp at hf; subst hf; exact ⟨h, ha⟩
      · intro f hf; simp at hf; subst hf; exact ha
  | b :: a :: P, hP =>
    have hb : b.ok := hP b (by simp)
    have ha : a.ok := hP a (by simp)
    have hr : ∀ f ∈ P, f.ok := fun f hf => hP f (by simp [hf])
    simp only [jp]
    split
    · intro f hf
      simp at hf
      rcases hf with rfl | rfl | hf
      · exact ⟨by omega, hb, trivial⟩
      · exact ha
      · exact hr f hf
    · split
      · rename_i h
        intro f hf
        simp at hf
        rcases hf with rfl | rfl | hf
        · exact ⟨h, hb⟩
        · exact ha
        · exact hr f hf
      · intro f hf
        simp at hf
        rcases hf with rfl | hf
        · exact ⟨by rcases hm with h | h | h | h | h | h | h <;> omega, ha, hb⟩
        · exact hr f hf
theorem jn_ok {b : Nat} (hb : 1 ≤ b) (W : List Int) : ∀ P, SOk W P → SOk (jn b W P).1 (jn b W P).2 := by
  induction W with
  | nil => intro P h; exact h
  | cons m W ih =>
    intro P h
    rw [jn]
    split
    · exact h
    · rename_i hlt
      have h1 : ¬ m = -1 := fun e => by subst e; simp [bnd] at hlt; omega
      exact ih _ ⟨fun x hx => h.1 x (by simp [hx]), jp_ok (h.1 m (by simp)) h1 h.2⟩
theorem sok_cons {m : Int} {W : List Int} {P : List Fm} (hm : MOk m) (h : SOk W P) : SOk (m :: W) P := ⟨fun x hx => by
  simp at hx
  rcases hx with rfl | hx
  · exact hm
  · exact h.1 x hx, h.2⟩
theorem sok_put {W : List Int} {P : List Fm} {f : Fm} (hf : f.ok) (h : SOk W P) : SOk W (f :: P) := ⟨h.1, fun x hx => by
  simp at hx
  rcases hx with rfl | hx
  · exact hf
  · exact h.2 x hx⟩
theorem stp_ok {st st' : St} {c : UInt8} (h : SOk st.W st.P) (hs : stp st c = some st') : SOk st'.W st'.P := by
  unfold stp at hs
  split at hs
  · split at hs
    · cases hs; exact sok_cons (by unfold MOk; omega) h
    · cases hs
  · split at hs
    · split at hs
      · cases hs; exact sok_cons (by unfold MOk; omega) h
      · cases hs
    · split at hs
      · split at hs
        · cases hs; exact sok_cons (by unfold MOk; omega) h
        · split at hs
          · cases hs; exact sok_cons (by unfold MOk; omega) h
          · split at hs
            · cases hs; exact h
            · split at hs
              · cases hs; exact h
              · split at hs
                · cases hs; exact sok_put trivial h
                · split at hs
                  · cases hs; exact sok_put ⟨by omega, trivial, trivial⟩ h
                  · split at hs
                    · rename_i hc
                      cases hs
                      refine sok_put ⟨?_, ?_⟩ h
                      · have := UInt8.le_iff_toNat_le.1 hc.1; simp at this; omega
                      · have := UInt8.le_iff_toNat_le.1 hc.2; simp at this; omega
                    · cases hs
      · split at hs
        · cases hs; exact sok_cons (by unfold MOk; omega) (jn_ok (by omega) _ _ h)
        · split at hs
          · cases hs; exact sok_cons (by unfold MOk; omega) (jn_ok (by omega) _ _ h)
          · split at hs
            · cases hs; exact sok_cons (by unfold MOk; omega) (jn_ok (by omega) _ _ h)
            · split at hs
              · have k := jn_ok (b := 1) (by omega) _ _ h
                obtain ⟨W1, P1, e⟩ : ∃ W1 P1, jn 1 st.W st.P = (W1, P1) := ⟨_, _, rfl⟩
                rw [e] at hs k
                cases W1 with
                | nil => simp [closed] at hs
                | cons m W1 =>
                  simp [closed] at hs
                  subst hs
                  exact ⟨fun x hx => k.1 x (by simp [hx]), k.2⟩
              · cases hs
theorem scan_ok (s : List UInt8) : ∀ st : St, SOk st.W st.P → SOk (scan st s).1.W (scan st s).1.P := by
  induction s with
  | nil => intro st h; exact h
  | cons c s ih =>
    intro st h
    rw [scan]
    cases e : stp st c with
    | none => exact h
    | some st' => exact ih st' (stp_ok h e)
theorem last_mem : ∀ (P : List Fm) (f : Fm), last P = some f → f ∈ P
  | [], _, h => by simp [last] at h
  | [a], f, h => by simp [last] at h; simp [h]
  | _ :: b :: P, f, h => List.mem_cons_of_mem _ (last_mem (b :: P) f (by simpa [last] using h))
theorem readF_good {s : List UInt8} {f : Fm} (h : readF s = some f) : f.ok := by
  have k := scan_ok s st0 ⟨by simp [st0], by simp [st0]⟩
  unfold readF at h
  obtain ⟨st, r, e⟩ : ∃ st r, scan st0 s = (st, r) := ⟨_, _, rfl⟩
  rw [e] at h k
  cases r with
  | cons c r => simp at h
  | nil =>
    simp only [ends] at h
    split at h
    · have q := jn_ok (b := 1) (by omega) _ _ k
      obtain ⟨W1, P1, e1⟩ : ∃ W1 P1, jn 1 st.W st.P = (W1, P1) := ⟨_, _, rfl⟩
      rw [e1] at h q
      cases W1 with
      | cons m W1 => simp at h
      | nil => exact q.2 f (last_mem P1 f (by simpa using h))
    · cases h

/-- What ParseFormula answers, by its error. -/
theorem p_cases (s : List UInt8) : (pC s = 6 ∧ pZ s = [] ∧ 0 ≤ pA s ∧ pA s ≤ s.length) ∨ (pC s = 3 ∧ pZ s = [] ∧ pA s = 0) ∨ (pC s = 0 ∧ pA s = 0 ∧ ∃ f : Fm, f.ok ∧ f.sz ≤ 40 ∧ pZ s = f.enc) := by
  by_cases hb : 200 < s.length
  · obtain ⟨e1, e2, e3⟩ := p_long hb
    exact .inr (.inl ⟨e3, e1, e2⟩)
  · cases hr : readF s with
    | none =>
      obtain ⟨e1, e2, e3⟩ := p_bad hb hr
      refine .inl ⟨e3, e1, by rw [e2]; omega, ?_⟩
      rw [e2]
      have : badAt s ≤ s.length := Nat.sub_le _ _
      omega
    | some f =>
      by_cases h40 : 40 < f.sz
      · obtain ⟨e1, e2, e3⟩ := p_big hb hr h40
        exact .inr (.inl ⟨e3, e1, e2⟩)
      · obtain ⟨e1, e2, e3⟩ := p_ok hb hr h40
        exact .inr (.inr ⟨e3, e2, f, readF_good hr, by omega, e1⟩)

end Go.Proofs.Ytpccocmiadpgiaa
