/- What is written of a formula is read as that formula. Conditions: those in the theorems. -/
import Derived.Test.YtpccocmiadpgiaaJn07
namespace Go.Proofs.Ytpccocmiadpgiaa

def PL (f : Fm) : Prop := (∀ r, Ps .pre (f.wr 3 ++ r) (.ok f r)) ∧ (∀ r q, Ps (.lAnd f) r q → Ps .and (f.wr 2 ++ r) q) ∧ (∀ r q, r.head? ≠ some 38 → Ps (.lOr f) r q → Ps .or (f.wr 1 ++ r) q) ∧ (∀ r, r.head? ≠ some 38 → r.head? ≠ some 124 → r.head? ≠ some 62 → Ps .imp (f.wr 0 ++ r) (.ok f r))
theorem andOf {f : Fm} {t : List UInt8} (h : ∀ r, Ps .pre (t ++ r) (.ok f r)) : ∀ r q, Ps (.lAnd f) r q → Ps .and (t ++ r) q := fun r q k => .an _ r f q (h r) k
theorem orOf {f : Fm} {t : List UInt8} (h : ∀ r q, Ps (.lAnd f) r q → Ps .and (t ++ r) q) : ∀ r q, r.head? ≠ some 38 → Ps (.lOr f) r q → Ps .or (t ++ r) q := fun r q h1 k => .or _ r f q (h r (.ok f r) (.laZ r f h1)) k
theorem impOf {f : Fm} {t : List UInt8} (h : ∀ r q, r.head? ≠ some 38 → Ps (.lOr f) r q → Ps .or (t ++ r) q) : ∀ r, r.head? ≠ some 38 → r.head? ≠ some 124 → r.head? ≠ some 62 → Ps .imp (t ++ r) (.ok f r) := fun r h1 h2 h3 => .imZ _ r f (h r (.ok f r) h1 (.loZ r f h2)) h3
theorem preOf {f : Fm} {t : List UInt8} (h : ∀ r, r.head? ≠ some 38 → r.head? ≠ some 124 → r.head? ≠ some 62 → Ps .imp (t ++ r) (.ok f r)) : ∀ r, Ps .pre ((40 :: (t ++ [41])) ++ r) (.ok f r) := fun r => by
  have k := h (41 :: r) (by simp) (by simp) (by simp)
  have e : (40 :: (t ++ [41])) ++ r = 40 :: (t ++ 41 :: r) := by simp
  rw [e]
  exact .pa _ r f k
theorem plOf {f : Fm} (h : ∀ r, Ps .pre (f.wr 3 ++ r) (.ok f r)) (h2 : f.wr 2 = f.wr 3) (h1 : f.wr 1 = f.wr 3) (h0 : f.wr 0 = f.wr 3) : PL f :=
  ⟨h, by rw [h2]; exact andOf h, by rw [h1]; exact orOf (andOf h), by rw [h0]; exact impOf (orOf (andOf h))⟩
theorem va_byte (s : Int) (h0 : 0 ≤ s) (h6 : s < 6) : (112 : UInt8) ≤ UInt8.ofNat (112 + s.toNat) ∧ UInt8.ofNat (112 + s.toNat) ≤ 117 ∧ ((UInt8.ofNat (112 + s.toNat)).toNat : Int) - 112 = s := by
  obtain ⟨k, rfl⟩ := Int.eq_ofNat_of_zero_le h0
  have hk : k < 6 := by omega
  have : ∀ k : Nat, k < 6 → (112 : UInt8) ≤ UInt8.ofNat (112 + (k : Int).toNat) ∧ UInt8.ofNat (112 + (k : Int).toNat) ≤ 117 ∧ ((UInt8.ofNat (112 + (k : Int).toNat)).toNat : Int) - 112 = k := by decide
  exact this k hk

theorem pl_all (f : Fm) (hf : f.ok) : PL f := by
  induction f with
  | va s =>
    obtain ⟨h1, h2, h3⟩ := va_byte s hf.1 hf.2
    refine plOf (fun r => ?_) rfl rfl rfl
    have k := Ps.va _ r h1 h2
    rw [h3] at k
    exact k
  | fa => exact plOf (fun r => .fa r) rfl rfl rfl
  | un k a ih =>
    obtain ⟨p, -, -, -⟩ := ih hf.2
    rcases hf.1 with rfl | rfl
    · exact plOf (fun r => .bo _ r a (p r)) rfl rfl rfl
    · exact plOf (fun r => .di _ r a (p r)) rfl rfl rfl
  | bi k a b iha ihb =>
    obtain ⟨pa, aa, oa, ia⟩ := iha hf.2.1
    obtain ⟨pb, ab, ob, ib⟩ := ihb hf.2.2
    rcases hf.1 with rfl | rfl | rfl
    · obtain ⟨t, ht⟩ : ∃ t, t = a.wr 2 ++ 38 :: b.wr 3 := ⟨_, rfl⟩
      have A : ∀ r q, Ps (.lAnd (.bi 2 a b)) r q → Ps .and (t ++ r) q := fun r q k => by
        have := aa (38 :: (b.wr 3 ++ r)) q (.la _ r a b q (pb r) k)
        rw [ht]
        simpa using this
      have w3 : (Fm.bi 2 a b).wr 3 = 40 :: (t ++ [41]) := by rw [ht]; rfl
      have w2 : (Fm.bi 2 a b).wr 2 = t := by rw [ht]; rfl
      have w1 : (Fm.bi 2 a b).wr 1 = t := by rw [ht]; rfl
      have w0 : (Fm.bi 2 a b).wr 0 = t := by rw [ht]; rfl
      exact ⟨by rw [w3]; exact preOf (impOf (orOf A)), by rw [w2]; exact A, by rw [w1]; exact orOf A, by rw [w0]; exact impOf (orOf A)⟩
    · obtain ⟨t, ht⟩ : ∃ t, t = a.wr 1 ++ 124 :: b.wr 2 := ⟨_, rfl⟩
      have A : ∀ r q, r.head? ≠ some 38 → Ps (.lOr (.bi 3 a b)) r q → Ps .or (t ++ r) q := fun r q h1 k => by
        have := oa (124 :: (b.wr 2 ++ r)) q (by simp) (.lo _ r a b q (ab r _ (.laZ r b h1)) k)
        rw [ht]
        simpa using this
      have w3 : (Fm.bi 3 a b).wr 3 = 40 :: (t ++ [41]) := by rw [ht]; rfl
      have w2 : (Fm.bi 3 a b).wr 2 = 40 :: (t ++ [41]) := by rw [ht]; rfl
      have w1 : (Fm.bi 3 a b).wr 1 = t := by rw [ht]; rfl
      have w0 : (Fm.bi 3 a b).wr 0 = t := by rw [ht]; rfl
      have B := preOf (impOf A)
      exact ⟨by rw [w3]; exact B, by rw [w2]; exact andOf B, by rw [w1]; exact A, by rw [w0]; exact impOf A⟩
    · cases hb : b.isFa with
      | true =>
        have eb : b = .fa := by cases b <;> simp_all [Fm.isFa]
        subst eb
        cases ha : a.isFa with
        | true =>
          have ea : a = .fa := by cases a <;> simp_all [Fm.isFa]
          subst ea
          exact plOf (fun r => .tr r) rfl rfl rfl
        | false =>
          have w : ∀ l, (Fm.bi 4 a .fa).wr l = 126 :: a.wr 3 := fun l => by simp only [Fm.wr, show Fm.fa.isFa = true from rfl, ha]; simp
          refine plOf (fun r => ?_) (by rw [w, w]) (by rw [w, w]) (by rw [w, w])
          rw [w]
          exact .no _ r a (pa r)
      | false =>
        obtain ⟨t, ht⟩ : ∃ t, t = a.wr 1 ++ 62 :: b.wr 0 := ⟨_, rfl⟩
        have A : ∀ r, r.head? ≠ some 38 → r.head? ≠ some 124 → r.head? ≠ some 62 → Ps .imp (t ++ r) (.ok (.bi 4 a b) r) := fun r h1 h2 h3 => by
          have k1 := oa (62 :: (b.wr 0 ++ r)) (.ok a (62 :: (b.wr 0 ++ r))) (by simp) (.loZ _ a (by simp))
          have := Ps.im _ _ r a b k1 (ib r h1 h2 h3)
          rw [ht]
          simpa using this
        have w0 : (Fm.bi 4 a b).wr 0 = t := by rw [ht]; simp [Fm.wr, hb, Fm.par]
        have w : ∀ l, 0 < l → (Fm.bi 4 a b).wr l = 40 :: (t ++ [41]) := fun l h => by rw [ht]; simp [Fm.wr, hb, Fm.par, h]
        have B := preOf A
        exact ⟨by rw [w 3 (by omega)]; exact B, by rw [w 2 (by omega)]; exact andOf B, by rw [w 1 (by omega)]; exact orOf (andOf B), by rw [w0]; exact A⟩

theorem ps_wr (f : Fm) (hf : f.ok) : Ps .imp (f.wr 0) (.ok f []) := by
  have h := (pl_all f hf).2.2.2 [] (by simp) (by simp) (by simp)
  simpa using h
theorem readF_wr (f : Fm) (hf : f.ok) : readF (f.wr 0) = some f := readF_ok (ps_wr f hf)
theorem p_wr (f : Fm) (hf : f.ok) (hs : f.sz ≤ 40) : pZ (f.wr 0) = f.enc ∧ pA (f.wr 0) = 0 ∧ pC (f.wr 0) = 0 :=
  p_ok (by have := f.wr_len 0; omega) (readF_wr f hf) (by omega)
/-- So is what is written of it in parentheses. -/
theorem readF_wr2 (f : Fm) (hf : f.ok) : readF (40 :: (f.wr 0 ++ [41])) = some f := by
  have h := preOf (pl_all f hf).2.2.2 []
  rw [List.append_nil] at h
  have k := impOf (orOf (andOf (f := f) (t := 40 :: (f.wr 0 ++ [41])) (fun r => preOf (pl_all f hf).2.2.2 r))) [] (by simp) (by simp) (by simp)
  rw [List.append_nil] at k
  exact readF_ok k
theorem p_wr2 (f : Fm) (hf : f.ok) (hs : f.sz ≤ 40) : pZ (40 :: (f.wr 0 ++ [41])) = f.enc ∧ pA (40 :: (f.wr 0 ++ [41])) = 0 ∧ pC (40 :: (f.wr 0 ++ [41])) = 0 :=
  p_ok (by have := f.wr_len 0; simp; omega) (readF_wr2 f hf) (by omega)

end Go.Proofs.Ytpccocmiadpgiaa
