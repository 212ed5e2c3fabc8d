/- What a Sahlqvist implication is: told down the tree, and told node by node. No conditions but those in the theorems. -/
import Derived.Test.YtfdoecnpnfojpaaDeep
import Derived.Test.YtfdoecnpnfojpaaText
namespace Go.Proofs.Ytfdoecnpnfojpaa

namespace Fm
/-- The number of boxes in front, and what stands behind them. -/
def nbx : Fm → Nat
  | un k a => if k = 5 then a.nbx + 1 else 0
  | _ => 0
def cor : Fm → Fm
  | un k a => if k = 5 then a.cor else un k a
  | f => f
/-- What may stand in front of a Sahlqvist implication, and behind it. -/
def fro : Fm → Bool
  | va _ => true
  | fa => true
  | bi k a b => if k = 2 then a.fro && b.fro else (bi k a b).isTr
  | un k a => if k = 5 then a.cor.kind == 0 else a.fro
def pos : Fm → Bool
  | va _ => true
  | fa => true
  | bi k a b => if k = 2 ∨ k = 3 then a.pos && b.pos else (bi k a b).isTr
  | un _ a => a.pos
def sah : Fm → Bool
  | bi k a b => (k == 4) && a.fro && b.pos
  | _ => false
/-- What the node at the head tells. -/
def pm1 : Fm → Bool
  | bi k a b => if k = 3 then false else (k != 4 || (bi k a b).isTr)
  | un k a => if k = 5 then (a.kind == 5 || a.kind == 0) else true
  | _ => true
def cn1 (f : Fm) : Bool := f.kind != 4 || f.isTr
def allF (P : Fm → Bool) : Fm → Bool
  | bi k a b => P (bi k a b) && (a.allF P && b.allF P)
  | un k a => P (un k a) && a.allF P
  | f => P f
end Fm

theorem pm_cn {f : Fm} (hf : f.ok) (h : f.pm1 = true) : f.cn1 = true := by
  cases f with
  | bi k a b =>
    rcases hf.1 with rfl | rfl | rfl
    · rfl
    · rfl
    · rw [Fm.pm1, if_neg (by omega)] at h; exact h
  | va s => rfl
  | fa => rfl
  | un k a => rcases hf.1 with rfl | rfl <;> rfl
theorem isTr_parts {k : Int} {a b : Fm} (h : (Fm.bi k a b).isTr = true) : k = 4 ∧ a = .fa ∧ b = .fa := by
  simp only [Fm.isTr, Bool.and_eq_true, beq_iff_eq] at h
  refine ⟨h.1.1, ?_, ?_⟩
  · cases a <;> simp_all [Fm.isFa]
  · cases b <;> simp_all [Fm.isFa]
theorem isTr_no {k : Int} {a b : Fm} (h : k ≠ 4) : (Fm.bi k a b).isTr = false := by
  simp [Fm.isTr, h]

theorem all_pos (f : Fm) (hf : f.ok) : f.allF Fm.cn1 = f.pos := by
  induction f with
  | va s => rfl
  | fa => rfl
  | un k a ih =>
    rw [Fm.allF, ih hf.2, Fm.pos]
    have : (Fm.un k a).cn1 = true := by rcases hf.1 with rfl | rfl <;> rfl
    rw [this, Bool.true_and]
  | bi k a b iha ihb =>
    rw [Fm.allF, iha hf.2.1, ihb hf.2.2, Fm.pos]
    by_cases h : k = 2 ∨ k = 3
    · rw [if_pos h]
      have : (Fm.bi k a b).cn1 = true := by rcases h with rfl | rfl <;> rfl
      rw [this, Bool.true_and]
    · rw [if_neg h]
      have hk : k = 4 := by rcases hf.1 with h | h | h <;> omega
      have : (Fm.bi k a b).cn1 = (Fm.bi k a b).isTr := by subst hk; simp [Fm.cn1, Fm.kind]
      rw [this]
      cases ht : (Fm.bi k a b).isTr
      · rfl
      · obtain ⟨-, rfl, rfl⟩ := isTr_parts ht; rfl
theorem cor_cases (a : Fm) (ha : a.ok) : a.kind = 5 ∨ a.cor = a := by
  cases a with
  | un k b => by_cases h : k = 5
              · exact .inl h
              · exact .inr (by rw [Fm.cor, if_neg h])
  | _ => exact .inr rfl
theorem all_fro (f : Fm) (hf : f.ok) : f.allF Fm.pm1 = f.fro := by
  induction f with
  | va s => rfl
  | fa => rfl
  | un k a ih =>
    rw [Fm.allF, ih hf.2, Fm.fro, Fm.pm1]
    by_cases h : k = 5
    · rw [if_pos h, if_pos h]
      cases a with
      | va s => rfl
      | fa => rfl
      | bi l b c =>
        have h1 := hf.2.1
        have : ((Fm.bi l b c).kind == 5 || (Fm.bi l b c).kind == 0) = false := by rcases h1 with rfl | rfl | rfl <;> rfl
        rw [this]
        show false = ((Fm.bi l b c).cor.kind == 0)
        rcases h1 with rfl | rfl | rfl <;> rfl
      | un l b =>
        rcases hf.2.1 with rfl | rfl
        · show (true && (Fm.un 5 b).fro) = ((Fm.un 5 b).cor.kind == 0)
          rw [Bool.true_and, Fm.fro, if_pos rfl, Fm.cor, if_pos rfl]
        · show (false && _) = ((Fm.un 6 b).cor.kind == 0)
          rw [Fm.cor, if_neg (by omega)]; rfl
    · rw [if_neg h, if_neg h, Bool.true_and]
  | bi k a b iha ihb =>
    rw [Fm.allF, iha hf.2.1, ihb hf.2.2, Fm.fro, Fm.pm1]
    rcases hf.1 with h | h | h
    · subst h; rfl
    · subst h; rw [if_pos rfl, if_neg (by omega), isTr_no (by omega)]; rfl
    · rw [if_neg (by omega), if_neg (by omega)]
      have : (k != 4) = false := by simp [h]
      rw [this, Bool.false_or]
      cases ht : (Fm.bi k a b).isTr
      · rfl
      · obtain ⟨-, rfl, rfl⟩ := isTr_parts ht; rfl

/-- Told of all nodes of a formula that begins at i. -/
theorem all_at (P : Fm → Bool) (f : Fm) (hf : f.ok) : ∀ (xs : List Nd) (i : Nat) (r : List Nd), xs.drop i = f.enc ++ r →
    (f.allF P = true ↔ ∀ j, i ≤ j → j < i + f.sz → ∀ (g : Fm) (s : List Nd), g.ok → xs.drop j = g.enc ++ s → P g = true) := by
  have one : ∀ (f : Fm) (hf : f.ok) (xs : List Nd) (i : Nat) (r : List Nd), xs.drop i = f.enc ++ r → ∀ (g : Fm) (s : List Nd), g.ok → xs.drop i = g.enc ++ s → f = g := by
    intro f hf xs i r h g s hg h2
    exact (enc_inj f hf g r s hg (h.symm.trans h2)).1
  induction f with
  | va s =>
    intro xs i r h
    constructor
    · intro hp j h1 h2 g t hg hd
      have : j = i := by simp only [Fm.sz] at h2; omega
      subst this
      rw [← one _ hf xs j r h g t hg hd]; exact hp
    · intro hp; exact hp i (Nat.le_refl _) (by simp [Fm.sz]) _ r hf h
  | fa =>
    intro xs i r h
    constructor
    · intro hp j h1 h2 g t hg hd
      have : j = i := by simp only [Fm.sz] at h2; omega
      subst this
      rw [← one _ hf xs j r h g t hg hd]; exact hp
    · intro hp; exact hp i (Nat.le_refl _) (by simp [Fm.sz]) _ r hf h
  | un k a ih =>
    intro xs i r h
    have h1 : xs.drop (i + 1) = a.enc ++ r := drop_next (x := (k, 0)) (by rw [h]; simp [Fm.enc])
    rw [Fm.allF, Bool.and_eq_true, ih hf.2 xs (i + 1) r h1]
    have hs : (Fm.un k a).sz = 1 + a.sz := rfl
    constructor
    · rintro ⟨hp, hq⟩ j h1 h2 g t hg hd
      by_cases e : j = i
      · subst e; rw [← one _ hf xs j r h g t hg hd]; exact hp
      · exact hq j (by omega) (by omega) g t hg hd
    · intro hp
      exact ⟨hp i (Nat.le_refl _) (by omega) _ r hf h, fun j h1 h2 g t hg hd => hp j (by omega) (by omega) g t hg hd⟩
  | bi k a b iha ihb =>
    intro xs i r h
    have h1 : xs.drop (i + 1) = a.enc ++ (b.enc ++ r) := drop_next (x := (k, 0)) (by rw [h]; simp [Fm.enc])
    have h2 : xs.drop (i + 1 + a.sz) = b.enc ++ r := by have := drop_add h1; rwa [Fm.enc_len] at this
    rw [Fm.allF, Bool.and_eq_true, Bool.and_eq_true, iha hf.2.1 xs (i + 1) _ h1, ihb hf.2.2 xs _ _ h2]
    have hs : (Fm.bi k a b).sz = 1 + a.sz + b.sz := rfl
    constructor
    · rintro ⟨hp, hq, hr⟩ j h1 h2 g t hg hd
      by_cases e : j = i
      · subst e; rw [← one _ hf xs j r h g t hg hd]; exact hp
      · by_cases e2 : j < i + 1 + a.sz
        · exact hq j (by omega) (by omega) g t hg hd
        · exact hr j (by omega) (by omega) g t hg hd
    · intro hp
      exact ⟨hp i (Nat.le_refl _) (by omega) _ r hf h, fun j h1 h2 g t hg hd => hp j (by omega) (by omega) g t hg hd, fun j h1 h2 g t hg hd => hp j (by omega) (by omega) g t hg hd⟩

/-- What the program's loop has looked at. -/
def sawF (xs : List Nd) (c k : Nat) : Prop := ∀ j, 1 ≤ j → j < k → ∀ (g : Fm) (s : List Nd), g.ok → xs.drop j = g.enc ++ s → (if j < c then g.pm1 else g.cn1) = true
theorem saw_all {a b : Fm} (ha : a.ok) (hb : b.ok) (h : sawF (Fm.bi 4 a b).enc (1 + a.sz) (Fm.bi 4 a b).sz) : (Fm.bi 4 a b).sah = true := by
  have h1 : (Fm.bi 4 a b).enc.drop 1 = a.enc ++ b.enc := by simp [Fm.enc]
  have h2 : (Fm.bi 4 a b).enc.drop (1 + a.sz) = b.enc ++ [] := by have := drop_add h1; rw [Fm.enc_len] at this; rw [this]; simp
  have hs : (Fm.bi 4 a b).sz = 1 + a.sz + b.sz := rfl
  have e1 : a.fro = true := by
    rw [← all_fro a ha, all_at Fm.pm1 a ha _ 1 _ h1]
    intro j g1 g2 g s hg hd
    have := h j g1 (by omega) g s hg hd
    rwa [if_pos g2] at this
  have e2 : b.pos = true := by
    rw [← all_pos b hb, all_at Fm.cn1 b hb _ _ _ h2]
    intro j g1 g2 g s hg hd
    have := h j (by omega) (by omega) g s hg hd
    rwa [if_neg (by omega)] at this
  show ((4 : Int) == 4 && a.fro && b.pos) = true
  rw [e1, e2]; rfl
theorem saw_bad {a b : Fm} (ha : a.ok) (hb : b.ok) {j : Nat} (h0 : 1 ≤ j) (hj : j < (Fm.bi 4 a b).sz) {g : Fm} {s : List Nd} (hg : g.ok) (hd : (Fm.bi 4 a b).enc.drop j = g.enc ++ s) (h : (if j < 1 + a.sz then g.pm1 else g.cn1) = false) : (Fm.bi 4 a b).sah = false := by
  have h1 : (Fm.bi 4 a b).enc.drop 1 = a.enc ++ b.enc := by simp [Fm.enc]
  have h2 : (Fm.bi 4 a b).enc.drop (1 + a.sz) = b.enc ++ [] := by have := drop_add h1; rw [Fm.enc_len] at this; rw [this]; simp
  have hs : (Fm.bi 4 a b).sz = 1 + a.sz + b.sz := rfl
  show ((4 : Int) == 4 && a.fro && b.pos) = false
  by_cases hc : j < 1 + a.sz
  · rw [if_pos hc] at h
    have : a.fro = false := by
      rw [← all_fro a ha, Bool.eq_false_iff]
      intro ht
      rw [all_at Fm.pm1 a ha _ 1 _ h1] at ht
      rw [ht j h0 hc g s hg hd] at h
      cases h
    rw [this]; simp
  · rw [if_neg hc] at h
    have : b.pos = false := by
      rw [← all_pos b hb, Bool.eq_false_iff]
      intro ht
      rw [all_at Fm.cn1 b hb _ _ _ h2] at ht
      rw [ht j (by omega) (by omega) g s hg hd] at h
      cases h
    rw [this]; simp

/-- The head of a formula behind boxes. -/
theorem nbx_at (f : Fm) : (∀ j, j < f.nbx → kd f.enc j = 5) ∧ kd f.enc f.nbx = f.cor.kind ∧ f.nbx < f.sz := by
  induction f with
  | va s => exact ⟨fun j h => absurd h (by simp [Fm.nbx]), rfl, by simp [Fm.nbx, Fm.sz]⟩
  | fa => exact ⟨fun j h => absurd h (by simp [Fm.nbx]), rfl, by simp [Fm.nbx, Fm.sz]⟩
  | bi k a b => exact ⟨fun j h => absurd h (by simp [Fm.nbx]), rfl, by simp [Fm.nbx, Fm.sz]; omega⟩
  | un k a ih =>
    by_cases h : k = 5
    · subst h
      have e : (Fm.un 5 a).nbx = a.nbx + 1 := by rw [Fm.nbx, if_pos rfl]
      have e2 : (Fm.un 5 a).cor = a.cor := by rw [Fm.cor, if_pos rfl]
      rw [e, e2]
      refine ⟨fun j hj => ?_, ih.2.1, by simp only [Fm.sz]; omega⟩
      cases j with
      | zero => rfl
      | succ j => exact ih.1 j (by omega)
    · have e : (Fm.un k a).nbx = 0 := by rw [Fm.nbx, if_neg h]
      have e2 : (Fm.un k a).cor = .un k a := by rw [Fm.cor, if_neg h]
      rw [e, e2]
      exact ⟨fun j hj => absurd hj (by omega), rfl, by simp only [Fm.sz]; omega⟩
theorem cor_no (f : Fm) : f.cor.kind ≠ 5 ∨ ∃ k a b, f.cor = .bi k a b := by
  induction f with
  | va s => exact .inl (by simp [Fm.cor, Fm.kind])
  | fa => exact .inl (by simp [Fm.cor, Fm.kind])
  | bi k a b => exact .inr ⟨k, a, b, rfl⟩
  | un k a ih =>
    by_cases h : k = 5
    · rw [Fm.cor, if_pos h]; exact ih
    · rw [Fm.cor, if_neg h]; exact .inl h
theorem cor_ok (f : Fm) (hf : f.ok) : f.cor.ok := by
  induction f with
  | un k a ih => rw [Fm.cor]; split
                 · exact ih hf.2
                 · exact hf
  | _ => exact hf
theorem cor_not5 (f : Fm) (hf : f.ok) : f.cor.kind ≠ 5 := by
  rcases cor_no f with h | ⟨k, a, b, h⟩
  · exact h
  · have := cor_ok f hf
    rw [h] at this ⊢
    intro e
    have h1 := this.1
    have e : k = 5 := e
    omega
def bxV (f : Fm) : Int := if f.cor.kind = 0 then f.nbx else -1

end Go.Proofs.Ytfdoecnpnfojpaa
