/- Point formulas as lists and as trees: what a node is, where a part ends, when a list is a point formula, and the tree of one. No conditions but those in the theorems. -/
import Derived.Test.YtfkdefmafhlmnaaNodeP
namespace Go.Proofs.Ytfkdefmafhlmnaa
open Go.RowKit

def prP (k : Int) : Int := if k = 4 ∨ k = 5 ∨ k = 6 then 2 else if k = 7 ∨ k = 8 then 1 else 0
theorem prP_bd (k : Int) : 0 ≤ prP k ∧ prP k ≤ 2 := by unfold prP; split <;> (try split) <;> omega
/-- What the numbers of a node must be, told of its kind. -/
def nmP (k f s : Int) : Bool := if k = 0 ∨ k = 1 then inB f 0 9 && inB s 0 9 else if k = 2 then inB f 0 5 && inB s 0 9 else if k = 7 ∨ k = 8 then inB f 0 9 && s == 0 else f == 0 && s == 0
def okP (k f s : Int) : Bool := inB k 0 8 && nmP k f s

def peP (xs : List Pd) : Nat → Int → Nat → Int
  | 0, o, i => if o ≤ 0 then i else -1
  | f + 1, o, i => if o ≤ 0 then i else peP xs f (o - 1 + prP (kp xs i)) (i + 1)
def treeToP (xs : List Pd) : Nat → Bool
  | 0 => true
  | i + 1 => treeToP xs i && okP (kp xs i) (fp xs i) (tp xs i)
def treeP (xs : List Pd) (len : Nat) : Bool := treeToP xs len && decide (0 < len) && (peP xs len 1 0 == (len : Int))
def isP (xs : List Pd) (len : Nat) : Bool := decide (len ≤ 120) && treeP xs len
theorem treeToP_false {xs : List Pd} {k l : Nat} (hk : k ≤ l) (h : treeToP xs k = false) : treeToP xs l = false := by
  induction l with
  | zero => simp at hk; subst hk; exact h
  | succ l ih =>
    by_cases e : k = l + 1
    · subst e; exact h
    · rw [treeToP, ih (by omega)]; rfl
theorem treeP_bad {xs : List Pd} {len k : Nat} (hk : k < len) (h : okP (kp xs k) (fp xs k) (tp xs k) = false) : treeP xs len = false := by
  have h1 : treeToP xs (k + 1) = false := by rw [treeToP, h, Bool.and_false]
  rw [treeP, treeToP_false (k := k + 1) hk h1]; rfl
/-- What is open is closed part by part. -/
theorem peP_split (xs : List Pd) (f : Nat) : ∀ (a b : Int) (i : Nat), 0 ≤ a → 0 ≤ b → (peP xs f a i = -1 ∧ peP xs f (a + b) i = -1) ∨ ∃ r : Nat, peP xs f a i = r ∧ i ≤ r ∧ r ≤ i + f ∧ peP xs f (a + b) i = peP xs (i + f - r) b r := by
  induction f with
  | zero =>
    intro a b i ha hb
    by_cases h : a ≤ 0
    · obtain rfl : a = 0 := by omega
      exact .inr ⟨i, by rw [peP, if_pos (by omega)], Nat.le_refl _, by omega, by rw [Int.zero_add]; simp⟩
    · exact .inl ⟨by rw [peP, if_neg h], by rw [peP, if_neg (by omega)]⟩
  | succ f ih =>
    intro a b i ha hb
    by_cases h : a ≤ 0
    · obtain rfl : a = 0 := by omega
      exact .inr ⟨i, by rw [peP, if_pos (by omega)], Nat.le_refl _, by omega, by rw [Int.zero_add]; congr 1; omega⟩
    · have hp := prP_bd (kp xs i)
      rcases ih (a - 1 + prP (kp xs i)) b (i + 1) (by omega) hb with ⟨h1, h2⟩ | ⟨r, h1, h2, h3, h4⟩
      · exact .inl ⟨by rw [peP, if_neg h]; exact h1, by rw [peP, if_neg (by omega), show a + b - 1 + prP (kp xs i) = a - 1 + prP (kp xs i) + b by omega]; exact h2⟩
      · exact .inr ⟨r, by rw [peP, if_neg h]; exact h1, by omega, by omega, by rw [peP, if_neg (by omega), show a + b - 1 + prP (kp xs i) = a - 1 + prP (kp xs i) + b by omega, h4]; congr 1; omega⟩

/-- How many parts are missing behind k nodes. -/
def msP (xs : List Pd) : Nat → Int
  | 0 => 1
  | k + 1 => msP xs k - 1 + prP (kp xs k)
def runP (xs : List Pd) : Nat → Bool
  | 0 => true
  | k + 1 => runP xs k && (decide (0 < msP xs k) && okP (kp xs k) (fp xs k) (tp xs k))
theorem runP_ge {xs : List Pd} {k : Nat} (h : runP xs k = true) : 0 ≤ msP xs k := by
  cases k with
  | zero => simp [msP]
  | succ k =>
    rw [runP] at h
    simp only [Bool.and_eq_true, decide_eq_true_eq] at h
    have := prP_bd (kp xs k)
    rw [msP]; omega
theorem runP_tree {xs : List Pd} {k : Nat} (h : runP xs k = true) : treeToP xs k = true := by
  induction k with
  | zero => rfl
  | succ k ih =>
    rw [runP] at h
    simp only [Bool.and_eq_true] at h
    rw [treeToP, ih h.1, h.2.2]; rfl
theorem runP_pe {xs : List Pd} {k len : Nat} (hk : k ≤ len) (h : runP xs k = true) : peP xs len 1 0 = peP xs (len - k) (msP xs k) k := by
  induction k with
  | zero => rfl
  | succ k ih =>
    rw [runP] at h
    simp only [Bool.and_eq_true, decide_eq_true_eq] at h
    rw [ih (by omega) h.1, show len - k = (len - (k + 1)) + 1 by omega, peP, if_neg (by omega), msP]
theorem isP_big {xs : List Pd} {len : Nat} (h : 120 < len) : isP xs len = false := by rw [isP, decide_eq_false (by omega)]; rfl
theorem isP_small {xs : List Pd} {len : Nat} (h : len ≤ 120) : isP xs len = treeP xs len := by rw [isP, decide_eq_true h, Bool.true_and]
theorem treeP_stop {xs : List Pd} {k len : Nat} (hk : k < len) (h : runP xs k = true) (h0 : msP xs k = 0) : treeP xs len = false := by
  have hp := runP_pe (Nat.le_of_lt hk) h
  have : peP xs len 1 0 = k := by rw [hp, h0, show len - k = (len - (k + 1)) + 1 by omega, peP, if_pos (by omega)]
  rw [treeP, this]
  have : ((k : Int) == (len : Int)) = false := by simp; omega
  rw [this, Bool.and_false]
theorem treeP_end {xs : List Pd} {len : Nat} (h : runP xs len = true) : treeP xs len = (msP xs len == 0) := by
  have hp := runP_pe (Nat.le_refl _) h
  have hg := runP_ge h
  rw [treeP, runP_tree h, hp, Nat.sub_self, peP]
  by_cases h0 : len = 0
  · subst h0; rfl
  rw [decide_eq_true (by omega : 0 < len)]
  by_cases hz : msP xs len = 0
  · rw [if_pos (by omega), hz]; simp
  · rw [if_neg (by omega)]
    have e1 : (msP xs len == 0) = false := by simpa using hz
    rw [e1]; simp
theorem runP_step {xs : List Pd} {k : Nat} (h : runP xs k = true) (h0 : msP xs k ≠ 0) (hok : okP (kp xs k) (fp xs k) (tp xs k) = true) : runP xs (k + 1) = true := by
  have := runP_ge h
  rw [runP, h, hok, decide_eq_true (by omega : 0 < msP xs k)]; rfl


/-- A point formula as a tree. -/
inductive Pt where
  | le (k f s : Int)
  | bi (k : Int) (a b : Pt)
  | un (k x : Int) (a : Pt)
namespace Pt
def enc : Pt → List Pd
  | le k f s => [(k, f, s)]
  | bi k a b => (k, 0, 0) :: (a.enc ++ b.enc)
  | un k x a => (k, x, 0) :: a.enc
def ok : Pt → Prop
  | le k f s => ((k = 0 ∨ k = 1) ∧ 0 ≤ f ∧ f ≤ 9 ∧ 0 ≤ s ∧ s ≤ 9) ∨ (k = 2 ∧ 0 ≤ f ∧ f ≤ 5 ∧ 0 ≤ s ∧ s ≤ 9) ∨ (k = 3 ∧ f = 0 ∧ s = 0)
  | bi k a b => (k = 4 ∨ k = 5 ∨ k = 6) ∧ a.ok ∧ b.ok
  | un k x a => (k = 7 ∨ k = 8) ∧ (0 ≤ x ∧ x ≤ 9) ∧ a.ok
def sz : Pt → Nat
  | le _ _ _ => 1
  | bi _ a b => 1 + a.sz + b.sz
  | un _ _ a => 1 + a.sz
theorem enc_len (f : Pt) : f.enc.length = f.sz := by
  induction f with
  | le k x y => rfl
  | bi k a b iha ihb => simp only [enc, sz, List.length_cons, List.length_append, iha, ihb]; omega
  | un k x a ih => simp only [enc, sz, List.length_cons, ih]; omega
theorem sz_pos (f : Pt) : 0 < f.sz := by cases f <;> simp only [sz] <;> omega
theorem le_pr {k f s : Int} (h : (le k f s).ok) : prP k = 0 := by
  rcases h with ⟨rfl | rfl, -⟩ | ⟨rfl, -⟩ | ⟨rfl, -⟩ <;> decide
end Pt

theorem kp_drop (xs : List Pd) (i j : Nat) : kp (xs.drop i) j = kp xs (i + j) := by simp [kp, List.getD_eq_getElem?_getD, List.getElem?_drop]
theorem fp_drop (xs : List Pd) (i j : Nat) : fp (xs.drop i) j = fp xs (i + j) := by simp [fp, List.getD_eq_getElem?_getD, List.getElem?_drop]
theorem tp_drop (xs : List Pd) (i j : Nat) : tp (xs.drop i) j = tp xs (i + j) := by simp [tp, List.getD_eq_getElem?_getD, List.getElem?_drop]
theorem kp_at {xs : List Pd} {i : Nat} {x : Pd} {r : List Pd} (h : xs.drop i = x :: r) : kp xs i = x.1 := by
  have := kp_drop xs i 0
  rw [h] at this; rw [Nat.add_zero] at this; rw [← this]; rfl
theorem fp_at {xs : List Pd} {i : Nat} {x : Pd} {r : List Pd} (h : xs.drop i = x :: r) : fp xs i = x.2.1 := by
  have := fp_drop xs i 0
  rw [h] at this; rw [Nat.add_zero] at this; rw [← this]; rfl
theorem tp_at {xs : List Pd} {i : Nat} {x : Pd} {r : List Pd} (h : xs.drop i = x :: r) : tp xs i = x.2.2 := by
  have := tp_drop xs i 0
  rw [h] at this; rw [Nat.add_zero] at this; rw [← this]; rfl
theorem dropP_lt {xs : List Pd} {i : Nat} {x : Pd} {r : List Pd} (h : xs.drop i = x :: r) : i < xs.length := by
  have := congrArg List.length h
  simp at this; omega
theorem dropP_next {xs : List Pd} {i : Nat} {x : Pd} {r : List Pd} (h : xs.drop i = x :: r) : xs.drop (i + 1) = r := by
  rw [← List.drop_drop, h]; rfl
theorem dropP_add {xs : List Pd} {i : Nat} {a r : List Pd} (h : xs.drop i = a ++ r) : xs.drop (i + a.length) = r := by
  rw [← List.drop_drop, h, List.drop_left]

/-- Behind a point formula one part less is open. -/
theorem peP_enc (f : Pt) (hf : f.ok) : ∀ (xs : List Pd) (i : Nat) (r : List Pd) (o : Int), xs.drop i = f.enc ++ r → 1 ≤ o →
    peP xs (xs.length - i) o i = peP xs (xs.length - (i + f.sz)) (o - 1) (i + f.sz) := by
  have step : ∀ (xs : List Pd) (i : Nat) (x : Pd) (r : List Pd) (o : Int), xs.drop i = x :: r → 1 ≤ o → peP xs (xs.length - i) o i = peP xs (xs.length - (i + 1)) (o - 1 + prP x.1) (i + 1) := by
    intro xs i x r o h ho
    have := dropP_lt h
    rw [show xs.length - i = (xs.length - (i + 1)) + 1 by omega, peP, if_neg (by omega), kp_at h]
  induction f with
  | le k x y =>
    intro xs i r o h ho
    rw [step xs i _ _ o h ho]
    simp only [Pt.le_pr hf, Pt.sz, Int.add_zero]
  | bi k a b iha ihb =>
    intro xs i r o h ho
    have h' : xs.drop i = (k, 0, 0) :: (a.enc ++ (b.enc ++ r)) := by rw [h]; simp [Pt.enc]
    rw [step xs i _ _ o h' ho]
    have e : prP k = 2 := by rcases hf.1 with rfl | rfl | rfl <;> decide
    have h2 := dropP_next h'
    have h3 := dropP_add h2
    rw [Pt.enc_len] at h3
    rw [e, iha hf.2.1 xs (i + 1) _ _ h2 (by omega), ihb hf.2.2 xs _ _ _ h3 (by omega)]
    have : i + 1 + a.sz + b.sz = i + (Pt.bi k a b).sz := by simp only [Pt.sz]; omega
    rw [this]
    congr 1; omega
  | un k x a ih =>
    intro xs i r o h ho
    have h' : xs.drop i = (k, x, 0) :: (a.enc ++ r) := by rw [h]; simp [Pt.enc]
    rw [step xs i _ _ o h' ho]
    have e : prP k = 1 := by rcases hf.1 with rfl | rfl <;> decide
    have h2 := dropP_next h'
    rw [e, ih hf.2.2 xs (i + 1) _ _ h2 (by omega)]
    have : i + 1 + a.sz = i + (Pt.un k x a).sz := by simp only [Pt.sz]; omega
    rw [this]
    congr 1; omega
theorem peP_end (f : Pt) (hf : f.ok) {xs : List Pd} {i : Nat} {r : List Pd} (h : xs.drop i = f.enc ++ r) : peP xs (xs.length - i) 1 i = (i + f.sz : Nat) := by
  rw [peP_enc f hf xs i r 1 h (by omega)]
  cases xs.length - (i + f.sz) <;> (rw [peP, if_pos (by omega)])

/-- All nodes of a list are in order, and o parts are read by it. -/
def finP : List Pd → Nat → Bool
  | [], o => o == 0
  | x :: xs, o => decide (1 ≤ o) && (okP x.1 x.2.1 x.2.2 && finP xs (o - 1 + (prP x.1).toNat))
theorem okP_at {xs : List Pd} {k l : Nat} (h : treeToP xs l = true) (hk : k < l) : okP (kp xs k) (fp xs k) (tp xs k) = true := by
  induction l with
  | zero => omega
  | succ l ih =>
    rw [treeToP, Bool.and_eq_true] at h
    by_cases e : k = l
    · subst e; exact h.2
    · exact ih h.1 (by omega)
theorem finP_of {xs : List Pd} (ht : treeToP xs xs.length = true) : ∀ (n i : Nat) (o : Nat), n = xs.length - i → i ≤ xs.length → peP xs n o i = xs.length → finP (xs.drop i) o = true := by
  intro n
  induction n with
  | zero =>
    intro i o hn hi h
    have : xs.length ≤ i := by omega
    rw [List.drop_eq_nil_of_le this]
    rw [peP] at h
    split at h
    · simp [finP]; omega
    · omega
  | succ n ih =>
    intro i o hn hi h
    have hlt : i < xs.length := by omega
    have e := List.drop_eq_getElem_cons hlt
    rw [peP] at h
    split at h
    · omega
    · have h2 := prP_bd (kp xs i)
      have hx := kp_at e
      have hy := fp_at e
      have hz := tp_at e
      have ho := okP_at ht hlt
      have := ih (i + 1) (o - 1 + (prP (kp xs i)).toNat) (by omega) hlt (by rw [← h]; congr 1; omega)
      rw [e, finP, ← hx, ← hy, ← hz, ho, this]
      simp; omega
theorem finP_list : ∀ (xs : List Pd) (o : Nat), finP xs o = true → ∃ fs : List Pt, fs.length = o ∧ (∀ f ∈ fs, f.ok) ∧ xs = fs.flatMap Pt.enc := by
  intro xs
  induction xs with
  | nil => intro o h; exact ⟨[], (by simp only [finP, beq_iff_eq] at h; exact h.symm), (by simp), rfl⟩
  | cons x xs ih =>
    intro o h
    rw [finP] at h
    simp only [Bool.and_eq_true, decide_eq_true_eq] at h
    obtain ⟨fs, hl, hok, hx⟩ := ih _ h.2.2
    obtain ⟨k, s, t⟩ := x
    have hn := h.2.1
    simp only [okP, Bool.and_eq_true] at hn
    obtain ⟨hk, hn⟩ := hn
    simp only [inB, Bool.and_eq_true, decide_eq_true_eq] at hk
    have hp : prP k = (if k = 4 ∨ k = 5 ∨ k = 6 then 2 else if k = 7 ∨ k = 8 then 1 else 0) := rfl
    simp only at hl
    unfold nmP at hn
    by_cases h2 : k = 4 ∨ k = 5 ∨ k = 6
    · rw [if_pos h2] at hp
      rw [hp] at hl
      rw [if_neg (by omega), if_neg (by omega), if_neg (by omega)] at hn
      simp only [Bool.and_eq_true, beq_iff_eq] at hn
      match fs, hl, hok, hx with
      | a :: b :: fs, hl, hok, hx =>
        refine ⟨.bi k a b :: fs, ?_, ?_, ?_⟩
        · simp at hl ⊢; omega
        · intro f hf
          rcases List.mem_cons.1 hf with rfl | hf
          · exact ⟨h2, hok a (by simp), hok b (by simp)⟩
          · exact hok f (by simp [hf])
        · simp [hx, Pt.enc, hn]
      | [a], hl, _, _ => simp at hl
      | [], hl, _, _ => simp at hl
    · rw [if_neg h2] at hp
      by_cases h1 : k = 7 ∨ k = 8
      · rw [if_pos h1] at hp
        rw [hp] at hl
        rw [if_neg (by omega), if_neg (by omega), if_pos h1] at hn
        simp only [inB, Bool.and_eq_true, beq_iff_eq, decide_eq_true_eq] at hn
        match fs, hl, hok, hx with
        | a :: fs, hl, hok, hx =>
          refine ⟨.un k s a :: fs, ?_, ?_, ?_⟩
          · simp at hl ⊢; omega
          · intro f hf
            rcases List.mem_cons.1 hf with rfl | hf
            · exact ⟨h1, hn.1, hok a (by simp)⟩
            · exact hok f (by simp [hf])
          · simp [hx, Pt.enc, hn]
        | [], hl, _, _ => simp at hl
      · rw [if_neg h1] at hp
        rw [hp] at hl
        refine ⟨.le k s t :: fs, ?_, ?_, ?_⟩
        · simp at hl ⊢; omega
        · intro f hf
          rcases List.mem_cons.1 hf with rfl | hf
          · by_cases h0 : k = 0 ∨ k = 1
            · rw [if_pos h0] at hn
              simp only [inB, Bool.and_eq_true, decide_eq_true_eq] at hn
              exact .inl ⟨h0, hn.1.1, hn.1.2, hn.2.1, hn.2.2⟩
            · rw [if_neg h0] at hn
              by_cases h3 : k = 2
              · rw [if_pos h3] at hn
                simp only [inB, Bool.and_eq_true, decide_eq_true_eq] at hn
                exact .inr (.inl ⟨h3, hn.1.1, hn.1.2, hn.2.1, hn.2.2⟩)
              · rw [if_neg h3, if_neg h1] at hn
                simp only [Bool.and_eq_true, beq_iff_eq] at hn
                exact .inr (.inr ⟨by omega, hn.1, hn.2⟩)
          · exact hok f hf
        · simp [hx, Pt.enc]
theorem finP_drop : ∀ (xs : List Pd) (o i : Nat), finP xs o = true → i < xs.length → ∃ o', 1 ≤ o' ∧ finP (xs.drop i) o' = true := by
  intro xs
  induction xs with
  | nil => intro o i _ h; simp at h
  | cons x xs ih =>
    intro o i h hi
    cases i with
    | zero =>
      refine ⟨o, ?_, h⟩
      rw [finP] at h
      simp only [Bool.and_eq_true, decide_eq_true_eq] at h
      exact h.1
    | succ i =>
      rw [finP] at h
      simp only [Bool.and_eq_true] at h
      exact ih _ i h.2.2 (by simpa using hi)
theorem isP_fin {xs : List Pd} (h : isP xs xs.length = true) : finP xs 1 = true := by
  simp only [isP, treeP, Bool.and_eq_true, decide_eq_true_eq, beq_iff_eq] at h
  exact finP_of h.2.1.1 xs.length 0 1 rfl (Nat.zero_le _) h.2.2
/-- At every index of a point formula a point formula begins. -/
theorem subP_at {xs : List Pd} (h : isP xs xs.length = true) {i : Nat} (hi : i < xs.length) : ∃ (f : Pt) (r : List Pd), f.ok ∧ xs.drop i = f.enc ++ r := by
  obtain ⟨o, ho, hf⟩ := finP_drop xs 1 i (isP_fin h) hi
  obtain ⟨fs, hl, hok, hx⟩ := finP_list _ _ hf
  match fs, hl with
  | f :: fs, _ => exact ⟨f, fs.flatMap Pt.enc, hok f (by simp), by simp [hx]⟩
  | [], hl => simp at hl; omega
theorem isP_pt {xs : List Pd} (h : isP xs xs.length = true) : ∃ f : Pt, f.ok ∧ xs = f.enc ∧ f.sz ≤ 120 := by
  have h40 : xs.length ≤ 120 := by simp only [isP, Bool.and_eq_true, decide_eq_true_eq] at h; exact h.1
  obtain ⟨fs, hl, hok, hx⟩ := finP_list _ _ (isP_fin h)
  match fs, hl with
  | [f], _ =>
    refine ⟨f, hok f (by simp), by simpa using hx, ?_⟩
    rw [← Pt.enc_len]
    have : xs = f.enc := by simpa using hx
    rw [← this]; exact h40
theorem okP_le {k f s : Int} (h : (Pt.le k f s).ok) : okP k f s = true := by
  rcases h with ⟨rfl | rfl, h⟩ | ⟨rfl, h⟩ | ⟨rfl, h⟩ <;> simp [okP, nmP, inB] <;> omega
theorem okP_enc (f : Pt) (hf : f.ok) : ∀ x ∈ f.enc, okP x.1 x.2.1 x.2.2 = true := by
  induction f with
  | le k s t => intro x hx; simp [Pt.enc] at hx; subst hx; exact okP_le hf
  | bi k a b iha ihb =>
    intro x hx
    rcases List.mem_cons.1 hx with rfl | hx
    · rcases hf.1 with rfl | rfl | rfl <;> rfl
    · rcases List.mem_append.1 hx with hx | hx
      · exact iha hf.2.1 x hx
      · exact ihb hf.2.2 x hx
  | un k y a ih =>
    intro x hx
    rcases List.mem_cons.1 hx with rfl | hx
    · obtain ⟨h1, h2, -⟩ := hf
      rcases h1 with rfl | rfl <;> simp [okP, nmP, inB] <;> omega
    · exact ih hf.2.2 x hx
theorem treeToP_of {xs : List Pd} (h : ∀ x ∈ xs, okP x.1 x.2.1 x.2.2 = true) : ∀ l, l ≤ xs.length → treeToP xs l = true := by
  intro l
  induction l with
  | zero => intro _; rfl
  | succ l ih =>
    intro hl
    have e := List.drop_eq_getElem_cons (show l < xs.length by omega)
    rw [treeToP, ih (by omega), kp_at e, fp_at e, tp_at e, h _ (List.getElem_mem _)]; rfl
theorem pt_tree (f : Pt) (hf : f.ok) : treeP f.enc f.enc.length = true := by
  have hl := f.enc_len
  have hp := f.sz_pos
  have he := peP_end f hf (xs := f.enc) (i := 0) (r := []) (by simp)
  rw [Nat.sub_zero, Nat.zero_add] at he
  rw [treeP, treeToP_of (okP_enc f hf) _ (Nat.le_refl _), he, hl]
  simp; omega
theorem pt_is (f : Pt) (hf : f.ok) (h40 : f.sz ≤ 120) : isP f.enc f.enc.length = true := by
  rw [isP, pt_tree f hf, f.enc_len]
  simp; omega
/-- A point formula is told by its nodes. -/
theorem encP_inj (f : Pt) (hf : f.ok) : ∀ (g : Pt) (r s : List Pd), g.ok → f.enc ++ r = g.enc ++ s → f = g ∧ r = s := by
  induction f with
  | le a x y =>
    intro g r s hg h
    have h1 : a ≤ 3 := by rcases hf with ⟨h | h, -⟩ | ⟨h, -⟩ | ⟨h, -⟩ <;> omega
    cases g with
    | le b c d => simp [Pt.enc] at h; simp [h]
    | bi k b c => simp [Pt.enc] at h; have := hg.1; omega
    | un k y b => simp [Pt.enc] at h; have := hg.1; omega
  | bi k a b iha ihb => intro g r s hg h; cases g with
    | le c x y =>
      have h1 : c ≤ 3 := by rcases hg with ⟨h | h, -⟩ | ⟨h, -⟩ | ⟨h, -⟩ <;> omega
      simp [Pt.enc] at h; have := hf.1; omega
    | bi l c d =>
      simp only [Pt.enc, List.cons_append, List.append_assoc, List.cons.injEq, Prod.mk.injEq] at h
      obtain ⟨e1, h2⟩ := iha hf.2.1 c _ _ hg.2.1 h.2
      obtain ⟨e2, h3⟩ := ihb hf.2.2 d _ _ hg.2.2 h2
      exact ⟨by rw [h.1.1, e1, e2], h3⟩
    | un l y c => simp [Pt.enc] at h; have := hf.1; have := hg.1; omega
  | un k x a ih => intro g r s hg h; cases g with
    | le c u y =>
      have h1 : c ≤ 3 := by rcases hg with ⟨h | h, -⟩ | ⟨h, -⟩ | ⟨h, -⟩ <;> omega
      simp [Pt.enc] at h; have := hf.1; omega
    | bi l c d => simp [Pt.enc] at h; have := hf.1; have := hg.1; omega
    | un l y c =>
      simp only [Pt.enc, List.cons_append, List.cons.injEq, Prod.mk.injEq] at h
      obtain ⟨e1, h3⟩ := ih hf.2.2 c _ _ hg.2.2 h.2
      exact ⟨by rw [h.1.1, h.1.2.1, e1], h3⟩

open Classical in
/-- The tree of a list of point nodes. -/
noncomputable def toPt (xs : List Pd) : Pt := if h : ∃ f : Pt, f.ok ∧ xs = f.enc ∧ f.sz ≤ 120 then Classical.choose h else .le 3 0 0
theorem toPt_of {xs : List Pd} (h : isP xs xs.length = true) : (toPt xs).ok ∧ xs = (toPt xs).enc ∧ (toPt xs).sz ≤ 120 := by
  have he := isP_pt h
  rw [toPt, dif_pos he]
  exact Classical.choose_spec he

end Go.Proofs.Ytfkdefmafhlmnaa
