/- Formulas as trees: a list of nodes that the model takes for a formula is the nodes of one tree, and a part ends where its tree does; height, modal depth and text of a tree. No conditions but those in the theorems. -/
import Derived.Test.YtfkdefmafhlmnaaJn01
namespace Go.Proofs.Ytfkdefmafhlmnaa

/-- A formula as a tree. -/
inductive Fm where
  | va (s : Int)
  | fa
  | bi (k : Int) (a b : Fm)
  | un (k : Int) (a : Fm)
namespace Fm
def enc : Fm → List Nd
  | va s => [(0, s)]
  | fa => [(1, 0)]
  | bi k a b => (k, 0) :: (a.enc ++ b.enc)
  | un k a => (k, 0) :: a.enc
def ok : Fm → Prop
  | va s => 0 ≤ s ∧ s < 6
  | fa => True
  | bi k a b => (k = 2 ∨ k = 3 ∨ k = 4) ∧ a.ok ∧ b.ok
  | un k a => (k = 5 ∨ k = 6) ∧ a.ok
def sz : Fm → Nat
  | va _ => 1
  | fa => 1
  | bi _ a b => 1 + a.sz + b.sz
  | un _ a => 1 + a.sz
theorem enc_len (f : Fm) : f.enc.length = f.sz := by
  induction f with
  | va s => rfl
  | fa => rfl
  | bi k a b iha ihb => simp only [enc, sz, List.length_cons, List.length_append, iha, ihb]; omega
  | un k a ih => simp only [enc, sz, List.length_cons, ih]; omega
theorem sz_pos (f : Fm) : 0 < f.sz := by cases f <;> simp only [sz] <;> omega
end Fm

theorem kd_drop (xs : List Nd) (i j : Nat) : kd (xs.drop i) j = kd xs (i + j) := by simp [kd, List.getD_eq_getElem?_getD, List.getElem?_drop]
theorem sy_drop (xs : List Nd) (i j : Nat) : sy (xs.drop i) j = sy xs (i + j) := by simp [sy, List.getD_eq_getElem?_getD, List.getElem?_drop]
theorem kd_at {xs : List Nd} {i : Nat} {x : Nd} {r : List Nd} (h : xs.drop i = x :: r) : kd xs i = x.1 := by
  have := kd_drop xs i 0
  rw [h] at this; rw [Nat.add_zero] at this; rw [← this]; rfl
theorem sy_at {xs : List Nd} {i : Nat} {x : Nd} {r : List Nd} (h : xs.drop i = x :: r) : sy xs i = x.2 := by
  have := sy_drop xs i 0
  rw [h] at this; rw [Nat.add_zero] at this; rw [← this]; rfl
theorem drop_lt {xs : List Nd} {i : Nat} {x : Nd} {r : List Nd} (h : xs.drop i = x :: r) : i < xs.length := by
  have := congrArg List.length h
  simp at this; omega
theorem drop_next {xs : List Nd} {i : Nat} {x : Nd} {r : List Nd} (h : xs.drop i = x :: r) : xs.drop (i + 1) = r := by
  rw [← List.drop_drop, h]; rfl
theorem drop_add {xs : List Nd} {i : Nat} {a r : List Nd} (h : xs.drop i = a ++ r) : xs.drop (i + a.length) = r := by
  rw [← List.drop_drop, h, List.drop_left]

/-- Behind a formula one part less is open. -/
theorem pe_enc (f : Fm) (hf : f.ok) : ∀ (xs : List Nd) (i : Nat) (r : List Nd) (o : Int), xs.drop i = f.enc ++ r → 1 ≤ o →
    pe xs (xs.length - i) o i = pe xs (xs.length - (i + f.sz)) (o - 1) (i + f.sz) := by
  have step : ∀ (xs : List Nd) (i : Nat) (x : Nd) (r : List Nd) (o : Int), xs.drop i = x :: r → 1 ≤ o → pe xs (xs.length - i) o i = pe xs (xs.length - (i + 1)) (o - 1 + prt x.1) (i + 1) := by
    intro xs i x r o h ho
    have := drop_lt h
    rw [show xs.length - i = (xs.length - (i + 1)) + 1 by omega, pe, if_neg (by omega), kd_at h]
  induction f with
  | va s =>
    intro xs i r o h ho
    rw [step xs i _ _ o h ho]
    have : prt (0 : Int) = 0 := by decide
    simp only [this, Fm.sz, Int.add_zero]
  | fa =>
    intro xs i r o h ho
    rw [step xs i _ _ o h ho]
    have : prt (1 : Int) = 0 := by decide
    simp only [this, Fm.sz, Int.add_zero]
  | bi k a b iha ihb =>
    intro xs i r o h ho
    have h' : xs.drop i = (k, 0) :: (a.enc ++ (b.enc ++ r)) := by rw [h]; simp [Fm.enc]
    rw [step xs i _ _ o h' ho]
    have e : prt k = 2 := by rcases hf.1 with rfl | rfl | rfl <;> decide
    have h2 := drop_next h'
    have h3 := drop_add h2
    rw [Fm.enc_len] at h3
    rw [e, iha hf.2.1 xs (i + 1) _ _ h2 (by omega), ihb hf.2.2 xs _ _ _ h3 (by omega)]
    have : i + 1 + a.sz + b.sz = i + (Fm.bi k a b).sz := by simp only [Fm.sz]; omega
    rw [this]
    congr 1; omega
  | un k a ih =>
    intro xs i r o h ho
    have h' : xs.drop i = (k, 0) :: (a.enc ++ r) := by rw [h]; simp [Fm.enc]
    rw [step xs i _ _ o h' ho]
    have e : prt k = 1 := by rcases hf.1 with rfl | rfl <;> decide
    have h2 := drop_next h'
    rw [e, ih hf.2 xs (i + 1) _ _ h2 (by omega)]
    have : i + 1 + a.sz = i + (Fm.un k a).sz := by simp only [Fm.sz]; omega
    rw [this]
    congr 1; omega
theorem pe_end (f : Fm) (hf : f.ok) {xs : List Nd} {i : Nat} {r : List Nd} (h : xs.drop i = f.enc ++ r) : pe xs (xs.length - i) 1 i = (i + f.sz : Nat) := by
  rw [pe_enc f hf xs i r 1 h (by omega)]
  cases xs.length - (i + f.sz) <;> (rw [pe, if_pos (by omega)])

/-- All nodes of a list are in order, and o parts are read by it. -/
def fin : List Nd → Nat → Bool
  | [], o => o == 0
  | x :: xs, o => decide (1 ≤ o) && (okN x.1 x.2 && fin xs (o - 1 + (prt x.1).toNat))
theorem ok_at {xs : List Nd} {k l : Nat} (h : treeTo xs l = true) (hk : k < l) : okN (kd xs k) (sy xs k) = true := by
  induction l with
  | zero => omega
  | succ l ih =>
    rw [treeTo, Bool.and_eq_true] at h
    by_cases e : k = l
    · subst e; exact h.2
    · exact ih h.1 (by omega)
theorem fin_of {xs : List Nd} (ht : treeTo xs xs.length = true) : ∀ (n i : Nat) (o : Nat), n = xs.length - i → i ≤ xs.length → pe xs n o i = xs.length → fin (xs.drop i) o = true := by
  intro n
  induction n with
  | zero =>
    intro i o hn hi h
    have : xs.length ≤ i := by omega
    rw [List.drop_eq_nil_of_le this]
    rw [pe] at h
    split at h
    · simp [fin]; omega
    · omega
  | succ n ih =>
    intro i o hn hi h
    have hlt : i < xs.length := by omega
    have e := List.drop_eq_getElem_cons hlt
    rw [pe] at h
    split at h
    · omega
    · have h2 := prt_bd (kd xs i)
      have hx := kd_at e
      have hy := sy_at e
      have ho := ok_at ht hlt
      have := ih (i + 1) (o - 1 + (prt (kd xs i)).toNat) (by omega) hlt (by rw [← h]; congr 1; omega)
      rw [e, fin, ← hx, ← hy, ho, this]
      simp; omega
theorem fin_list : ∀ (xs : List Nd) (o : Nat), fin xs o = true → ∃ fs : List Fm, fs.length = o ∧ (∀ f ∈ fs, f.ok) ∧ xs = fs.flatMap Fm.enc := by
  intro xs
  induction xs with
  | nil => intro o h; exact ⟨[], (by simp only [fin, beq_iff_eq] at h; exact h.symm), (by simp), rfl⟩
  | cons x xs ih =>
    intro o h
    rw [fin] at h
    simp only [Bool.and_eq_true, decide_eq_true_eq] at h
    obtain ⟨fs, hl, hok, hx⟩ := ih _ h.2.2
    obtain ⟨k, s⟩ := x
    have hn := h.2.1
    simp only [okN, inB, Bool.and_eq_true, decide_eq_true_eq, Bool.or_eq_true, beq_iff_eq] at hn
    obtain ⟨⟨⟨hk0, hk6⟩, hs0, hs5⟩, hks⟩ := hn
    have hp : prt k = (if k = 2 ∨ k = 3 ∨ k = 4 then 2 else if k = 5 ∨ k = 6 then 1 else 0) := rfl
    simp only at hl
    by_cases h2 : k = 2 ∨ k = 3 ∨ k = 4
    · rw [if_pos h2] at hp
      rw [hp] at hl
      match fs, hl, hok, hx with
      | a :: b :: fs, hl, hok, hx =>
        refine ⟨.bi k a b :: fs, ?_, ?_, ?_⟩
        · simp at hl ⊢; omega
        · intro f hf
          rcases List.mem_cons.1 hf with rfl | hf
          · exact ⟨h2, hok a (by simp), hok b (by simp)⟩
          · exact hok f (by simp [hf])
        · have : s = 0 := by omega
          subst this
          simp [hx, Fm.enc]
      | [a], hl, _, _ => simp at hl
      | [], hl, _, _ => simp at hl
    · rw [if_neg h2] at hp
      by_cases h1 : k = 5 ∨ k = 6
      · rw [if_pos h1] at hp
        rw [hp] at hl
        match fs, hl, hok, hx with
        | a :: fs, hl, hok, hx =>
          refine ⟨.un k a :: fs, ?_, ?_, ?_⟩
          · simp at hl ⊢; omega
          · intro f hf
            rcases List.mem_cons.1 hf with rfl | hf
            · exact ⟨h1, hok a (by simp)⟩
            · exact hok f (by simp [hf])
          · have : s = 0 := by omega
            subst this
            simp [hx, Fm.enc]
        | [], hl, _, _ => simp at hl
      · rw [if_neg h1] at hp
        rw [hp] at hl
        by_cases h0 : k = 0
        · subst h0
          refine ⟨.va s :: fs, ?_, ?_, ?_⟩
          · simp at hl ⊢; omega
          · intro f hf
            rcases List.mem_cons.1 hf with rfl | hf
            · exact ⟨hs0, by omega⟩
            · exact hok f hf
          · simp [hx, Fm.enc]
        · obtain rfl : k = 1 := by omega
          obtain rfl : s = 0 := by omega
          refine ⟨.fa :: fs, ?_, ?_, ?_⟩
          · simp at hl ⊢; omega
          · intro f hf
            rcases List.mem_cons.1 hf with rfl | hf
            · trivial
            · exact hok f hf
          · simp [hx, Fm.enc]
theorem fin_drop : ∀ (xs : List Nd) (o i : Nat), fin xs o = true → i < xs.length → ∃ o', 1 ≤ o' ∧ fin (xs.drop i) o' = true := by
  intro xs
  induction xs with
  | nil => intro o i _ h; simp at h
  | cons x xs ih =>
    intro o i h hi
    cases i with
    | zero =>
      refine ⟨o, ?_, h⟩
      rw [fin] at h
      simp only [Bool.and_eq_true, decide_eq_true_eq] at h
      exact h.1
    | succ i =>
      rw [fin] at h
      simp only [Bool.and_eq_true] at h
      exact ih _ i h.2.2 (by simpa using hi)
theorem is_fin {xs : List Nd} (h : isB xs xs.length = true) : fin xs 1 = true := by
  simp only [isB, treeB, Bool.and_eq_true, decide_eq_true_eq, beq_iff_eq] at h
  exact fin_of h.2.1.1 xs.length 0 1 rfl (Nat.zero_le _) h.2.2
/-- At every index of a formula a formula begins. -/
theorem sub_at {xs : List Nd} (h : isB xs xs.length = true) {i : Nat} (hi : i < xs.length) : ∃ (f : Fm) (r : List Nd), f.ok ∧ xs.drop i = f.enc ++ r := by
  obtain ⟨o, ho, hf⟩ := fin_drop xs 1 i (is_fin h) hi
  obtain ⟨fs, hl, hok, hx⟩ := fin_list _ _ hf
  match fs, hl with
  | f :: fs, _ => exact ⟨f, fs.flatMap Fm.enc, hok f (by simp), by simp [hx]⟩
  | [], hl => simp at hl; omega
theorem is_fm {xs : List Nd} (h : isB xs xs.length = true) : ∃ f : Fm, f.ok ∧ xs = f.enc ∧ f.sz ≤ 40 := by
  have h40 : xs.length ≤ 40 := by simp only [isB, Bool.and_eq_true, decide_eq_true_eq] at h; exact h.1
  obtain ⟨fs, hl, hok, hx⟩ := fin_list _ _ (is_fin h)
  match fs, hl with
  | [f], _ =>
    refine ⟨f, hok f (by simp), by simpa using hx, ?_⟩
    rw [← Fm.enc_len]
    have : xs = f.enc := by simpa using hx
    rw [← this]; exact h40
theorem okN_enc (f : Fm) (hf : f.ok) : ∀ x ∈ f.enc, okN x.1 x.2 = true := by
  induction f with
  | va s => intro x hx; simp [Fm.enc] at hx; subst hx; have := hf.1; have := hf.2; simp [okN, inB]; omega
  | fa => intro x hx; simp [Fm.enc] at hx; subst hx; rfl
  | bi k a b iha ihb =>
    intro x hx
    rcases List.mem_cons.1 hx with rfl | hx
    · rcases hf.1 with rfl | rfl | rfl <;> rfl
    · rcases List.mem_append.1 hx with hx | hx
      · exact iha hf.2.1 x hx
      · exact ihb hf.2.2 x hx
  | un k a ih =>
    intro x hx
    rcases List.mem_cons.1 hx with rfl | hx
    · rcases hf.1 with rfl | rfl <;> rfl
    · exact ih hf.2 x hx
theorem treeTo_of {xs : List Nd} (h : ∀ x ∈ xs, okN x.1 x.2 = true) : ∀ l, l ≤ xs.length → treeTo xs l = true := by
  intro l
  induction l with
  | zero => intro _; rfl
  | succ l ih =>
    intro hl
    have e := List.drop_eq_getElem_cons (show l < xs.length by omega)
    rw [treeTo, ih (by omega), kd_at e, sy_at e, h _ (List.getElem_mem _)]; rfl
theorem fm_is (f : Fm) (hf : f.ok) (h40 : f.sz ≤ 40) : isB f.enc f.enc.length = true := by
  have hl := f.enc_len
  have hp := f.sz_pos
  have he := pe_end f hf (xs := f.enc) (i := 0) (r := []) (by simp)
  rw [Nat.sub_zero, Nat.zero_add] at he
  rw [isB, treeB, treeTo_of (okN_enc f hf) _ (Nat.le_refl _), he, hl]
  simp; omega
/-- A formula is told by its nodes. -/
theorem enc_inj (f : Fm) (hf : f.ok) : ∀ (g : Fm) (r s : List Nd), g.ok → f.enc ++ r = g.enc ++ s → f = g ∧ r = s := by
  induction f with
  | va a => intro g r s hg h; cases g with
    | va b => simp [Fm.enc] at h; simp [h]
    | fa => simp [Fm.enc] at h
    | bi k b c => simp [Fm.enc] at h; have := hg.1; omega
    | un k b => simp [Fm.enc] at h; have := hg.1; omega
  | fa => intro g r s hg h; cases g with
    | va b => simp [Fm.enc] at h
    | fa => simp [Fm.enc] at h; simp [h]
    | bi k b c => simp [Fm.enc] at h; have := hg.1; omega
    | un k b => simp [Fm.enc] at h; have := hg.1; omega
  | bi k a b iha ihb => intro g r s hg h; cases g with
    | va c => simp [Fm.enc] at h; have := hf.1; omega
    | fa => simp [Fm.enc] at h; have := hf.1; omega
    | bi l c d =>
      simp only [Fm.enc, List.cons_append, List.append_assoc, List.cons.injEq, Prod.mk.injEq] at h
      obtain ⟨e1, h2⟩ := iha hf.2.1 c _ _ hg.2.1 h.2
      obtain ⟨e2, h3⟩ := ihb hf.2.2 d _ _ hg.2.2 h2
      exact ⟨by rw [h.1.1, e1, e2], h3⟩
    | un l c => simp [Fm.enc] at h; have := hf.1; have := hg.1; omega
  | un k a ih => intro g r s hg h; cases g with
    | va c => simp [Fm.enc] at h; have := hf.1; omega
    | fa => simp [Fm.enc] at h; have := hf.1; omega
    | bi l c d => simp [Fm.enc] at h; have := hf.1; have := hg.1; omega
    | un l c =>
      simp only [Fm.enc, List.cons_append, List.cons.injEq, Prod.mk.injEq] at h
      obtain ⟨e1, h3⟩ := ih hf.2 c _ _ hg.2 h.2
      exact ⟨by rw [h.1.1, e1], h3⟩
namespace Fm
/-- Height and modal depth. -/
def ht : Fm → Nat
  | va _ => 0
  | fa => 0
  | bi _ a b => max a.ht b.ht + 1
  | un _ a => a.ht + 1
def md : Fm → Nat
  | va _ => 0
  | fa => 0
  | bi _ a b => max a.md b.md
  | un _ a => a.md + 1
theorem ht_le (f : Fm) : f.ht < f.sz := by
  induction f with
  | va s => simp [ht, sz]
  | fa => simp [ht, sz]
  | bi k a b iha ihb => simp only [ht, sz]; omega
  | un k a ih => simp only [ht, sz]; omega
theorem md_le (f : Fm) : f.md < f.sz := by
  induction f with
  | va s => simp [md, sz]
  | fa => simp [md, sz]
  | bi k a b iha ihb => simp only [md, sz]; omega
  | un k a ih => simp only [md, sz]; omega
def isFa : Fm → Bool
  | fa => true
  | _ => false
/-- A text in parentheses if they are needed. -/
def par (b : Bool) (t : List UInt8) : List UInt8 := if b then 40 :: (t ++ [41]) else t
/-- The text of a formula where a level of binding is needed. -/
def wr : Fm → Nat → List UInt8
  | va s, _ => [UInt8.ofNat (112 + s.toNat)]
  | fa, _ => [70]
  | un k a, _ => (if k = 5 then [91, 93] else [60, 62]) ++ wr a 3
  | bi k a b, l =>
    if k = 2 then par (decide (2 < l)) (wr a 2 ++ 38 :: wr b 3)
    else if k = 3 then par (decide (1 < l)) (wr a 1 ++ 124 :: wr b 2)
    else if b.isFa then (if a.isFa then [84] else 126 :: wr a 3)
    else par (decide (0 < l)) (wr a 1 ++ 62 :: wr b 0)
theorem par_len (b : Bool) (t : List UInt8) : (par b t).length ≤ t.length + 2 := by cases b <;> simp [par]
theorem wr_len (f : Fm) : ∀ l, (f.wr l).length ≤ 4 * f.sz := by
  induction f with
  | va s => intro l; simp [wr, sz]
  | fa => intro l; simp [wr, sz]
  | un k a ih => intro l; have := ih 3; simp only [wr, sz, List.length_append]; split <;> simp <;> omega
  | bi k a b iha ihb =>
    intro l
    have h1 := iha 2; have h2 := ihb 3; have h3 := iha 1; have h4 := ihb 2; have h5 := iha 3; have h6 := ihb 0
    simp only [wr, sz]
    split
    · refine Nat.le_trans (par_len _ _) ?_; simp; omega
    · split
      · refine Nat.le_trans (par_len _ _) ?_; simp; omega
      · split
        · split
          · simp; omega
          · simp; omega
        · refine Nat.le_trans (par_len _ _) ?_; simp; omega
end Fm

open Classical in
/-- The tree of a list of nodes. -/
noncomputable def toFm (xs : List Nd) : Fm := if h : ∃ f : Fm, f.ok ∧ xs = f.enc ∧ f.sz ≤ 40 then Classical.choose h else .fa
theorem toFm_of {xs : List Nd} (h : isB xs xs.length = true) : (toFm xs).ok ∧ xs = (toFm xs).enc ∧ (toFm xs).sz ≤ 40 := by
  have he := is_fm h
  rw [toFm, dif_pos he]
  exact Classical.choose_spec he

end Go.Proofs.Ytfkdefmafhlmnaa
