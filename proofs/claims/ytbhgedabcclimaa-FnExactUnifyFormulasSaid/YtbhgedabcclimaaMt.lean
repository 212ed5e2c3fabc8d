/- Matching of formulas, node by node: what is matched so far, and that both lists end together. No conditions but those in the theorems. -/
import Derived.Test.YtbhgedabcclimaaSubV
import Derived.Test.YtbhgedabcclimaaNPol
namespace Go.Proofs.Ytbhgedabcclimaa

theorem fin_enc (f : Fm) (hf : f.ok) : ∀ (r : List Nd) (o : Nat), fin (f.enc ++ r) (o + 1) = fin r o := by
  induction f with
  | va s =>
    intro r o
    show (decide (1 ≤ o + 1) && (okN 0 s && fin r (o + 1 - 1 + (prt 0).toNat))) = _
    have h1 : okN 0 s = true := by
      have := hf.1
      have := hf.2
      simp [okN, inB]
      omega
    rw [h1, show (prt 0).toNat = 0 from rfl]
    simp
  | fa =>
    intro r o
    show (decide (1 ≤ o + 1) && (okN 1 0 && fin r (o + 1 - 1 + (prt 1).toNat))) = _
    rw [show okN 1 0 = true from rfl, show (prt 1).toNat = 0 from rfl]
    simp
  | un k a ih =>
    intro r o
    show (decide (1 ≤ o + 1) && (okN k 0 && fin (a.enc ++ r) (o + 1 - 1 + (prt k).toNat))) = _
    have h1 : okN k 0 = true := by rcases hf.1 with rfl | rfl <;> rfl
    have h2 : (prt k).toNat = 1 := by rcases hf.1 with rfl | rfl <;> rfl
    rw [h1, h2, show o + 1 - 1 + 1 = o + 1 by omega, ih hf.2]
    simp
  | bi k a b iha ihb =>
    intro r o
    show (decide (1 ≤ o + 1) && (okN k 0 && fin ((a.enc ++ b.enc) ++ r) (o + 1 - 1 + (prt k).toNat))) = _
    have h1 : okN k 0 = true := by rcases hf.1 with rfl | rfl | rfl <;> rfl
    have h2 : (prt k).toNat = 2 := by rcases hf.1 with rfl | rfl | rfl <;> rfl
    rw [h1, h2, show o + 1 - 1 + 2 = (o + 1) + 1 by omega, List.append_assoc, iha hf.2.1, ihb hf.2.2]
    simp
theorem fin_split {xs : List Nd} {o : Nat} (h : fin xs (o + 1) = true) : ∃ (f : Fm) (r : List Nd), f.ok ∧ xs = f.enc ++ r ∧ fin r o = true := by
  obtain ⟨fs, hl, hok, he⟩ := fin_list xs (o + 1) h
  cases fs with
  | nil => simp at hl
  | cons f fs =>
    have hf := hok f (by simp)
    refine ⟨f, fs.flatMap Fm.enc, hf, by rw [he]; rfl, ?_⟩
    rw [he, List.flatMap_cons, fin_enc f hf] at h
    exact h
theorem drop_cons {xs : List Nd} {k : Nat} (h : k < xs.length) : xs.drop k = (kd xs k, sy xs k) :: xs.drop (k + 1) := by
  rw [List.drop_eq_getElem_cons h]
  congr 1
  simp [kd, sy, List.getD_eq_getElem?_getD, h]
theorem fin_next {xs : List Nd} {k o : Nat} (hk : k < xs.length) (h : fin (xs.drop k) o = true) : 1 ≤ o ∧ fin (xs.drop (k + 1)) (o - 1 + (prt (kd xs k)).toNat) = true := by
  rw [drop_cons hk] at h
  simp only [fin, Bool.and_eq_true, decide_eq_true_eq] at h
  exact ⟨h.1, h.2.2⟩

/-- The part of ys from i to where it ends. -/
def cut (ys : List Nd) (i : Nat) : List Nd := (ys.drop i).take ((pe ys (ys.length - i) 1 i).toNat - i)
/-- What k nodes of xs are matched to: how many nodes of ys, and the parts for the variables (none for one that has not occurred). -/
def mtTo (xs ys : List Nd) : Nat → Option (Nat × List (List Nd))
  | 0 => some (0, List.replicate 6 [])
  | k + 1 => match mtTo xs ys k with
    | none => none
    | some (i, ps) =>
      if kd xs k = 0 then
        (if nthL ps (sy xs k).toNat ≠ [] ∧ nthL ps (sy xs k).toNat ≠ cut ys i then none else some (i + (cut ys i).length, ps.set (sy xs k).toNat (cut ys i)))
      else if kd xs k = kd ys i ∧ sy xs k = sy ys i then some (i + 1, ps) else none
theorem mt_none {xs ys : List Nd} {k l : Nat} (hk : k ≤ l) (h : mtTo xs ys k = none) : mtTo xs ys l = none := by
  induction l with
  | zero => simp at hk; subst hk; exact h
  | succ l ih =>
    by_cases e : k = l + 1
    · subst e; exact h
    · rw [mtTo, ih (by omega)]
structure MtI (xs ys : List Nd) (k i : Nat) (ps : List (List Nd)) (o : Nat) : Prop where
  to : mtTo xs ys k = some (i, ps)
  fx : fin (xs.drop k) o = true
  fy : fin (ys.drop i) o = true
  le : i ≤ ys.length
  six : ps.length = 6
  ok : ∀ j, j < 6 → nthL ps j = [] ∨ isB (nthL ps j) (nthL ps j).length = true
theorem nthL_rep (j : Nat) : nthL (List.replicate 6 []) j = ([] : List Nd) := by
  unfold nthL
  simp only [List.getD_eq_getElem?_getD, List.getElem?_replicate]
  split <;> rfl
theorem mt_start {xs ys : List Nd} (hx : isB xs xs.length = true) (hy : isB ys ys.length = true) : MtI xs ys 0 0 (List.replicate 6 []) 1 :=
  ⟨rfl, is_fin hx, is_fin hy, Nat.zero_le _, by simp, fun j _ => .inl (nthL_rep j)⟩
theorem MtI.lt {xs ys : List Nd} {k i o : Nat} {ps : List (List Nd)} (h : MtI xs ys k i ps o) (hk : k < xs.length) : i < ys.length ∧ 1 ≤ o := by
  have h1 := (fin_next hk h.fx).1
  refine ⟨?_, h1⟩
  rcases Nat.lt_or_ge i ys.length with h2 | h2
  · exact h2
  · have := h.fy
    rw [List.drop_eq_nil_of_le h2] at this
    simp [fin] at this
    omega
theorem MtI.fin {xs ys : List Nd} {i o : Nat} {ps : List (List Nd)} (h : MtI xs ys xs.length i ps o) : i = ys.length := by
  have h1 := h.fx
  rw [List.drop_eq_nil_of_le (Nat.le_refl _)] at h1
  have ho : o = 0 := by simpa [Go.Proofs.Ytbhgedabcclimaa.fin] using h1
  rcases Nat.lt_or_ge i ys.length with h2 | h2
  · have := (fin_next h2 h.fy).1
    omega
  · have := h.le; omega
/-- A variable of xs stands against a part of ys. -/
theorem MtI.part {xs ys : List Nd} {k i o : Nat} {ps : List (List Nd)} (h : MtI xs ys k i ps o) (hk : k < xs.length) (hy : ys.length ≤ 40) (h0 : kd xs k = 0) {q : Nat} (hq : sy xs k = q) (hq5 : q ≤ 5) :
    ∃ e : Nat, pe ys (ys.length - i) 1 i = e ∧ i < e ∧ e ≤ ys.length ∧ cut ys i = (ys.drop i).take (e - i) ∧ (cut ys i).length = e - i ∧ isB (cut ys i) (cut ys i).length = true ∧
      ((nthL ps q ≠ [] ∧ nthL ps q ≠ cut ys i) → mtTo xs ys (k + 1) = none) ∧ ((nthL ps q = [] ∨ nthL ps q = cut ys i) → MtI xs ys (k + 1) e (ps.set q (cut ys i)) (o - 1)) := by
  obtain ⟨hil, ho⟩ := h.lt hk
  obtain ⟨o', rfl⟩ : ∃ o', o = o' + 1 := ⟨o - 1, by omega⟩
  obtain ⟨f, r, hf, he, hr⟩ := fin_split h.fy
  have hpe := pe_end f hf he
  have hlen := congrArg List.length he
  simp only [List.length_drop, List.length_append, Fm.enc_len] at hlen
  have hsz := f.sz_pos
  have hcut : cut ys i = f.enc := by
    rw [cut, hpe, he, Int.toNat_natCast, show i + f.sz - i = f.enc.length by rw [Fm.enc_len]; omega, List.take_left]
  have hcl : (cut ys i).length = f.sz := by rw [hcut, Fm.enc_len]
  have hto : mtTo xs ys (k + 1) = if nthL ps q ≠ [] ∧ nthL ps q ≠ cut ys i then none else some (i + (cut ys i).length, ps.set q (cut ys i)) := by
    rw [mtTo, h.to]
    simp only [h0, hq, Int.toNat_natCast, if_true]
  refine ⟨i + f.sz, hpe, by omega, by omega, ?_, by omega, ?_, ?_, ?_⟩
  · rw [cut, hpe, Int.toNat_natCast]
  · rw [hcut]; exact fm_is f hf (by omega)
  · intro hh; rw [hto, if_pos hh]
  · intro hh
    refine ⟨?_, ?_, ?_, by omega, by rw [List.length_set]; exact h.six, ?_⟩
    · rw [hto, if_neg (fun hc => by rcases hh with h1 | h1; exact hc.1 h1; exact hc.2 h1), hcl]
    · have := (fin_next hk h.fx).2
      rw [h0] at this
      exact this
    · have : ys.drop (i + f.sz) = r := by have := drop_add he; rwa [Fm.enc_len] at this
      rw [this]; exact hr
    · intro j hj
      rw [nthL_set (by rw [h.six]; omega)]
      split
      · right; rw [hcut]; exact fm_is f hf (by omega)
      · exact h.ok j hj
theorem MtI.node {xs ys : List Nd} {k i o : Nat} {ps : List (List Nd)} (h : MtI xs ys k i ps o) (hk : k < xs.length) (h0 : ¬ kd xs k = 0) :
    (¬ (kd xs k = kd ys i ∧ sy xs k = sy ys i) → mtTo xs ys (k + 1) = none) ∧ ((kd xs k = kd ys i ∧ sy xs k = sy ys i) → MtI xs ys (k + 1) (i + 1) ps (o - 1 + (prt (kd xs k)).toNat)) := by
  obtain ⟨hil, ho⟩ := h.lt hk
  have hto : mtTo xs ys (k + 1) = if kd xs k = kd ys i ∧ sy xs k = sy ys i then some (i + 1, ps) else none := by
    rw [mtTo, h.to]
    simp only [if_neg h0]
  refine ⟨fun hh => by rw [hto, if_neg hh], fun hh => ⟨by rw [hto, if_pos hh], (fin_next hk h.fx).2, ?_, by omega, h.six, h.ok⟩⟩
  have := (fin_next hil h.fy).2
  rw [← hh.1] at this
  exact this

/-- The substitution of the parts: a variable that has not occurred is mapped to itself. -/
def fill (ps : List (List Nd)) : List (List Nd) := (List.range 6).map fun (v : Nat) => if nthL ps v = [] then [((0 : Int), (v : Int))] else nthL ps v
theorem fill_len (ps : List (List Nd)) : (fill ps).length = 6 := by simp [fill]
theorem fill_at {ps : List (List Nd)} {j : Nat} (h : j < 6) : nthL (fill ps) j = if nthL ps j = [] then [((0 : Int), (j : Int))] else nthL ps j := by
  show (fill ps).getD j [] = _
  unfold fill
  simp [List.getD_eq_getElem?_getD, h]
theorem list_ext_nn {xss yss : List (List Nd)} (hl : xss.length = yss.length) (h : ∀ j, j < xss.length → nthL xss j = nthL yss j) : xss = yss := by
  apply List.ext_getElem hl
  intro j h1 h2
  have e := h j h1
  have e1 : nthL xss j = xss[j] := by simp [nthL, List.getD_eq_getElem?_getD, h1]
  have e2 : nthL yss j = yss[j] := by simp [nthL, List.getD_eq_getElem?_getD, h2]
  rw [e1, e2] at e
  exact e
theorem fill_rep : fill (List.replicate 6 []) = selfTo 6 := by
  refine list_ext_nn (by rw [fill_len, selfTo_len]) (fun j hj => ?_)
  rw [fill_len] at hj
  rw [fill_at hj, nthL_rep, if_pos rfl, selfTo_at hj]
theorem fill_set {ps : List (List Nd)} {q : Nat} {part : List Nd} (h6 : ps.length = 6) (hq : q ≤ 5) (hp : part ≠ []) : fill (ps.set q part) = (fill ps).set q part := by
  refine list_ext_nn (by rw [List.length_set, fill_len, fill_len]) (fun j hj => ?_)
  rw [fill_len] at hj
  rw [fill_at hj, nthL_set (by rw [h6]; omega), nthL_set (by rw [fill_len]; omega), fill_at hj]
  by_cases e : j = q
  · rw [if_pos e, if_pos e, if_neg hp]
  · rw [if_neg e, if_neg e]
def mtP (xs ys : List Nd) : Option (List (List Nd)) := (mtTo xs ys xs.length).map (·.2)
def mtR (xs ys : List Nd) : List (List Nd) := if isB xs xs.length && isB ys ys.length then (match mtTo xs ys xs.length with | none => [] | some (_, ps) => fill ps) else []
def mtC (xs ys : List Nd) : Int := if isB xs xs.length && isB ys ys.length then (match mtTo xs ys xs.length with | none => 4 | some _ => 0) else 1
theorem mtR_bad {xs ys : List Nd} (h : (isB xs xs.length && isB ys ys.length) = false) : mtR xs ys = [] ∧ mtC xs ys = 1 := by simp only [mtR, mtC, h]; exact ⟨rfl, rfl⟩
theorem mtR_no {xs ys : List Nd} (h : (isB xs xs.length && isB ys ys.length) = true) (h2 : mtTo xs ys xs.length = none) : mtR xs ys = [] ∧ mtC xs ys = 4 := by simp only [mtR, mtC, h, h2]; exact ⟨rfl, rfl⟩
theorem mtR_yes {xs ys : List Nd} {i : Nat} {ps : List (List Nd)} (h : (isB xs xs.length && isB ys ys.length) = true) (h2 : mtTo xs ys xs.length = some (i, ps)) : mtR xs ys = fill ps ∧ mtC xs ys = 0 := by simp only [mtR, mtC, h, h2]; exact ⟨rfl, rfl⟩

end Go.Proofs.Ytbhgedabcclimaa
