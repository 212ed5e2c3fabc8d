/- 5 texts in one: Slices, Wi, More, Box, Law. -/
import Derived.Deep.OwnRows
import Derived.OwnWalk
import Derived.Test.YtpccocmiadpgiaaReads
/- Contracts of the small functions of package laws over lists of int64: copy, compare, mark, held. Conditions: those in the theorems. -/
namespace Go.Proofs.Ytpccocmiadpgiaa
open Go.RowKit

theorem info64 : (Try.prog.info? 2).map (fun i => (i.zero, i.size, i.bytes)) = some (some (.int .i64 0), 1, 8) := by kernel_rfl

/-- The slice value v is the call's own, from block B on, and holds xs. -/
def Own (w : World) (B : Nat) (v : Value) (xs : List Int) : Prop := w.ownsRow B 2 1 v xs.length (xs.map (Value.int .i64))

theorem nth_map {xs : List Int} {j : Nat} (h : j < xs.length) : (xs.map (Value.int .i64))[j]? = some (.int .i64 (nth xs j)) := by
  simp [nth, List.getD, h]

theorem Own.at {w : World} {B : Nat} {v : Value} {xs : List Int} (h : Own w B v xs) :
    ∃ a cap, v = .slice a xs.length cap ∧ At w a xs.length xs ∧ xs.length ≤ cap ∧ (a = none → cap = 0) ∧ ∀ p, a = some p → B ≤ p.block ∧ p.block < w.heap.size := by
  have h' := h
  rcases h.2 with ⟨hv, hn⟩ | ⟨g, cap, cur, hv, hg, hh, hc, hm, hs, ht⟩
  · refine ⟨none, 0, by rw [hv, hn], ⟨rfl, .inl hn⟩, by omega, (fun _ => rfl), (fun p hp => by cases hp)⟩
  · have hlt : g < w.heap.size := (Array.getElem?_eq_some_iff.1 hh).1
    subst hv
    refine ⟨some ⟨g, 0, none⟩, cap, rfl, ⟨rfl, .inr ⟨g, 0, rfl, hlt, fun j hj => ?_⟩⟩, hc, (fun h => by cases h), (fun p hp => by cases hp; exact ⟨hg, hlt⟩)⟩
    have e := h'.cellAt j (by omega)
    rw [Nat.zero_add, e, nth_map hj]

theorem Own.mono {w : World} {B B' : Nat} {v : Value} {xs : List Int} (h : Own w B v xs) (hB : B' ≤ B) : Own w B' v xs := by
  refine ⟨h.1, ?_⟩
  rcases h.2 with h2 | ⟨g, cap, cur, hv, hg, r⟩
  · exact .inl h2
  · exact .inr ⟨g, cap, cur, hv, Nat.le_trans hB hg, r⟩

/-- What is owned stays so where the blocks stay. -/
theorem Own.keep {w w' : World} {B C : Nat} {v : Value} {xs : List Int} (h : Own w B v xs) (hb : Below C w w') (hC : w.heap.size ≤ C) : Own w' B v xs := by
  refine ⟨h.1, ?_⟩
  rcases h.2 with h2 | ⟨g, cap, cur, hv, hg, hh, r⟩
  · exact .inl h2
  · have hlt : g < w.heap.size := (Array.getElem?_eq_some_iff.1 hh).1
    exact .inr ⟨g, cap, cur, hv, hg, by rw [hb.block g (by omega)]; exact hh, r⟩

theorem At.keep {w w' : World} {C : Nat} {a : Option Addr} {len : Nat} {xs : List Int} (h : At w a len xs) (hb : Below C w w') (hC : w.heap.size ≤ C) : At w' a len xs := by
  refine ⟨h.1, ?_⟩
  rcases h.2 with h2 | ⟨b, off, ha, hlt, hc⟩
  · exact .inl h2
  · exact .inr ⟨b, off, ha, Nat.lt_of_lt_of_le hlt hb.size, fun j hj => (hb.cell (p := ⟨b, off + j, none⟩) (by show b < C; omega)).trans (hc j hj)⟩

theorem below_drewN {B : Nat} {a w : World} (h : Below B a w) (n : Nat) : Below B a (w.drewN n) := ⟨h.os, h.tape, h.output, h.size, h.block⟩

/-- append of one int64 to a slice of the call's own, as a step of a region that draws, and as a step of the walk. -/
theorem wp_app1 {o : Oper} {a : Act} {w : World} {K : Act → World → Prop} {Q : Exit → Act → World → Prop} (s x : Operand)
    (ho : o.op = .call { callee := .builtin .append, args := #[s, x], argTypes := #[76, 76] })
    (B : Nat) (v : Value) (n : Nat) (xs : List Value) (hs : a.eval s = v) (hown : w.ownsRow B 2 1 v n xs)
    (ad : Addr) (c : Nat) (z : Int) (hx : a.eval x = .slice (some ad) 1 c) (hz : w.cell? ad = some (.int .i64 z)) (hn : n ≤ 1099511627776) (hB : B ≤ w.heap.size)
    (h : ∀ v' w', w'.ownsRow B 2 1 v' (n + 1) (xs ++ [.int .i64 z]) → w.grownBy w' v.ownBlock → K (a.put o.dst v') w') : o.wp Try.prog a w K Q := by
  obtain ⟨i0, hi, hz0, hz1, hz2⟩ := info_parts info64
  refine wp_append_own w s x 76 ho B 2 i0 (.int .i64 0) 1 8 Try.underlying76 hi hz0 hz1 hz2 rfl (by decide) v n xs hs hown ad 1 c [.int .i64 z] hx rfl ?_ ?_ (by unfold maxLen; omega) (by omega) hB (fun v' w' h1 h2 _ => h v' w' h1 h2)
  · intro j u hu
    match j, hu with
    | 0, hu => simp at hu; subst hu; simpa [Addr.add] using hz
  · intro u hu
    simp at hu; subst hu; rfl
theorem step_app1 {ops : Array Oper} {o : Oper} {a : Act} {w : World} {K : Act → World → Prop} {Q : Exit → Act → World → Prop} {E : Prop} (hgd : o.guard = none) (s x : Operand)
    (ho : o.op = .call { callee := .builtin .append, args := #[s, x], argTypes := #[76, 76] })
    (B : Nat) (v : Value) (n : Nat) (xs : List Value) (hs : a.eval s = v) (hown : w.ownsRow B 2 1 v n xs)
    (ad : Addr) (c : Nat) (z : Int) (hx : a.eval x = .slice (some ad) 1 c) (hz : w.cell? ad = some (.int .i64 z)) (hn : n ≤ 1099511627776) (hB : B ≤ w.heap.size)
    (h : ∀ v' w', w'.ownsRow B 2 1 v' (n + 1) (xs ++ [.int .i64 z]) → w.grownBy w' v.ownBlock → K (a.put o.dst v') w') :
    if Region.wanted o (yielded ops a.tmps) = true then Oper.wp Try.prog o a w K Q else E := by
  have hw : Region.wanted o (yielded ops a.tmps) = true := by simp [Region.wanted, hgd]
  rw [if_pos hw]
  exact wp_app1 s x ho B v n xs hs hown ad c z hx hz hn hB h
theorem list_app1 {ops : Array Oper} {rest : List Oper} {o : Oper} {a : Act} {w : World} {Q : Exit → Act → World → Prop} (hgd : o.guard = none) (s x : Operand)
    (ho : o.op = .call { callee := .builtin .append, args := #[s, x], argTypes := #[76, 76] })
    (B : Nat) (v : Value) (n : Nat) (xs : List Value) (hs : a.eval s = v) (hown : w.ownsRow B 2 1 v n xs)
    (ad : Addr) (c : Nat) (z : Int) (hx : a.eval x = .slice (some ad) 1 c) (hz : w.cell? ad = some (.int .i64 z)) (hn : n ≤ 1099511627776) (hB : B ≤ w.heap.size)
    (h : ∀ v' w', w'.ownsRow B 2 1 v' (n + 1) (xs ++ [.int .i64 z]) → w.grownBy w' v.ownBlock → wpList Try.prog ops Q rest (a.put o.dst v') w') : wpList Try.prog ops Q (o :: rest) a w :=
  wpList_plain hgd fun _ hK => wp_app1 s x ho B v n xs hs hown ad c z hx hz hn hB fun v' w' h1 h2 => hK _ _ (h v' w' h1 h2)

/-- Behind such an append: below B nothing has turned. -/
theorem below_app {B : Nat} {w wr X w1 : World} {v : Value} {n : Nat} {xs : List Value} (hbel : Below B w wr) (hX : Below B wr X) (hB : B ≤ wr.heap.size) (ho : wr.ownsRow B 2 1 v n xs) (hg : X.grownBy w1 v.ownBlock) : Below B w w1 :=
  (hbel.trans hX).grown hg (Nat.le_trans hB hX.size) (fun k hk => (ho.lt k hk).1)

def cpl (xs : List Int) (len k : Nat) : List Int := xs.take k ++ List.replicate (len - k) 0
theorem cpl_len (xs : List Int) (len k : Nat) (h : len = xs.length) (hk : k ≤ len) : (cpl xs len k).length = len := by simp [cpl]; omega
theorem cpl_set (xs : List Int) (len k : Nat) (h : len = xs.length) (hk : k < len) : ((cpl xs len k).map (Value.int .i64)).set k (.int .i64 (nth xs k)) = (cpl xs len (k + 1)).map (Value.int .i64) := by
  rw [← List.map_set]
  congr 1
  unfold cpl nth
  apply List.ext_getElem?
  intro j
  by_cases e : j = k
  · subst e
    have h1 : j < xs.length := by omega
    rw [List.getElem?_set_self (by simp; omega), List.getElem?_append_left (by simp; omega), List.getElem?_take, if_pos (by omega)]
    simp [List.getD, h1]
  · rw [List.getElem?_set_ne (by omega)]
    simp only [List.getElem?_append, List.getElem?_take, List.length_take, List.getElem?_replicate]
    by_cases h1 : j < k
    · simp [h1, show j < min k xs.length by omega, show j < k + 1 by omega, show j < min (k+1) xs.length by omega]
    · simp [show ¬ j < min k xs.length by omega, show ¬ j < min (k+1) xs.length by omega]
      simp [show min k xs.length = k by omega, show min (k + 1) xs.length = k + 1 by omega, show (j - k < len - k) ↔ (j - (k + 1) < len - (k + 1)) by omega]
theorem cpl_zero (xs : List Int) (len : Nat) : (madeCells #[.int .i64 0] len).toList = (cpl xs len 0).map (Value.int .i64) := by
  rw [toList_madeCells_one]; simp [cpl]
theorem cpl_all (xs : List Int) (len : Nat) (h : len = xs.length) : cpl xs len len = xs := by subst h; simp [cpl]

def mks (k : Int) : Nat → List Int
  | 0 => []
  | n + 1 => mks k n ++ [k + n]
theorem mks_len (k : Int) (n : Nat) : (mks k n).length = n := by induction n with | zero => rfl | succ n ih => simp [mks, ih]
theorem mks_nth (k : Int) (n j : Nat) (h : j < n) : nth (mks k n) j = k + j := by
  induction n with
  | zero => omega
  | succ n ih =>
    have hl := mks_len k n
    have e2 : mks k (n + 1) = mks k n ++ [k + n] := rfl
    by_cases e : j = n
    · subst e; rw [e2]; unfold nth; simp [List.getD, hl]
    · have h2 := ih (by omega)
      rw [e2]
      unfold nth at h2 ⊢
      rw [List.getD_eq_getElem?_getD] at h2 ⊢
      rw [List.getElem?_append_left (by omega)]
      exact h2

/-- xs with its first j elements marked. -/
def mkl (xs : List Int) (k : Int) (j : Nat) : List Int := mks k j ++ xs.drop j
theorem mkl_len (xs : List Int) (k : Int) (j : Nat) (h : j ≤ xs.length) : (mkl xs k j).length = xs.length := by simp [mkl, mks_len]; omega
theorem mkl_set (xs : List Int) (k : Int) (j : Nat) (h : j < xs.length) : ((mkl xs k j).map (Value.int .i64)).set j (.int .i64 (k + j)) = (mkl xs k (j + 1)).map (Value.int .i64) := by
  rw [← List.map_set]
  congr 1
  have e : xs.drop j = xs[j] :: xs.drop (j + 1) := List.drop_eq_getElem_cons h
  rw [mkl, mkl, mks, e, List.set_append_right _ _ (by simp [mks_len]), mks_len, Nat.sub_self, List.set_cons_zero, List.append_assoc]
  rfl
theorem mkl_all (xs : List Int) (k : Int) : mkl xs k xs.length = mks k xs.length := by simp [mkl]

end Go.Proofs.Ytpccocmiadpgiaa

/- Rows that a call owns, whatever their elements: what keeps them. Conditions: those in the theorems. -/
namespace Go.Proofs.Ytpccocmiadpgiaa
open Go.RowKit

def atV (vs : List Value) (j : Nat) : Value := vs.getD j (.slice none 0 0)
theorem atV_some {vs : List Value} {j : Nat} (h : j < vs.length) : vs[j]? = some (atV vs j) := by simp [atV, List.getD_eq_getElem?_getD, h]
theorem ownsRow_below {w w' : World} {lo C : Nat} {e : TypeId} {sz : Nat} {v : Value} {n : Nat} {xs : List Value} (h : w.ownsRow lo e sz v n xs) (hk : ∀ k, v.ownBlock = some k → k < C) (hb : Below C w w') : w'.ownsRow lo e sz v n xs := by
  refine ⟨h.1, ?_⟩
  rcases h.2 with h2 | ⟨g, cap, cur, hv, hg, hh, r⟩
  · exact .inl h2
  · exact .inr ⟨g, cap, cur, hv, hg, by rw [hb.block g (hk g (by rw [hv]; rfl))]; exact hh, r⟩
theorem ownsRow_mono {w : World} {lo lo' : Nat} {e : TypeId} {sz : Nat} {v : Value} {n : Nat} {xs : List Value} (h : w.ownsRow lo e sz v n xs) (hl : lo' ≤ lo) : w.ownsRow lo' e sz v n xs := by
  refine ⟨h.1, ?_⟩
  rcases h.2 with h2 | ⟨g, cap, cur, hv, hg, r⟩
  · exact .inl h2
  · exact .inr ⟨g, cap, cur, hv, Nat.le_trans hl hg, r⟩

/-- Only blocks lo .. hi - 1 have turned. -/
structure Within (lo hi : Nat) (w w' : World) : Prop where
  os : w'.os = w.os
  tape : w'.tape = w.tape
  output : w'.output = w.output
  size : w.heap.size ≤ w'.heap.size
  block : ∀ k, k < w.heap.size → k < lo ∨ hi ≤ k → w'.heap[k]? = w.heap[k]?
theorem Within.refl (lo hi : Nat) (w : World) : Within lo hi w w := ⟨rfl, rfl, rfl, Nat.le_refl _, fun _ _ _ => rfl⟩
theorem Within.grown {lo hi : Nat} {w a b : World} {r : Option Nat} (h : Within lo hi w a) (hg : a.grownBy b r) (hr : ∀ k, r = some k → lo ≤ k ∧ k < hi) : Within lo hi w b :=
  ⟨hg.os.trans h.os, hg.tape.trans h.tape, hg.output.trans h.output, Nat.le_trans h.size hg.size, fun k hk hd => (hg.block k (Nat.lt_of_lt_of_le hk h.size) (fun e => by have := hr k e.symm; omega)).trans (h.block k hk hd)⟩
theorem Within.below {lo hi : Nat} {w w' : World} (h : Within lo hi w w') (hl : lo ≤ w.heap.size) : Below lo w w' := ⟨h.os, h.tape, h.output, h.size, fun k hk => h.block k (by omega) (.inl hk)⟩

theorem mono_to {p : Nat → Nat} {n : Nat} (h : ∀ j, j < n → p j ≤ p (j + 1)) {i j : Nat} (hij : i ≤ j) (hj : j ≤ n) : p i ≤ p j := by
  induction j with
  | zero => have : i = 0 := by omega
            subst this; exact Nat.le_refl _
  | succ j ih =>
    by_cases e : i = j + 1
    · subst e; exact Nat.le_refl _
    · exact Nat.le_trans (ih (by omega) (by omega)) (h j (by omega))

theorem atV_set {us : List Value} {k j : Nat} {v : Value} : atV (us.set k v) j = if j = k ∧ k < us.length then v else atV us j := by
  unfold atV
  rw [List.getD_eq_getElem?_getD, List.getD_eq_getElem?_getD, List.getElem?_set]
  by_cases e : j = k
  · subst e
    by_cases h : j < us.length <;> simp [h]
  · simp [e, Ne.symm e]

theorem rgrown_set (w : World) (b o : Nat) (v : Value) : w.grownBy (w.setCell ⟨b, o, none⟩ v) (some b) :=
  ⟨rfl, rfl, rfl, by simp [World.setCell], fun k _ hne => Below.heap_setCell _ _ _ _ (fun e => hne (by rw [e]))⟩
theorem row_type {w : World} {lo : Nat} {e : TypeId} {sz : Nat} {v : Value} {n : Nat} {xs : List Value} (h : w.ownsRow lo e sz v n xs) : ∀ k, v.ownBlock = some k → lo ≤ k ∧ ∃ cs f, w.heap[k]? = some (.cells cs e f) := by
  intro k hk
  rcases h.2 with ⟨hv, -⟩ | ⟨g, cap, cur, hv, hg, hh, -⟩
  · rw [hv] at hk; cases hk
  · rw [hv] at hk; cases hk; exact ⟨hg, cur, (0, 0), hh⟩
theorem row_kept {w w' : World} {lo : Nat} {e : TypeId} {sz : Nat} {v : Value} {n : Nat} {xs : List Value} {r : Option Nat} (h : w.ownsRow lo e sz v n xs) (hg : w.grownBy w' r) (hr : ∀ k, r = some k → ∃ cs T f, w.heap[k]? = some (.cells cs T f) ∧ T ≠ e) : w'.ownsRow lo e sz v n xs := by
  refine World.ownsRow.kept h hg ?_
  cases hv : v.ownBlock with
  | none => exact .inl rfl
  | some k =>
    right
    intro e2
    obtain ⟨-, cs, f, h1⟩ := row_type h k hv
    obtain ⟨cs', T, f', h2, h3⟩ := hr k e2.symm
    rw [h1] at h2
    simp only [Option.some.injEq, Obj.cells.injEq] at h2
    exact h3 h2.2.1.symm
theorem row_slice {w : World} {lo : Nat} {e : TypeId} {sz : Nat} {v : Value} {n : Nat} {xs : List Value} (h : w.ownsRow lo e sz v n xs) : ∃ a c, v = .slice a n c := by
  rcases h.2 with ⟨hv, hn⟩ | ⟨g, cap, cur, hv, -⟩
  · exact ⟨none, 0, by rw [hv, hn]⟩
  · exact ⟨_, _, hv⟩
theorem rec_kept {w w' : World} {R : Nat} {c : Array Value} {T : TypeId} {f : Nat × Nat} {r : Option Nat} (h : w.heap[R]? = some (.cells c T f)) (hg : w.grownBy w' r) (hr : ∀ k, r = some k → ∃ cs T' f', w.heap[k]? = some (.cells cs T' f') ∧ T' ≠ T) : w'.heap[R]? = some (.cells c T f) := by
  rw [hg.block R (Array.getElem?_eq_some_iff.1 h).1 (fun e => ?_)]
  · exact h
  · obtain ⟨cs, T', f', h1, h2⟩ := hr R e.symm
    rw [h] at h1
    simp only [Option.some.injEq, Obj.cells.injEq] at h1
    exact h2 h1.2.1.symm
theorem row_other {w : World} {lo : Nat} {e T : TypeId} {sz : Nat} {v : Value} {n : Nat} {xs : List Value} (h : w.ownsRow lo e sz v n xs) (hT : e ≠ T) : ∀ k, v.ownBlock = some k → ∃ cs T' f', w.heap[k]? = some (.cells cs T' f') ∧ T' ≠ T := fun k hk => by
  obtain ⟨-, cs, f, h1⟩ := row_type h k hk
  exact ⟨cs, e, f, h1, hT⟩
theorem rec_other {w : World} {R : Nat} {c : Array Value} {e T : TypeId} {f : Nat × Nat} (h : w.heap[R]? = some (.cells c e f)) (hT : e ≠ T) : ∀ k, some R = some k → ∃ cs T' f', w.heap[k]? = some (.cells cs T' f') ∧ T' ≠ T := fun k hk => by
  cases hk
  exact ⟨c, e, f, h, hT⟩
theorem row_set {w : World} {R lo : Nat} {c : Array Value} {e T : TypeId} {f : Nat × Nat} {sz : Nat} {v : Value} {n : Nat} {xs : List Value} (h : w.ownsRow lo e sz v n xs) (hR : w.heap[R]? = some (.cells c T f)) (hT : T ≠ e) (o : Nat) (u : Value) : (w.setCell ⟨R, o, none⟩ u).ownsRow lo e sz v n xs := row_kept h (rgrown_set w R o u) (rec_other hR hT)

theorem row_take {w : World} {lo : Nat} {e : TypeId} {g n c : Nat} {xs : List Value} (h : w.ownsRow lo e 1 (.slice (some ⟨g, 0, none⟩) n c) n xs) (k : Nat) (hk : k ≤ n) : w.ownsRow lo e 1 (.slice (some ⟨g, 0, none⟩) k c) k (xs.take k) := by
  obtain ⟨hl, ⟨hv, -⟩ | ⟨g', cap, cur, hv, hg, hh, hc, hm, hs, ht⟩⟩ := h
  · cases hv
  · simp only [Value.slice.injEq, Option.some.injEq, Addr.mk.injEq, and_true] at hv
    obtain ⟨rfl, -, rfl⟩ := hv
    refine ⟨by simp; omega, .inr ⟨g, c, cur, rfl, hg, hh, by omega, hm, hs, ?_⟩⟩
    rw [← ht, List.take_take]
    congr 1
    omega
theorem row_some {w : World} {lo : Nat} {e : TypeId} {sz : Nat} {v : Value} {n : Nat} {xs : List Value} (h : w.ownsRow lo e sz v n xs) (hn : 0 < n) : ∃ g c, v = .slice (some ⟨g, 0, none⟩) n c ∧ lo ≤ g := by
  rcases h.2 with ⟨-, h0⟩ | ⟨g, cap, cur, hv, hg, -⟩
  · omega
  · exact ⟨g, cap, hv, hg⟩
theorem row_lt {w : World} {lo : Nat} {e : TypeId} {sz : Nat} {v : Value} {n : Nat} {xs : List Value} (h : w.ownsRow lo e sz v n xs) : ∀ k, v.ownBlock = some k → k < w.heap.size := fun k hk => by
  obtain ⟨-, cs, f, hh⟩ := row_type h k hk
  exact (Array.getElem?_eq_some_iff.1 hh).1
theorem row_within {w w' : World} {lo hi lo' hi' : Nat} {e : TypeId} {sz : Nat} {v : Value} {n : Nat} {xs : List Value} (h : w.ownsRow lo e sz v n xs) (hv : ∀ k, v.ownBlock = some k → lo ≤ k ∧ k < hi) (hw : Within lo' hi' w w') (hd : hi ≤ lo' ∨ hi' ≤ lo) : w'.ownsRow lo e sz v n xs := by
  refine ⟨h.1, ?_⟩
  rcases h.2 with h2 | ⟨g, cap, cur, hv2, hg, hh, r⟩
  · exact .inl h2
  · have hlt := hv g (by rw [hv2]; rfl)
    have hs : g < w.heap.size := (Array.getElem?_eq_some_iff.1 hh).1
    exact .inr ⟨g, cap, cur, hv2, hg, by rw [hw.block g hs (by omega)]; exact hh, r⟩
theorem made_row {w w1 : World} {lo : Nat} {e : TypeId} {g n c : Nat} {us : List Value} {k : Nat} (h : w.ownsRow lo e 1 (.slice (some ⟨g, 0, none⟩) n c) n us) (hk : k < n) (hb : Below w.heap.size w w1) : w1.ownsRow lo e 1 (.slice (some ⟨g, 0, none⟩) n c) n us ∧ w1.cell? ⟨g, k, none⟩ = some (atV us k) ∧ w1.frozen? ⟨g, k, none⟩ = false := by
  have h1 := ownsRow_below h (fun k hk => by obtain ⟨-, cs, f, hh⟩ := row_type h k hk; exact (Array.getElem?_eq_some_iff.1 hh).1) hb
  have hl := h.1
  exact ⟨h1, (h1.cellAt k (by omega)).trans (atV_some (by omega)), h1.frozenAt _⟩

end Go.Proofs.Ytpccocmiadpgiaa

/- Contracts of the remaining functions of chapter 1 that read a list and return numbers. Conditions: those in the theorems. -/
namespace Go.Proofs.Ytpccocmiadpgiaa
open Go.RowKit

def bothI (xs : List Int) (len : Nat) (m : Int) : Int := if 30 < len then 2 else if mksTo len xs len && mskB len m then 0 else 1
theorem bothI_big {xs : List Int} {len : Nat} {m : Int} (h : 30 < len) : bothI xs len m = 2 := if_pos h
theorem bothI_of {xs : List Int} {len : Nat} {m : Int} (h : ¬ 30 < len) {b c : Bool} (h1 : mksTo len xs len = b) (h2 : mskB len m = c) : bothI xs len m = if b && c then 0 else 1 := by rw [bothI, if_neg h, h1, h2]
theorem cod_of {len : Nat} {m : Int} (h : ¬ 30 < len) {c : Bool} (h2 : mskB len m = c) : cod len m = if c then 0 else 1 := by
  have : inB (len : Int) 0 30 = true := by simp [inB]; omega
  rw [cod, this, h2]; rfl
theorem cod_both {xs : List Int} {len : Nat} {m : Int} (h : ¬ 30 < len) (h1 : mksTo len xs len = true) : cod len m = bothI xs len m := by
  cases h2 : mskB len m <;> rw [cod_of h h2, bothI_of h h1 h2] <;> rfl
theorem mksTo_small {xs : List Int} {len : Nat} {m : Int} (h : bothI xs len m = 0) : len ≤ 30 ∧ mksTo len xs len = true ∧ mskB len m = true := by
  unfold bothI at h
  split at h
  · omega
  · cases h1 : mksTo len xs len <;> cases h2 : mskB len m <;> simp [h1, h2] at h ⊢ <;> omega

def imgV (xs : List Int) (len : Nat) (m : Int) : Int := if bothI xs len m = 0 then imgTo xs m len else 0
theorem ImgOut_ok {xs : List Int} {len : Nat} {m : Int} (h : bothI xs len m = 0) : Ending.returned (.tuple #[.int .i64 (imgTo xs m len), .int .i64 0]) = .returned (.tuple #[.int .i64 (imgV xs len m), .int .i64 (bothI xs len m)]) := by rw [imgV, if_pos h, h]
theorem ImgOut_bad {xs : List Int} {len : Nat} {m c : Int} (h : ¬ bothI xs len m = 0) (hc : c = bothI xs len m) : Ending.returned (.tuple #[.int .i64 0, .int .i64 c]) = .returned (.tuple #[.int .i64 (imgV xs len m), .int .i64 (bothI xs len m)]) := by rw [imgV, if_neg h, hc]
theorem At.drewN {w : World} {a : Option Addr} {len : Nat} {xs : List Int} (h : At w a len xs) (q : Nat) : At (w.drewN q) a len xs := h.keep (below_drewN (Below.refl w.heap.size w) q) (Nat.le_refl _)

end Go.Proofs.Ytpccocmiadpgiaa

/- Contracts of the functions of chapter 1 behind BoxMask and MaskOf, and the walks of their laws. Conditions: those in the theorems. -/
namespace Go.Proofs.Ytpccocmiadpgiaa
open Go.RowKit

theorem wrap_toInt (u : BitVec 64) : IntKind.i64.wrap (u.toNat : Int) = u.toInt := by
  rw [IntKind.wrap_i64, BitVec.toInt]
  have h := u.isLt
  split <;> omega
theorem ofInt_toInt (x : Int) (h : -9223372036854775808 ≤ x ∧ x ≤ 9223372036854775807) : (BitVec.ofInt 64 x).toInt = x := by
  rw [BitVec.toInt_ofInt]
  exact Int.bmod_eq_of_le (by omega) (by omega)

def subB (x m : Int) : Bool := bits .and .i64 x m == x
theorem subB_andNot (x m : Int) (h : -9223372036854775808 ≤ x ∧ x ≤ 9223372036854775807) : (bits .andNot .i64 x m == 0) = subB x m := by
  have e1 : bits .andNot .i64 x m = (BitVec.ofInt 64 x &&& ~~~ (BitVec.ofInt 64 m)).toInt := wrap_toInt _
  have e2 : bits .and .i64 x m = (BitVec.ofInt 64 x &&& BitVec.ofInt 64 m).toInt := wrap_toInt _
  have e3 : (bits .and .i64 x m == x) = (bits .and .i64 x m == (BitVec.ofInt 64 x).toInt) := by rw [ofInt_toInt x h]
  have e4 : (0 : Int) = (0#64).toInt := by decide
  unfold subB
  rw [e3, e1, e2, Bool.eq_iff_iff]
  simp only [beq_iff_eq]
  rw [e4, BitVec.toInt_inj, BitVec.toInt_inj]
  generalize BitVec.ofInt 64 x = a
  generalize BitVec.ofInt 64 m = b
  constructor
  · intro h
    refine BitVec.eq_of_getLsbD_eq fun i hi => ?_
    have := congrArg (fun v : BitVec 64 => v.getLsbD i) h
    simp only [BitVec.getLsbD_and, BitVec.getLsbD_not, hi, decide_true, Bool.true_and, BitVec.getLsbD_zero] at this ⊢
    revert this
    cases a.getLsbD i <;> cases b.getLsbD i <;> simp
  · intro h
    refine BitVec.eq_of_getLsbD_eq fun i hi => ?_
    have := congrArg (fun v : BitVec 64 => v.getLsbD i) h
    simp only [BitVec.getLsbD_and, BitVec.getLsbD_not, hi, decide_true, Bool.true_and, BitVec.getLsbD_zero] at this ⊢
    revert this
    cases a.getLsbD i <;> cases b.getLsbD i <;> simp

def boxTo (xs : List Int) (m : Int) : Nat → Int
  | 0 => 0
  | k + 1 => if subB (nth xs k) m then bits .or .i64 (boxTo xs m k) (one k) else boxTo xs m k

theorem nth_bd {xs : List Int} {n : Int} {len k : Nat} (hn : 0 ≤ n) (hn2 : n ≤ 30) (h : mksTo n xs len = true) (hk : k < len) : 0 ≤ nth xs k ∧ nth xs k ≤ 1073741823 := by
  induction len with
  | zero => omega
  | succ l ih =>
    rw [mksTo, Bool.and_eq_true] at h
    by_cases e : k = l
    · subst e
      have h2 := h.2
      rw [mskB, inB, full_eq n hn hn2] at h2
      have := pow_bd n hn hn2
      simp at h2
      omega
    · exact ih h.1 (by omega)

def boxV (xs : List Int) (len : Nat) (m : Int) : Int := if bothI xs len m = 0 then boxTo xs m len else 0
theorem BoxOut_ok {xs : List Int} {len : Nat} {m : Int} (h : bothI xs len m = 0) : Ending.returned (.tuple #[.int .i64 (boxTo xs m len), .int .i64 0]) = .returned (.tuple #[.int .i64 (boxV xs len m), .int .i64 (bothI xs len m)]) := by rw [boxV, if_pos h, h]
theorem BoxOut_bad {xs : List Int} {len : Nat} {m c : Int} (h : ¬ bothI xs len m = 0) (hc : c = bothI xs len m) : Ending.returned (.tuple #[.int .i64 0, .int .i64 c]) = .returned (.tuple #[.int .i64 (boxV xs len m), .int .i64 (bothI xs len m)]) := by rw [boxV, if_neg h, hc]

def mo (n : Int) (xs : List Int) : Nat → Int
  | 0 => 0
  | k + 1 => bits .or .i64 (mo n xs k) (one (nth xs k))
def moB (n : Int) (xs : List Int) : Nat → Bool
  | 0 => true
  | k + 1 => moB n xs k && inB (nth xs k) 0 (n - 1)
theorem moB_false {n : Int} {xs : List Int} {k l : Nat} (hk : k ≤ l) (h : moB n xs k = false) : moB n xs l = false := by
  induction l with
  | zero => simp at hk; subst hk; exact h
  | succ l ih =>
    by_cases e : k = l + 1
    · subst e; exact h
    · rw [moB, ih (by omega)]; rfl
def moV (n : Int) (xs : List Int) (len : Nat) : Int := if inB n 0 30 && moB n xs len then mo n xs len else 0
def moC (n : Int) (xs : List Int) (len : Nat) : Int := if inB n 0 30 then (if moB n xs len then 0 else 1) else 2
def moR (n : Int) (xs : List Int) (len : Nat) : Value := .tuple #[.int .i64 (moV n xs len), .int .i64 (moC n xs len)]
theorem mo_range {n : Int} {xs : List Int} {len : Nat} (h : inB n 0 30 = false) : Ending.returned (.tuple #[.int .i64 0, .int .i64 2]) = .returned (moR n xs len) := by simp [moR, moV, moC, h]
theorem mo_bad {n : Int} {xs : List Int} {len : Nat} (h : inB n 0 30 = true) (h2 : moB n xs len = false) : Ending.returned (.tuple #[.int .i64 0, .int .i64 1]) = .returned (moR n xs len) := by simp [moR, moV, moC, h, h2]
theorem mo_ok {n : Int} {xs : List Int} {len : Nat} (h : inB n 0 30 = true) (h2 : moB n xs len = true) : Ending.returned (.tuple #[.int .i64 (mo n xs len), .int .i64 0]) = .returned (moR n xs len) := by simp [moR, moV, moC, h, h2]

end Go.Proofs.Ytpccocmiadpgiaa

/- What the laws over results that are lists of int64 need: owned slices told by values, and the contracts of compare, mark and held over them. Conditions: those in the theorems. -/
namespace Go.Proofs.Ytpccocmiadpgiaa
open Go.RowKit

/-- The slice value v is the call's own, its block lies in lo .. hi - 1, and it holds xs. -/
def OwnIn (w : World) (lo hi : Nat) (v : Value) (xs : List Int) : Prop := Own w lo v xs ∧ hi ≤ w.heap.size ∧ ∀ k, v.ownBlock = some k → lo ≤ k ∧ k < hi

theorem Own.inn {w : World} {lo : Nat} {v : Value} {xs : List Int} (h : Own w lo v xs) : OwnIn w lo w.heap.size v xs := ⟨h, Nat.le_refl _, World.ownsRow.lt h⟩
theorem OwnIn.below {w w' : World} {lo hi C : Nat} {v : Value} {xs : List Int} (h : OwnIn w lo hi v xs) (hb : Below C w w') (hC : hi ≤ C) : OwnIn w' lo hi v xs := by
  refine ⟨⟨h.1.1, ?_⟩, Nat.le_trans h.2.1 hb.size, h.2.2⟩
  rcases h.1.2 with h2 | ⟨g, cap, cur, hv, hg, hh, r⟩
  · exact .inl h2
  · have hlt := (h.2.2 g (by rw [hv]; rfl)).2
    exact .inr ⟨g, cap, cur, hv, hg, by rw [hb.block g (by omega)]; exact hh, r⟩
theorem OwnIn.drewN {w : World} {lo hi : Nat} {v : Value} {xs : List Int} (h : OwnIn w lo hi v xs) (q : Nat) : OwnIn (w.drewN q) lo hi v xs := h.below (below_drewN (Below.refl hi w) q) (Nat.le_refl _)
theorem OwnIn.other {w w' : World} {lo hi lo' hi' : Nat} {v u : Value} {xs ys : List Int} (h : OwnIn w lo hi v xs) (hu : OwnIn w lo' hi' u ys) (hg : w.grownBy w' u.ownBlock) (hd : hi ≤ lo' ∨ hi' ≤ lo) : OwnIn w' lo hi v xs := by
  refine ⟨World.ownsRow.kept h.1 hg ?_, Nat.le_trans h.2.1 hg.size, h.2.2⟩
  cases hv : v.ownBlock with
  | none => exact .inl rfl
  | some k =>
    right
    intro e
    have h1 := h.2.2 k hv
    have h2 := hu.2.2 k e.symm
    omega

end Go.Proofs.Ytpccocmiadpgiaa
