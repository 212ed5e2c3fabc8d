/- Contracts of the small functions of package laws over lists of int64: copy, compare, mark, held. Conditions: those in the theorems. -/
import Derived.Test.YtpccocmiadpgiaaReads
import Derived.Deep.OwnRows
import Derived.OwnWalk
namespace Go.Proofs.Ytpccocmiadpgiaa
open Go.RowKit

theorem info64 : (Try.prog.info? 2).map (fun i => (i.zero, i.size, i.bytes)) = some (some (.int .i64 0), 1, 8) := by kernel_rfl

/-- The slice value v is the call's own, from block B on, and holds xs. -/
def Own (w : World) (B : Nat) (v : Value) (xs : List Int) : Prop := w.ownsRow B 2 1 v xs.length (xs.map (Value.int .i64))

theorem nth_map {xs : List Int} {j : Nat} (h : j < xs.length) : (xs.map (Value.int .i64))[j]? = some (.int .i64 (nth xs j)) := by
  simp [nth, List.getD, h]

theorem Own.at {w : World} {B : Nat} {v : Value} {xs : List Int} (h : Own w B v xs) :
    ∃ a cap, v = .slice a xs.length cap ∧ At w a xs.length xs ∧ xs.length ≤ cap ∧ (a = none → cap = 0) ∧ ∀ p, a = some p → B ≤ p.block ∧ p.block < w.heap.size := by
  have h' := h
  rcases h.2 with ⟨hv, hn⟩ | ⟨g, cap, cur, hv, hg, hh, hc, hm, hs, ht⟩
  · refine ⟨none, 0, by rw [hv, hn], ⟨rfl, .inl hn⟩, by omega, (fun _ => rfl), (fun p hp => by cases hp)⟩
  · have hlt : g < w.heap.size := (Array.getElem?_eq_some_iff.1 hh).1
    subst hv
    refine ⟨some ⟨g, 0, none⟩, cap, rfl, ⟨rfl, .inr ⟨g, 0, rfl, hlt, fun j hj => ?_⟩⟩, hc, (fun h => by cases h), (fun p hp => by cases hp; exact ⟨hg, hlt⟩)⟩
    have e := h'.cellAt j (by omega)
    rw [Nat.zero_add, e, nth_map hj]

theorem Own.mono {w : World} {B B' : Nat} {v : Value} {xs : List Int} (h : Own w B v xs) (hB : B' ≤ B) : Own w B' v xs := by
  refine ⟨h.1, ?_⟩
  rcases h.2 with h2 | ⟨g, cap, cur, hv, hg, r⟩
  · exact .inl h2
  · exact .inr ⟨g, cap, cur, hv, Nat.le_trans hB hg, r⟩

/-- What is owned stays so where the blocks stay. -/
theorem Own.keep {w w' : World} {B C : Nat} {v : Value} {xs : List Int} (h : Own w B v xs) (hb : Below C w w') (hC : w.heap.size ≤ C) : Own w' B v xs := by
  refine ⟨h.1, ?_⟩
  rcases h.2 with h2 | ⟨g, cap, cur, hv, hg, hh, r⟩
  · exact .inl h2
  · have hlt : g < w.heap.size := (Array.getElem?_eq_some_iff.1 hh).1
    exact .inr ⟨g, cap, cur, hv, hg, by rw [hb.block g (by omega)]; exact hh, r⟩

theorem At.keep {w w' : World} {C : Nat} {a : Option Addr} {len : Nat} {xs : List Int} (h : At w a len xs) (hb : Below C w w') (hC : w.heap.size ≤ C) : At w' a len xs := by
  refine ⟨h.1, ?_⟩
  rcases h.2 with h2 | ⟨b, off, ha, hlt, hc⟩
  · exact .inl h2
  · exact .inr ⟨b, off, ha, Nat.lt_of_lt_of_le hlt hb.size, fun j hj => (hb.cell (p := ⟨b, off + j, none⟩) (by show b < C; omega)).trans (hc j hj)⟩

theorem below_drewN {B : Nat} {a w : World} (h : Below B a w) (n : Nat) : Below B a (w.drewN n) := ⟨h.os, h.tape, h.output, h.size, h.block⟩

/-- append of one int64 to a slice of the call's own, as a step of a region that draws, and as a step of the walk. -/
theorem wp_app1 {o : Oper} {a : Act} {w : World} {K : Act → World → Prop} {Q : Exit → Act → World → Prop} (s x : Operand)
    (ho : o.op = .call { callee := .builtin .append, args := #[s, x], argTypes := #[76, 76] })
    (B : Nat) (v : Value) (n : Nat) (xs : List Value) (hs : a.eval s = v) (hown : w.ownsRow B 2 1 v n xs)
    (ad : Addr) (c : Nat) (z : Int) (hx : a.eval x = .slice (some ad) 1 c) (hz : w.cell? ad = some (.int .i64 z)) (hn : n ≤ 1099511627776) (hB : B ≤ w.heap.size)
    (h : ∀ v' w', w'.ownsRow B 2 1 v' (n + 1) (xs ++ [.int .i64 z]) → w.grownBy w' v.ownBlock → K (a.put o.dst v') w') : o.wp Try.prog a w K Q := by
  obtain ⟨i0, hi, hz0, hz1, hz2⟩ := info_parts info64
  refine wp_append_own w s x 76 ho B 2 i0 (.int .i64 0) 1 8 Try.underlying76 hi hz0 hz1 hz2 rfl (by decide) v n xs hs hown ad 1 c [.int .i64 z] hx rfl ?_ ?_ (by unfold maxLen; omega) (by omega) hB (fun v' w' h1 h2 _ => h v' w' h1 h2)
  · intro j u hu
    match j, hu with
    | 0, hu => simp at hu; subst hu; simpa [Addr.add] using hz
  · intro u hu
    simp at hu; subst hu; rfl
theorem step_app1 {ops : Array Oper} {o : Oper} {a : Act} {w : World} {K : Act → World → Prop} {Q : Exit → Act → World → Prop} {E : Prop} (hgd : o.guard = none) (s x : Operand)
    (ho : o.op = .call { callee := .builtin .append, args := #[s, x], argTypes := #[76, 76] })
    (B : Nat) (v : Value) (n : Nat) (xs : List Value) (hs : a.eval s = v) (hown : w.ownsRow B 2 1 v n xs)
    (ad : Addr) (c : Nat) (z : Int) (hx : a.eval x = .slice (some ad) 1 c) (hz : w.cell? ad = some (.int .i64 z)) (hn : n ≤ 1099511627776) (hB : B ≤ w.heap.size)
    (h : ∀ v' w', w'.ownsRow B 2 1 v' (n + 1) (xs ++ [.int .i64 z]) → w.grownBy w' v.ownBlock → K (a.put o.dst v') w') :
    if Region.wanted o (yielded ops a.tmps) = true then Oper.wp Try.prog o a w K Q else E := by
  have hw : Region.wanted o (yielded ops a.tmps) = true := by simp [Region.wanted, hgd]
  rw [if_pos hw]
  exact wp_app1 s x ho B v n xs hs hown ad c z hx hz hn hB h
theorem list_app1 {ops : Array Oper} {rest : List Oper} {o : Oper} {a : Act} {w : World} {Q : Exit → Act → World → Prop} (hgd : o.guard = none) (s x : Operand)
    (ho : o.op = .call { callee := .builtin .append, args := #[s, x], argTypes := #[76, 76] })
    (B : Nat) (v : Value) (n : Nat) (xs : List Value) (hs : a.eval s = v) (hown : w.ownsRow B 2 1 v n xs)
    (ad : Addr) (c : Nat) (z : Int) (hx : a.eval x = .slice (some ad) 1 c) (hz : w.cell? ad = some (.int .i64 z)) (hn : n ≤ 1099511627776) (hB : B ≤ w.heap.size)
    (h : ∀ v' w', w'.ownsRow B 2 1 v' (n + 1) (xs ++ [.int .i64 z]) → w.grownBy w' v.ownBlock → wpList Try.prog ops Q rest (a.put o.dst v') w') : wpList Try.prog ops Q (o :: rest) a w :=
  wpList_plain hgd fun _ hK => wp_app1 s x ho B v n xs hs hown ad c z hx hz hn hB fun v' w' h1 h2 => hK _ _ (h v' w' h1 h2)

/-- Behind such an append: below B nothing has turned. -/
theorem below_app {B : Nat} {w wr X w1 : World} {v : Value} {n : Nat} {xs : List Value} (hbel : Below B w wr) (hX : Below B wr X) (hB : B ≤ wr.heap.size) (ho : wr.ownsRow B 2 1 v n xs) (hg : X.grownBy w1 v.ownBlock) : Below B w w1 :=
  (hbel.trans hX).grown hg (Nat.le_trans hB hX.size) (fun k hk => (ho.lt k hk).1)

def cpl (xs : List Int) (len k : Nat) : List Int := xs.take k ++ List.replicate (len - k) 0
theorem cpl_len (xs : List Int) (len k : Nat) (h : len = xs.length) (hk : k ≤ len) : (cpl xs len k).length = len := by simp [cpl]; omega
theorem cpl_set (xs : List Int) (len k : Nat) (h : len = xs.length) (hk : k < len) : ((cpl xs len k).map (Value.int .i64)).set k (.int .i64 (nth xs k)) = (cpl xs len (k + 1)).map (Value.int .i64) := by
  rw [← List.map_set]
  congr 1
  unfold cpl nth
  apply List.ext_getElem?
  intro j
  by_cases e : j = k
  · subst e
    have h1 : j < xs.length := by omega
    rw [List.getElem?_set_self (by simp; omega), List.getElem?_append_left (by simp; omega), List.getElem?_take, if_pos (by omega)]
    simp [List.getD, h1]
  · rw [List.getElem?_set_ne (by omega)]
    simp only [List.getElem?_append, List.getElem?_take, List.length_take, List.getElem?_replicate]
    by_cases h1 : j < k
    · simp [h1, show j < min k xs.length by omega, show j < k + 1 by omega, show j < min (k+1) xs.length by omega]
    · simp [show ¬ j < min k xs.length by omega, show ¬ j < min (k+1) xs.length by omega]
      simp [show min k xs.length = k by omega, show min (k + 1) xs.length = k + 1 by omega, show (j - k < len - k) ↔ (j - (k + 1) < len - (k + 1)) by omega]
theorem cpl_zero (xs : List Int) (len : Nat) : (madeCells #[.int .i64 0] len).toList = (cpl xs len 0).map (Value.int .i64) := by
  rw [toList_madeCells_one]; simp [cpl]
theorem cpl_all (xs : List Int) (len : Nat) (h : len = xs.length) : cpl xs len len = xs := by subst h; simp [cpl]

def mks (k : Int) : Nat → List Int
  | 0 => []
  | n + 1 => mks k n ++ [k + n]
theorem mks_len (k : Int) (n : Nat) : (mks k n).length = n := by induction n with | zero => rfl | succ n ih => simp [mks, ih]
theorem mks_nth (k : Int) (n j : Nat) (h : j < n) : nth (mks k n) j = k + j := by
  induction n with
  | zero => omega
  | succ n ih =>
    have hl := mks_len k n
    have e2 : mks k (n + 1) = mks k n ++ [k + n] := rfl
    by_cases e : j = n
    · subst e; rw [e2]; unfold nth; simp [List.getD, hl]
    · have h2 := ih (by omega)
      rw [e2]
      unfold nth at h2 ⊢
      rw [List.getD_eq_getElem?_getD] at h2 ⊢
      rw [List.getElem?_append_left (by omega)]
      exact h2

/-- xs with its first j elements marked. -/
def mkl (xs : List Int) (k : Int) (j : Nat) : List Int := mks k j ++ xs.drop j
theorem mkl_len (xs : List Int) (k : Int) (j : Nat) (h : j ≤ xs.length) : (mkl xs k j).length = xs.length := by simp [mkl, mks_len]; omega
theorem mkl_set (xs : List Int) (k : Int) (j : Nat) (h : j < xs.length) : ((mkl xs k j).map (Value.int .i64)).set j (.int .i64 (k + j)) = (mkl xs k (j + 1)).map (Value.int .i64) := by
  rw [← List.map_set]
  congr 1
  have e : xs.drop j = xs[j] :: xs.drop (j + 1) := List.drop_eq_getElem_cons h
  rw [mkl, mkl, mks, e, List.set_append_right _ _ (by simp [mks_len]), mks_len, Nat.sub_self, List.set_cons_zero, List.append_assoc]
  rfl
theorem mkl_all (xs : List Int) (k : Int) : mkl xs k xs.length = mks k xs.length := by simp [mkl]

end Go.Proofs.Ytpccocmiadpgiaa
