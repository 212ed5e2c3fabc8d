/- Contracts of the small functions of package laws over lists of int64: copy, compare, mark, held. Conditions: those in the theorems. -/
import Derived.Test.YtngllobakfnhiaaDoorReads
import Derived.Deep.OwnRows
import Derived.OwnWalk
namespace Go.Proofs.YtngllobakfnhiaaDoor
open Go.RowKit

theorem info64 : (Tryd.prog.info? 2).map (fun i => (i.zero, i.size, i.bytes)) = some (some (.int .i64 0), 1, 8) := by kernel_rfl

/-- The slice value v is the call's own, from block B on, and holds xs. -/
def Own (w : World) (B : Nat) (v : Value) (xs : List Int) : Prop := w.ownsRow B 2 1 v xs.length (xs.map (Value.int .i64))

theorem nth_map {xs : List Int} {j : Nat} (h : j < xs.length) : (xs.map (Value.int .i64))[j]? = some (.int .i64 (nth xs j)) := by
  simp [nth, List.getD, h]

theorem Own.at {w : World} {B : Nat} {v : Value} {xs : List Int} (h : Own w B v xs) :
    ∃ a cap, v = .slice a xs.length cap ∧ At w a xs.length xs ∧ xs.length ≤ cap ∧ (a = none → cap = 0) ∧ ∀ p, a = some p → B ≤ p.block ∧ p.block < w.heap.size := by
  have h' := h
  rcases h.2 with ⟨hv, hn⟩ | ⟨g, cap, cur, hv, hg, hh, hc, hm, hs, ht⟩
  · refine ⟨none, 0, by rw [hv, hn], ⟨rfl, .inl hn⟩, by omega, (fun _ => rfl), (fun p hp => by cases hp)⟩
  · have hlt : g < w.heap.size := (Array.getElem?_eq_some_iff.1 hh).1
    subst hv
    refine ⟨some ⟨g, 0, none⟩, cap, rfl, ⟨rfl, .inr ⟨g, 0, rfl, hlt, fun j hj => ?_⟩⟩, hc, (fun h => by cases h), (fun p hp => by cases hp; exact ⟨hg, hlt⟩)⟩
    have e := h'.cellAt j (by omega)
    rw [Nat.zero_add, e, nth_map hj]

theorem Own.mono {w : World} {B B' : Nat} {v : Value} {xs : List Int} (h : Own w B v xs) (hB : B' ≤ B) : Own w B' v xs := by
  refine ⟨h.1, ?_⟩
  rcases h.2 with h2 | ⟨g, cap, cur, hv, hg, r⟩
  · exact .inl h2
  · exact .inr ⟨g, cap, cur, hv, Nat.le_trans hB hg, r⟩

/-- What is owned stays so where the blocks stay. -/
theorem Own.keep {w w' : World} {B C : Nat} {v : Value} {xs : List Int} (h : Own w B v xs) (hb : Below C w w') (hC : w.heap.size ≤ C) : Own w' B v xs := by
  refine ⟨h.1, ?_⟩
  rcases h.2 with h2 | ⟨g, cap, cur, hv, hg, hh, r⟩
  · exact .inl h2
  · have hlt : g < w.heap.size := (Array.getElem?_eq_some_iff.1 hh).1
    exact .inr ⟨g, cap, cur, hv, hg, by rw [hb.block g (by omega)]; exact hh, r⟩

theorem At.keep {w w' : World} {C : Nat} {a : Option Addr} {len : Nat} {xs : List Int} (h : At w a len xs) (hb : Below C w w') (hC : w.heap.size ≤ C) : At w' a len xs := by
  refine ⟨h.1, ?_⟩
  rcases h.2 with h2 | ⟨b, off, ha, hlt, hc⟩
  · exact .inl h2
  · exact .inr ⟨b, off, ha, Nat.lt_of_lt_of_le hlt hb.size, fun j hj => (hb.cell (p := ⟨b, off + j, none⟩) (by show b < C; omega)).trans (hc j hj)⟩

theorem below_drewN {B : Nat} {a w : World} (h : Below B a w) (n : Nat) : Below B a (w.drewN n) := ⟨h.os, h.tape, h.output, h.size, h.block⟩

/-- append of one int64 to a slice of the call's own, as a step of a region that draws, and as a step of the walk. -/
theorem wp_app1 {o : Oper} {a : Act} {w : World} {K : Act → World → Prop} {Q : Exit → Act → World → Prop} (s x : Operand)
    (ho : o.op = .call { callee := .builtin .append, args := #[s, x], argTypes := #[22, 22] })
    (B : Nat) (v : Value) (n : Nat) (xs : List Value) (hs : a.eval s = v) (hown : w.ownsRow B 2 1 v n xs)
    (ad : Addr) (c : Nat) (z : Int) (hx : a.eval x = .slice (some ad) 1 c) (hz : w.cell? ad = some (.int .i64 z)) (hn : n ≤ 1099511627776) (hB : B ≤ w.heap.size)
    (h : ∀ v' w', w'.ownsRow B 2 1 v' (n + 1) (xs ++ [.int .i64 z]) → w.grownBy w' v.ownBlock → K (a.put o.dst v') w') : o.wp Tryd.prog a w K Q := by
  obtain ⟨i0, hi, hz0, hz1, hz2⟩ := info_parts info64
  refine wp_append_own w s x 22 ho B 2 i0 (.int .i64 0) 1 8 Tryd.underlying22 hi hz0 hz1 hz2 rfl (by decide) v n xs hs hown ad 1 c [.int .i64 z] hx rfl ?_ ?_ (by unfold maxLen; omega) (by omega) hB (fun v' w' h1 h2 _ => h v' w' h1 h2)
  · intro j u hu
    match j, hu with
    | 0, hu => simp at hu; subst hu; simpa [Addr.add] using hz
  · intro u hu
    simp at hu; subst hu; rfl
theorem step_app1 {ops : Array Oper} {o : Oper} {a : Act} {w : World} {K : Act → World → Prop} {Q : Exit → Act → World → Prop} {E : Prop} (hgd : o.guard = none) (s x : Operand)
    (ho : o.op = .call { callee := .builtin .append, args := #[s, x], argTypes := #[22, 22] })
    (B : Nat) (v : Value) (n : Nat) (xs : List Value) (hs : a.eval s = v) (hown : w.ownsRow B 2 1 v n xs)
    (ad : Addr) (c : Nat) (z : Int) (hx : a.eval x = .slice (some ad) 1 c) (hz : w.cell? ad = some (.int .i64 z)) (hn : n ≤ 1099511627776) (hB : B ≤ w.heap.size)
    (h : ∀ v' w', w'.ownsRow B 2 1 v' (n + 1) (xs ++ [.int .i64 z]) → w.grownBy w' v.ownBlock → K (a.put o.dst v') w') :
    if Region.wanted o (yielded ops a.tmps) = true then Oper.wp Tryd.prog o a w K Q else E := by
  have hw : Region.wanted o (yielded ops a.tmps) = true := by simp [Region.wanted, hgd]
  rw [if_pos hw]
  exact wp_app1 s x ho B v n xs hs hown ad c z hx hz hn hB h
theorem list_app1 {ops : Array Oper} {rest : List Oper} {o : Oper} {a : Act} {w : World} {Q : Exit → Act → World → Prop} (hgd : o.guard = none) (s x : Operand)
    (ho : o.op = .call { callee := .builtin .append, args := #[s, x], argTypes := #[22, 22] })
    (B : Nat) (v : Value) (n : Nat) (xs : List Value) (hs : a.eval s = v) (hown : w.ownsRow B 2 1 v n xs)
    (ad : Addr) (c : Nat) (z : Int) (hx : a.eval x = .slice (some ad) 1 c) (hz : w.cell? ad = some (.int .i64 z)) (hn : n ≤ 1099511627776) (hB : B ≤ w.heap.size)
    (h : ∀ v' w', w'.ownsRow B 2 1 v' (n + 1) (xs ++ [.int .i64 z]) → w.grownBy w' v.ownBlock → wpList Tryd.prog ops Q rest (a.put o.dst v') w') : wpList Tryd.prog ops Q (o :: rest) a w :=
  wpList_plain hgd fun _ hK => wp_app1 s x ho B v n xs hs hown ad c z hx hz hn hB fun v' w' h1 h2 => hK _ _ (h v' w' h1 h2)

/-- Behind such an append: below B nothing has turned. -/
theorem below_app {B : Nat} {w wr X w1 : World} {v : Value} {n : Nat} {xs : List Value} (hbel : Below B w wr) (hX : Below B wr X) (hB : B ≤ wr.heap.size) (ho : wr.ownsRow B 2 1 v n xs) (hg : X.grownBy w1 v.ownBlock) : Below B w w1 :=
  (hbel.trans hX).grown hg (Nat.le_trans hB hX.size) (fun k hk => (ho.lt k hk).1)

def cpl (xs : List Int) (len k : Nat) : List Int := xs.take k ++ List.replicate (len - k) 0
theorem cpl_len (xs : List Int) (len k : Nat) (h : len = xs.length) (hk : k ≤ len) : (cpl xs len k).length = len := by simp [cpl]; omega
theorem cpl_set (xs : List Int) (len k : Nat) (h : len = xs.length) (hk : k < len) : ((cpl xs len k).map (Value.int .i64)).set k (.int .i64 (nth xs k)) = (cpl xs len (k + 1)).map (Value.int .i64) := by
  rw [← List.map_set]
  congr 1
  unfold cpl nth
  apply List.ext_getElem?
  intro j
  by_cases e : j = k
  · subst e
    have h1 : j < xs.length := by omega
    rw [List.getElem?_set_self (by simp; omega), List.getElem?_append_left (by simp; omega), List.getElem?_take, if_pos (by omega)]
    simp [List.getD, h1]
  · rw [List.getElem?_set_ne (by omega)]
    simp only [List.getElem?_append, List.getElem?_take, List.length_take, List.getElem?_replicate]
    by_cases h1 : j < k
    · simp [h1, show j < min k xs.length by omega, show j < k + 1 by omega, show j < min (k+1) xs.length by omega]
    · simp [show ¬ j < min k xs.length by omega, show ¬ j < min (k+1) xs.length by omega]
      simp [show min k xs.length = k by omega, show min (k + 1) xs.length = k + 1 by omega, show (j - k < len - k) ↔ (j - (k + 1) < len - (k + 1)) by omega]
theorem cpl_zero (xs : List Int) (len : Nat) : (madeCells #[.int .i64 0] len).toList = (cpl xs len 0).map (Value.int .i64) := by
  rw [toList_madeCells_one]; simp [cpl]
theorem cpl_all (xs : List Int) (len : Nat) (h : len = xs.length) : cpl xs len len = xs := by subst h; simp [cpl]

set_option maxHeartbeats 400000 in
theorem toInt64S_any (xs : List Int) (a : Option Addr) (len cap : Nat) (w : World) (hl : len ≤ 1048576) (h : At w a len xs) :
    Calls Tryd.prog 12 #[.slice a len cap] w fun e w' => ∃ v, e = .returned v ∧ Own w' w.heap.size v xs ∧ Below w.heap.size w w' := by
  obtain ⟨i0, hi, hz0, hz1, hz2⟩ := info_parts info64
  obtain ⟨hlen, rfl | ⟨b, off, rfl, hb, hc⟩⟩ := h
  · obtain rfl : xs = [] := List.eq_nil_of_length_eq_zero hlen.symm
    clear hlen
    go_enter Tryd.func12, Tryd.ntmps12
    go_wp2_with (at_make; refine wpList_make_full _ rfl _ _ 22 rfl w.heap.size 2 i0 (.int .i64 0) 1 Tryd.underlying22 hi hz0 hz1 _ _ _ _ 0 rfl rfl (by omega) (by omega) ?b2 ?b3 (Nat.le_refl _) ?_)
    case b2 => rw [hz2]; omega
    case b3 => unfold maxLen; omega
    intro w0 hown0 hgrow0
    have HO := Lib.hid hown0
    clear hown0
    clear hi hz0 hz1 hz2
    go_wp2
    refine wp_loop_rounds 1 ?_
    rw [rounds_succ]
    go_wp2
    go_ret
    exact ⟨_, rfl, (by have h := HO.out; rw [toList_madeCells_one] at h; exact h), (Below.refl _ _).grown hgrow0 (Nat.le_refl _) (fun k h => by cases h)⟩
  · have HL := Lib.hid hlen
    clear hlen
    go_enter Tryd.func12, Tryd.ntmps12
    go_wp2_with (at_make; refine wpList_make_full _ rfl _ _ 22 rfl w.heap.size 2 i0 (.int .i64 0) 1 Tryd.underlying22 hi hz0 hz1 _ _ _ _ len rfl rfl rfl rfl ?b2 ?b3 (Nat.le_refl _) ?_)
    case b2 => rw [hz2]; omega
    case b3 => unfold maxLen; omega
    intro w0 hown0 hgrow0
    clear hi hz0 hz1 hz2
    go_wp2
    go_loopw [4] (fun i wr => ∃ k : Nat, k ≤ len ∧ i = .int .i64 k ∧ wr.ownsRow w.heap.size 2 1 (.slice (some ⟨w.heap.size, 0, none⟩) len len) len ((cpl xs len k).map (Value.int .i64)) ∧ Below w.heap.size w wr) (fun i _ => len - (intOf i).toNat)
    case atStart => exact ⟨0, Nat.zero_le _, rfl, by rw [← cpl_zero]; exact hown0, (Below.refl _ _).grown hgrow0 (Nat.le_refl _) (fun k h => by cases h)⟩
    case round =>
      obtain ⟨k, hk, rfl, hown, hbel⟩ := hrel
      clear hown0 hgrow0
      by_cases hlt : k < len
      · have hcell : wr.cell? ⟨b, off + k, none⟩ = some (.int .i64 (nth xs k)) := (hbel.cell (p := ⟨b, off + k, none⟩) hb).trans (hc k hlt)
        obtain ⟨u, hu⟩ : ∃ u, ((cpl xs len k).map (Value.int .i64))[k]? = some u := ⟨_, List.getElem?_eq_getElem (by simp [cpl_len xs len k HL.out hk, hlt])⟩
        have hcg : wr.cell? ⟨w.heap.size, k, none⟩ = some u := (hown.cellAt k (by omega)).trans hu
        have hfg : wr.frozen? ⟨w.heap.size, k, none⟩ = false := hown.frozenAt k
        have hs := (hown.stored k (.int .i64 (nth xs k))).1
        rw [cpl_set xs len k HL.out hlt] at hs
        have hbs := hbel.setCell (p := ⟨w.heap.size, k, none⟩) (Nat.le_refl _) (.int .i64 (nth xs k))
        clear hown hu hc
        go_wp2
        go_roundw
        case rel => exact ⟨k + 1, hlt, by go_num, hs, hbs⟩
        case measure => simp [intOf]; omega
      · obtain rfl : k = len := by omega
        clear hc
        have HO := Lib.hid hown
        clear hown
        go_wp2
        go_ret
        refine ⟨_, rfl, ?_, hbel⟩
        have ho := HO.out
        rw [cpl_all xs k HL.out] at ho
        unfold Own
        rw [← HL.out]
        exact ho

set_option maxHeartbeats 400000 in
theorem eqInt64S_any (xs : List Int) (a a' : Option Addr) (len cap cap' : Nat) (w : World) (hl : len ≤ 1048576) (h : At w a len xs) (h' : At w a' len xs) :
    Calls Tryd.prog 15 #[.slice a len cap, .slice a' len cap'] w (SomeDrew w fun e => e = .returned (.bool true)) := by
  obtain ⟨hlen, ha⟩ := h
  obtain ⟨hlen', ha'⟩ := h'
  by_cases hz : len = 0
  · subst hz
    clear hlen hlen' ha ha'
    go_enter Tryd.func15, Tryd.ntmps15
    go_wp2
    refine wp_loop_rounds 1 ?_
    rw [rounds_succ]
    go_wp2
    go_ret
    exact ⟨rfl, 0, rfl⟩
  · obtain ⟨b, off, rfl, hb, hc⟩ := ha.resolve_left hz
    obtain ⟨b', off', rfl, hb', hc'⟩ := ha'.resolve_left hz
    clear hlen hlen' ha ha' hb hb' hz
    go_enter Tryd.func15, Tryd.ntmps15
    go_wp2
    go_loopw [5] (fun i wr => ∃ k q : Nat, k ≤ len ∧ i = .int .i64 k ∧ wr = w.drewN q) (fun i _ => len - (intOf i).toNat)
    case atStart => exact ⟨0, 0, Nat.zero_le _, rfl, rfl⟩
    case round =>
      obtain ⟨k, q, hk, rfl, rfl⟩ := hrel
      by_cases hlt : k < len
      · have hcell := hc k hlt
        have hcell' := hc' k hlt
        clear hc hc'
        go_wp2
        go_quiet (fail)
        go_wp2
        go_roundw
        case rel => exact ⟨k + 1, _, hlt, by go_num, rfl⟩
        case measure => simp [intOf]; omega
      · obtain rfl : k = len := by omega
        clear hc hc'
        go_wp2
        go_ret
        exact ⟨rfl, _, rfl⟩

def mks (k : Int) : Nat → List Int
  | 0 => []
  | n + 1 => mks k n ++ [k + n]
theorem mks_len (k : Int) (n : Nat) : (mks k n).length = n := by induction n with | zero => rfl | succ n ih => simp [mks, ih]
theorem mks_nth (k : Int) (n j : Nat) (h : j < n) : nth (mks k n) j = k + j := by
  induction n with
  | zero => omega
  | succ n ih =>
    have hl := mks_len k n
    have e2 : mks k (n + 1) = mks k n ++ [k + n] := rfl
    by_cases e : j = n
    · subst e; rw [e2]; unfold nth; simp [List.getD, hl]
    · have h2 := ih (by omega)
      rw [e2]
      unfold nth at h2 ⊢
      rw [List.getD_eq_getElem?_getD] at h2 ⊢
      rw [List.getElem?_append_left (by omega)]
      exact h2

/-- xs with its first j elements marked. -/
def mkl (xs : List Int) (k : Int) (j : Nat) : List Int := mks k j ++ xs.drop j
theorem mkl_len (xs : List Int) (k : Int) (j : Nat) (h : j ≤ xs.length) : (mkl xs k j).length = xs.length := by simp [mkl, mks_len]; omega
theorem mkl_set (xs : List Int) (k : Int) (j : Nat) (h : j < xs.length) : ((mkl xs k j).map (Value.int .i64)).set j (.int .i64 (k + j)) = (mkl xs k (j + 1)).map (Value.int .i64) := by
  rw [← List.map_set]
  congr 1
  have e : xs.drop j = xs[j] :: xs.drop (j + 1) := List.drop_eq_getElem_cons h
  rw [mkl, mkl, mks, e, List.set_append_right _ _ (by simp [mks_len]), mks_len, Nat.sub_self, List.set_cons_zero, List.append_assoc]
  rfl
theorem mkl_all (xs : List Int) (k : Int) : mkl xs k xs.length = mks k xs.length := by simp [mkl]

end Go.Proofs.YtngllobakfnhiaaDoor
