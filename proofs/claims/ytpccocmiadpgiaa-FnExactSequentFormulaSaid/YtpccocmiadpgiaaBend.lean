/- Contracts of the model's functions l02Own, l02Bend and l02Any: they return some list of nodes that is not long. Conditions: those in the theorems. -/
import Derived.Deep.RegionLaw
import Derived.Test.YtpccocmiadpgiaaJn11
namespace Go.Proofs.Ytpccocmiadpgiaa
open Go.RowKit

theorem grown_newB {w w1 w2 : World} {r u : Option Nat} (h : w.grownBy w1 r) (hg : w1.grownBy w2 u) (hu : ∀ k, u = some k → w.heap.size ≤ k) : w.grownBy w2 r :=
  ⟨hg.os.trans h.os, hg.tape.trans h.tape, hg.output.trans h.output, Nat.le_trans h.size hg.size, fun k hk hne => (hg.block k (Nat.lt_of_lt_of_le hk h.size) (fun e => by have := hu k e.symm; omega)).trans (h.block k hk hne)⟩
theorem OwnN.ge {w : World} {B : Nat} {v : Value} {xs : List Nd} (h : OwnN w B v xs) : ∀ k, v.ownBlock = some k → B ≤ k := fun k hk => (World.ownsRow.lt h k hk).1
theorem OwnN.ne {w : World} {B b : Nat} {v : Value} {xs : List Nd} (h : OwnN w B v xs) (hb : b < B) : v.ownBlock ≠ some b := by
  intro e
  have := h.ge b e
  omega
theorem set_kind (xs : List Nd) (k : Nat) (h : k < xs.length) (x : Int) : (cellsN xs).set (k * 2) (.int .i64 x) = cellsN (xs.set k (x, sy xs k)) := by
  rw [← cellsN_set xs k h x (sy xs k)]
  apply List.ext_getElem?
  intro j
  by_cases e : j = k * 2 + 1
  · subst e
    rw [List.getElem?_set_ne (by omega), List.getElem?_set_self (by rw [List.length_set, cellsN_len]; omega)]
    exact (cellsN_at xs k h).2
  · rw [List.getElem?_set_ne (fun h => e h.symm)]
theorem set_sym (xs : List Nd) (k : Nat) (h : k < xs.length) (x : Int) : (cellsN xs).set (k * 2 + 1) (.int .i64 x) = cellsN (xs.set k (kd xs k, x)) := by
  rw [← cellsN_set xs k h (kd xs k) x]
  congr 1
  apply List.ext_getElem?
  intro j
  by_cases e : j = k * 2
  · subst e
    rw [List.getElem?_set_self (by rw [cellsN_len]; omega)]
    exact (cellsN_at xs k h).1
  · rw [List.getElem?_set_ne (fun h => e h.symm)]
theorem OwnN.full {w : World} {B : Nat} {v : Value} {xs : List Nd} (h : OwnN w B v xs) (hp : 0 < xs.length) : ∃ g cap, v = .slice (some ⟨g, 0, none⟩) xs.length cap ∧ B ≤ g ∧ g < w.heap.size ∧ xs.length ≤ cap ∧ cap ≤ maxLen := by
  rcases h.2 with ⟨_, h2⟩ | ⟨g, cap, cur, hv, hg, hh, hc, hm, -⟩
  · omega
  · exact ⟨g, cap, hv, hg, (Array.getElem?_eq_some_iff.1 hh).1, hc, hm⟩
theorem cellsN_take (xs : List Nd) (k : Nat) : (cellsN xs).take (k * 2) = cellsN (xs.take k) := by
  induction xs generalizing k with
  | nil => simp [cellsN]
  | cons x xs ih =>
    cases k with
    | zero => simp [cellsN]
    | succ k =>
      rw [show (k + 1) * 2 = k * 2 + 1 + 1 by omega]
      show Value.int .i64 x.1 :: Value.int .i64 x.2 :: (cellsN xs).take (k * 2) = _
      rw [ih k]
      rfl
/-- The first k nodes of an own list. -/
theorem OwnN.cut {w : World} {B g cap : Nat} {xs : List Nd} (h : OwnN w B (.slice (some ⟨g, 0, none⟩) xs.length cap) xs) (k : Nat) (hk : k ≤ xs.length) : OwnN w B (.slice (some ⟨g, 0, none⟩) k cap) (xs.take k) := by
  have hl : (xs.take k).length = k := by simp; omega
  rcases h.2 with ⟨h2, -⟩ | ⟨g', cap', cur, hv, hg, hh, hc, hm, hs, ht⟩
  · cases h2
  · cases hv
    unfold OwnN
    rw [hl]
    refine ⟨by rw [cellsN_len, hl], .inr ⟨g, cap, cur, rfl, hg, hh, by omega, hm, hs, ?_⟩⟩
    rw [← cellsN_take, ← ht, List.take_take, Nat.min_eq_left (by omega)]

set_option maxHeartbeats 400000 in
theorem l02Own_any (xs : List Nd) (a : Option Addr) (len cap : Nat) (w : World) (hl : len ≤ 4194304) (hp : 0 < len) (h : AtN w a len xs) :
    Calls Try.prog 42 #[.slice a len cap] w fun e w' => ∃ v, e = .returned v ∧ OwnN w' w.heap.size v xs ∧ Below w.heap.size w w' := by
  have H := Lib.hid h
  clear h
  have b0 : Below w.heap.size w (w.alloc (.cells #[] 55)) := (Below.refl _ _).alloc (Nat.le_refl _) _
  have B0 := Lib.hid b0
  have L0 : Hid (OwnN (w.alloc (.cells #[] 55)) w.heap.size (.slice (some ⟨w.heap.size, 0, none⟩) 0 0) []) := World.ownsRow_lit w #[] 0 (Nat.le_refl _) (by decide) rfl
  clear b0
  go_enter Try.func42, Try.ntmps42
  go_wp2_with (at_builtin; refine list_appN rfl _ _ rfl w.heap.size _ [] rfl L0.out xs a len cap rfl (H.out.keep B0.out (Nat.le_refl _)) hp (by simp; omega) B0.out.size ?_)
  intro v1 w1 ho1 hg1
  have b1 : Below w.heap.size w w1 := below_appN (Below.refl _ _) B0.out (Nat.le_refl _) L0.out hg1
  have B1 := Lib.hid b1
  have O1 := Lib.hid ho1
  clear b1 ho1 hg1
  go_wp2
  go_ret
  exact ⟨_, rfl, O1.out, B1.out⟩

theorem step_appN {ops : Array Oper} {o : Oper} {a : Act} {w : World} {K : Act → World → Prop} {Q : Exit → Act → World → Prop} {E : Prop} (hgd : o.guard = none) (s x : Operand)
    (ho : o.op = .call { callee := .builtin .append, args := #[s, x], argTypes := #[32, 32] })
    (B : Nat) (v : Value) (xs : List Nd) (hs : a.eval s = v) (hown : OwnN w B v xs)
    (ys : List Nd) (aa : Option Addr) (m c : Nat) (hx : a.eval x = .slice aa m c) (hat : AtN w aa m ys) (hm : 0 < m) (hn : xs.length + m ≤ 8388608) (hB : B ≤ w.heap.size)
    (h : ∀ v' w', OwnN w' B v' (xs ++ ys) → w.grownBy w' v.ownBlock → K (a.put o.dst v') w') :
    if Region.wanted o (yielded ops a.tmps) = true then Oper.wp Try.prog o a w K Q else E := by
  have hw : Region.wanted o (yielded ops a.tmps) = true := by simp [Region.wanted, hgd]
  rw [if_pos hw]
  obtain ⟨i0, hi, hz0, hz1, hz2⟩ := info_parts infoNd
  obtain ⟨b, off, rfl, -, -⟩ := hat.2.resolve_left (by omega)
  refine wp_append_own w s x 32 ho B 55 i0 (.agg #[.int .i64 0, .int .i64 0]) 2 16 Try.underlying32 hi hz0 hz1 hz2 rfl (by decide) v xs.length (cellsN xs) hs hown ⟨b, off, none⟩ m c (cellsN ys) hx (by rw [cellsN_len, hat.1]) hat.news (cells_one ys) (by unfold maxLen; omega) (by omega) hB (fun v' w' h1 h2 _ => h v' w' ?_ h2)
  unfold OwnN
  rw [List.length_append, cellsN_append, ← hat.1]
  exact h1
theorem step_appN0 {ops : Array Oper} {o : Oper} {a : Act} {w : World} {K : Act → World → Prop} {Q : Exit → Act → World → Prop} {E : Prop} (hgd : o.guard = none) (s x : Operand)
    (ho : o.op = .call { callee := .builtin .append, args := #[s, x], argTypes := #[32, 32] })
    (B : Nat) (v : Value) (xs : List Nd) (hs : a.eval s = v) (hown : OwnN w B v xs)
    (ad : Addr) (c : Nat) (hx : a.eval x = .slice (some ad) 0 c) (hn : xs.length ≤ 8388608) (hB : B ≤ w.heap.size)
    (h : ∀ v' w', OwnN w' B v' xs → w.grownBy w' v.ownBlock → K (a.put o.dst v') w') :
    if Region.wanted o (yielded ops a.tmps) = true then Oper.wp Try.prog o a w K Q else E := by
  have hw : Region.wanted o (yielded ops a.tmps) = true := by simp [Region.wanted, hgd]
  rw [if_pos hw]
  obtain ⟨i0, hi, hz0, hz1, hz2⟩ := info_parts infoNd
  refine wp_append_own w s x 32 ho B 55 i0 (.agg #[.int .i64 0, .int .i64 0]) 2 16 Try.underlying32 hi hz0 hz1 hz2 rfl (by decide) v xs.length (cellsN xs) hs hown ad 0 c [] hx rfl (fun j u hu => by simp at hu) (fun u hu => by simp at hu) (by unfold maxLen; omega) (by omega) hB (fun v' w' h1 h2 _ => h v' w' ?_ h2)
  unfold OwnN
  simpa using h1

theorem OwnN.drew {w : World} {B : Nat} {v : Value} {xs : List Nd} (h : OwnN w B v xs) : OwnN w.drew B v xs := h

theorem AtN.drew {w : World} {a : Option Addr} {len : Nat} {xs : List Nd} (h : AtN w a len xs) : AtN w.drew a len xs := h

theorem grown_drew {w w1 : World} {r : Option Nat} (h : w.grownBy w1 r) : w.grownBy w1.drew r := ⟨h.os, h.tape, h.output, h.size, h.block⟩

end Go.Proofs.Ytpccocmiadpgiaa
