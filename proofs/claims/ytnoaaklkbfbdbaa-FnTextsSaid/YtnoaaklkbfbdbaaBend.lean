/- Contracts of the model's functions l02Own, l02Bend and l02Any: they return some list of nodes that is not long. Conditions: those in the theorems. -/
import Derived.Deep.RegionLaw
import Derived.Test.YtnoaaklkbfbdbaaDrawN
namespace Go.Proofs.Ytnoaaklkbfbdbaa
open Go.RowKit

theorem grown_newB {w w1 w2 : World} {r u : Option Nat} (h : w.grownBy w1 r) (hg : w1.grownBy w2 u) (hu : ∀ k, u = some k → w.heap.size ≤ k) : w.grownBy w2 r :=
  ⟨hg.os.trans h.os, hg.tape.trans h.tape, hg.output.trans h.output, Nat.le_trans h.size hg.size, fun k hk hne => (hg.block k (Nat.lt_of_lt_of_le hk h.size) (fun e => by have := hu k e.symm; omega)).trans (h.block k hk hne)⟩
theorem OwnN.ge {w : World} {B : Nat} {v : Value} {xs : List Nd} (h : OwnN w B v xs) : ∀ k, v.ownBlock = some k → B ≤ k := fun k hk => (World.ownsRow.lt h k hk).1
theorem OwnN.ne {w : World} {B b : Nat} {v : Value} {xs : List Nd} (h : OwnN w B v xs) (hb : b < B) : v.ownBlock ≠ some b := by
  intro e
  have := h.ge b e
  omega
theorem set_kind (xs : List Nd) (k : Nat) (h : k < xs.length) (x : Int) : (cellsN xs).set (k * 2) (.int .i64 x) = cellsN (xs.set k (x, sy xs k)) := by
  rw [← cellsN_set xs k h x (sy xs k)]
  apply List.ext_getElem?
  intro j
  by_cases e : j = k * 2 + 1
  · subst e
    rw [List.getElem?_set_ne (by omega), List.getElem?_set_self (by rw [List.length_set, cellsN_len]; omega)]
    exact (cellsN_at xs k h).2
  · rw [List.getElem?_set_ne (fun h => e h.symm)]
theorem set_sym (xs : List Nd) (k : Nat) (h : k < xs.length) (x : Int) : (cellsN xs).set (k * 2 + 1) (.int .i64 x) = cellsN (xs.set k (kd xs k, x)) := by
  rw [← cellsN_set xs k h (kd xs k) x]
  congr 1
  apply List.ext_getElem?
  intro j
  by_cases e : j = k * 2
  · subst e
    rw [List.getElem?_set_self (by rw [cellsN_len]; omega)]
    exact (cellsN_at xs k h).1
  · rw [List.getElem?_set_ne (fun h => e h.symm)]
theorem OwnN.full {w : World} {B : Nat} {v : Value} {xs : List Nd} (h : OwnN w B v xs) (hp : 0 < xs.length) : ∃ g cap, v = .slice (some ⟨g, 0, none⟩) xs.length cap ∧ B ≤ g ∧ g < w.heap.size ∧ xs.length ≤ cap ∧ cap ≤ maxLen := by
  rcases h.2 with ⟨_, h2⟩ | ⟨g, cap, cur, hv, hg, hh, hc, hm, -⟩
  · omega
  · exact ⟨g, cap, hv, hg, (Array.getElem?_eq_some_iff.1 hh).1, hc, hm⟩
theorem cellsN_take (xs : List Nd) (k : Nat) : (cellsN xs).take (k * 2) = cellsN (xs.take k) := by
  induction xs generalizing k with
  | nil => simp [cellsN]
  | cons x xs ih =>
    cases k with
    | zero => simp [cellsN]
    | succ k =>
      rw [show (k + 1) * 2 = k * 2 + 1 + 1 by omega]
      show Value.int .i64 x.1 :: Value.int .i64 x.2 :: (cellsN xs).take (k * 2) = _
      rw [ih k]
      rfl
/-- The first k nodes of an own list. -/
theorem OwnN.cut {w : World} {B g cap : Nat} {xs : List Nd} (h : OwnN w B (.slice (some ⟨g, 0, none⟩) xs.length cap) xs) (k : Nat) (hk : k ≤ xs.length) : OwnN w B (.slice (some ⟨g, 0, none⟩) k cap) (xs.take k) := by
  have hl : (xs.take k).length = k := by simp; omega
  rcases h.2 with ⟨h2, -⟩ | ⟨g', cap', cur, hv, hg, hh, hc, hm, hs, ht⟩
  · cases h2
  · cases hv
    unfold OwnN
    rw [hl]
    refine ⟨by rw [cellsN_len, hl], .inr ⟨g, cap, cur, rfl, hg, hh, by omega, hm, hs, ?_⟩⟩
    rw [← cellsN_take, ← ht, List.take_take, Nat.min_eq_left (by omega)]

set_option maxHeartbeats 400000 in
theorem l02Own_any (xs : List Nd) (a : Option Addr) (len cap : Nat) (w : World) (hl : len ≤ 4194304) (hp : 0 < len) (h : AtN w a len xs) :
    Calls Try.prog 129 #[.slice a len cap] w fun e w' => ∃ v, e = .returned v ∧ OwnN w' w.heap.size v xs ∧ Below w.heap.size w w' := by
  have H := Lib.hid h
  clear h
  have b0 : Below w.heap.size w (w.alloc (.cells #[] 69)) := (Below.refl _ _).alloc (Nat.le_refl _) _
  have B0 := Lib.hid b0
  have L0 : Hid (OwnN (w.alloc (.cells #[] 69)) w.heap.size (.slice (some ⟨w.heap.size, 0, none⟩) 0 0) []) := World.ownsRow_lit w #[] 0 (Nat.le_refl _) (by decide) rfl
  clear b0
  go_enter Try.func129, Try.ntmps129
  go_wp2_with (at_builtin; refine list_appN rfl _ _ rfl w.heap.size _ [] rfl L0.out xs a len cap rfl (H.out.keep B0.out (Nat.le_refl _)) hp (by simp; omega) B0.out.size ?_)
  intro v1 w1 ho1 hg1
  have b1 : Below w.heap.size w w1 := below_appN (Below.refl _ _) B0.out (Nat.le_refl _) L0.out hg1
  have B1 := Lib.hid b1
  have O1 := Lib.hid ho1
  clear b1 ho1 hg1
  go_wp2
  go_ret
  exact ⟨_, rfl, O1.out, B1.out⟩

/-- What a drawing function leaves that may bend a list: a list of its own, of at most n nodes. -/
def DrewE (w : World) (b : Nat) (a : Option Addr) (len cap : Nat) (n : Nat) (e : Ending) (w' : World) : Prop :=
  (∃ v zs, e = .returned v ∧ OwnN w' w.heap.size v zs ∧ zs.length ≤ n) ∧ Src w' b a len cap ∧ w.grownBy w' (some b)

theorem step_appN {ops : Array Oper} {o : Oper} {a : Act} {w : World} {K : Act → World → Prop} {Q : Exit → Act → World → Prop} {E : Prop} (hgd : o.guard = none) (s x : Operand)
    (ho : o.op = .call { callee := .builtin .append, args := #[s, x], argTypes := #[32, 32] })
    (B : Nat) (v : Value) (xs : List Nd) (hs : a.eval s = v) (hown : OwnN w B v xs)
    (ys : List Nd) (aa : Option Addr) (m c : Nat) (hx : a.eval x = .slice aa m c) (hat : AtN w aa m ys) (hm : 0 < m) (hn : xs.length + m ≤ 8388608) (hB : B ≤ w.heap.size)
    (h : ∀ v' w', OwnN w' B v' (xs ++ ys) → w.grownBy w' v.ownBlock → K (a.put o.dst v') w') :
    if Region.wanted o (yielded ops a.tmps) = true then Oper.wp Try.prog o a w K Q else E := by
  have hw : Region.wanted o (yielded ops a.tmps) = true := by simp [Region.wanted, hgd]
  rw [if_pos hw]
  obtain ⟨i0, hi, hz0, hz1, hz2⟩ := info_parts infoNd
  obtain ⟨b, off, rfl, -, -⟩ := hat.2.resolve_left (by omega)
  refine wp_append_own w s x 32 ho B 69 i0 (.agg #[.int .i64 0, .int .i64 0]) 2 16 Try.underlying32 hi hz0 hz1 hz2 rfl (by decide) v xs.length (cellsN xs) hs hown ⟨b, off, none⟩ m c (cellsN ys) hx (by rw [cellsN_len, hat.1]) hat.news (cells_one ys) (by unfold maxLen; omega) (by omega) hB (fun v' w' h1 h2 _ => h v' w' ?_ h2)
  unfold OwnN
  rw [List.length_append, cellsN_append, ← hat.1]
  exact h1
theorem step_appN0 {ops : Array Oper} {o : Oper} {a : Act} {w : World} {K : Act → World → Prop} {Q : Exit → Act → World → Prop} {E : Prop} (hgd : o.guard = none) (s x : Operand)
    (ho : o.op = .call { callee := .builtin .append, args := #[s, x], argTypes := #[32, 32] })
    (B : Nat) (v : Value) (xs : List Nd) (hs : a.eval s = v) (hown : OwnN w B v xs)
    (ad : Addr) (c : Nat) (hx : a.eval x = .slice (some ad) 0 c) (hn : xs.length ≤ 8388608) (hB : B ≤ w.heap.size)
    (h : ∀ v' w', OwnN w' B v' xs → w.grownBy w' v.ownBlock → K (a.put o.dst v') w') :
    if Region.wanted o (yielded ops a.tmps) = true then Oper.wp Try.prog o a w K Q else E := by
  have hw : Region.wanted o (yielded ops a.tmps) = true := by simp [Region.wanted, hgd]
  rw [if_pos hw]
  obtain ⟨i0, hi, hz0, hz1, hz2⟩ := info_parts infoNd
  refine wp_append_own w s x 32 ho B 69 i0 (.agg #[.int .i64 0, .int .i64 0]) 2 16 Try.underlying32 hi hz0 hz1 hz2 rfl (by decide) v xs.length (cellsN xs) hs hown ad 0 c [] hx rfl (fun j u hu => by simp at hu) (fun u hu => by simp at hu) (by unfold maxLen; omega) (by omega) hB (fun v' w' h1 h2 _ => h v' w' ?_ h2)
  unfold OwnN
  simpa using h1

theorem OwnN.drew {w : World} {B : Nat} {v : Value} {xs : List Nd} (h : OwnN w B v xs) : OwnN w.drew B v xs := h

theorem AtN.drew {w : World} {a : Option Addr} {len : Nat} {xs : List Nd} (h : AtN w a len xs) : AtN w.drew a len xs := h

theorem grown_drew {w w1 : World} {r : Option Nat} (h : w.grownBy w1 r) : w.grownBy w1.drew r := ⟨h.os, h.tape, h.output, h.size, h.block⟩

theorem src_drew {w : World} {b : Nat} {a : Option Addr} {len cap : Nat} (h : Src w b a len cap) : Src w.drew b a len cap := h

set_option maxHeartbeats 4000000 in
theorem l02Bend_any (xs : List Nd) (aa : Option Addr) (m cc : Nat) (b : Nat) (a : Option Addr) (len cap B : Nat) (w : World) (hBb : B ≤ b) (hBw : B ≤ w.heap.size) (hm : m ≤ 4096) (hp : 0 < m) (h : AtN w aa m xs) (hsrc : Src w b a len cap) (hc : Code B w a len) :
    Calls Try.prog 101 #[.pointer (some ⟨b, 0, none⟩), .slice aa m cc] w (DrewE w b a len cap (m + 1)) := by
  have HXL := Lib.hid h.1
  have hx0 : 0 < xs.length := by have := h.1; omega
  have H := Lib.hid h
  have HS := Lib.hid hsrc
  have HC := Lib.hid hc
  have hlt := hsrc.lt
  clear hsrc hc h
  go_enter Try.func101, Try.ntmps101
  go_wp2_with fail
  refine (l02Own_any xs aa m cc _ (by omega) hp H.out).mono ?_
  rintro e wo ⟨v0, rfl, ho, hbo⟩
  have OO := Lib.hid ho
  obtain ⟨gg, c0, rfl, hgg, hgl, hgc, hgm⟩ := ho.full hx0
  unfold maxLen at hgm
  clear ho
  have hg := grown_of_below hbo (some b)
  have hs := HS.out.below hbo (Nat.le_refl _)
  have G2 := Lib.hid hg
  have S2 := Lib.hid hs
  clear  hg hs
  obtain ⟨n, hn⟩ : ∃ n, n = xs.length := ⟨_, rfl⟩
  have ON : Hid (OwnN wo w.heap.size (.slice (some ⟨gg, 0, none⟩) n c0) xs) := by show OwnN _ _ _ _; rw [hn]; exact OO.out
  clear OO
  rw [← hn] at hgc ⊢
  have hnm : n = m := by have := HXL.out; omega
  have HN := Lib.hid hn
  have hn0 : 0 < n := by omega
  have hn1 : n ≤ 4096 := by omega
  have HNM := Lib.hid hnm
  clear hnm
  clear hn HXL hx0
  go_wp2_with fail
  refine (l01Next_any b a len cap n _ B hBb S2.out (HC.out.grown G2.out hBb hBw)).mono ?_
  rintro e w3 ⟨k, rfl, hk, hs, hg⟩
  have G4 := Lib.hid (grown_trans G2.out hg)
  have ONx4 := Lib.hid (ON.out.keepG hg hlt)
  clear ON
  have S4 := Lib.hid hs
  clear S2 hg hs
  have hk1 : k < n := by omega
  clear hk
  go_wp2_with fail
  refine (l01Next_any b a len cap 5 _ B hBb S4.out (HC.out.grown G4.out hBb hBw)).mono ?_
  rintro e w5 ⟨c5, rfl, hc5, hs, hg⟩
  have G6 := Lib.hid (grown_trans G4.out hg)
  have ONx4x6 := Lib.hid (ONx4.out.keepG hg hlt)
  clear ONx4
  have S6 := Lib.hid hs
  clear S4 hg hs
  have hx5 : c5 = 0 ∨ c5 = 1 ∨ c5 = 2 ∨ c5 = 3 ∨ c5 = 4 := by omega
  clear hc5
  rcases hx5 with rfl | rfl | rfl | rfl | rfl
  · skip
    go_wp2_with fail
    refine (l01Next_any b a len cap 9 _ B hBb S6.out (HC.out.grown G6.out hBb hBw)).mono ?_
    rintro e w7 ⟨k9, rfl, hk9, hs, hg⟩
    have G8 := Lib.hid (grown_trans G6.out hg)
    have ONx4x6x8 := Lib.hid (ONx4x6.out.keepG hg hlt)
    clear ONx4x6
    have S8 := Lib.hid hs
    clear S6 hg hs
    have hon : w7.ownsRow w.heap.size 69 2 (.slice (some ⟨gg, 0, none⟩) n c0) n (cellsN xs) := by have h9 := ONx4x6x8.out; unfold OwnN at h9; rw [← HN.out] at h9; exact h9
    have hs0 := hon.stored (k * 2) (.int .i64 ((k9 : Int) - 1))
    have hf := hon.frozenAt (k * 2)
    have hcell := hon.cellAt (k * 2) (by omega)
    obtain ⟨hc1, hc2⟩ := cellsN_at xs k (by rw [← HN.out]; exact hk1)
    rw [hc1] at hcell
    rw [set_kind xs k (by rw [← HN.out]; exact hk1)] at hs0
    have OS : Hid (OwnN (w7.setCell ⟨gg, k * 2, none⟩ (.int .i64 ((k9 : Int) - 1))) w.heap.size (.slice (some ⟨gg, 0, none⟩) n c0) (xs.set k ((k9 : Int) - 1, sy xs k))) := by show OwnN _ _ _ _; unfold OwnN; rw [List.length_set, ← HN.out]; exact hs0.1
    have hg := grown_set w7 gg (k * 2) (.int .i64 ((k9 : Int) - 1))
    have hs := S8.out.other hg (by intro e; cases e; omega)
    have GG := Lib.hid (grown_newB G8.out hg (fun k hk => by cases hk; exact hgg))
    have SS := Lib.hid hs
    clear hs0 hg hs hc1 hc2 hon
    go_wp2
    go_ret
    exact ⟨⟨_, _, rfl, OS.out, by rw [List.length_set, ← HN.out]; have := HNM.out; omega⟩, SS.out, GG.out⟩
  · skip
    have hal := (World.grownBy_alloc w5 (.cells #[.int .i64 (-1), .int .i64 0, .int .i64 1, .int .i64 5, .int .i64 6] 2) (some b))
    have G7 := Lib.hid (grown_trans G6.out hal)
    have S7 := Lib.hid (S6.out.alloc (.cells #[.int .i64 (-1), .int .i64 0, .int .i64 1, .int .i64 5, .int .i64 6] 2))
    have O7 := Lib.hid (show OwnN (w5.alloc (.cells #[.int .i64 (-1), .int .i64 0, .int .i64 1, .int .i64 5, .int .i64 6] 2)) w.heap.size _ xs from World.ownsRow.alloc ONx4x6.out (.cells #[.int .i64 (-1), .int .i64 0, .int .i64 1, .int .i64 5, .int .i64 6] 2))
    have PL := Lib.hid (World.ownsRow_lit (base := B) (e := 2) (size := 1) w5 #[.int .i64 (-1), .int .i64 0, .int .i64 1, .int .i64 5, .int .i64 6] 5 (Nat.le_trans hBw G6.out.size) (by decide) rfl)
    have hcb : b < w5.heap.size := Nat.lt_of_lt_of_le hlt G6.out.size
    clear hal S6 ONx4x6
    go_wp2_with fail
    refine (l01Pick_any b a len cap w5.heap.size 5 5 [-1, 0, 1, 5, 6] _ B hBb S7.out (HC.out.grown G7.out hBb hBw) rfl (by omega) (by omega) (by omega) PL.out).mono ?_
    rintro e wp ⟨⟨pk, hpk, rfl⟩, hs, hg⟩
    have G8 := Lib.hid (grown_trans G7.out hg)
    have O7x8 := Lib.hid (O7.out.keepG hg hlt)
    clear O7
    have S8 := Lib.hid hs
    clear S7 hg hs
    have hon : wp.ownsRow w.heap.size 69 2 (.slice (some ⟨gg, 0, none⟩) n c0) n (cellsN xs) := by have h9 := O7x8.out; unfold OwnN at h9; rw [← HN.out] at h9; exact h9
    have hs0 := hon.stored (k * 2 + 1) (.int .i64 pk)
    have hf := hon.frozenAt (k * 2 + 1)
    have hcell := hon.cellAt (k * 2 + 1) (by omega)
    obtain ⟨hc1, hc2⟩ := cellsN_at xs k (by rw [← HN.out]; exact hk1)
    rw [hc2] at hcell
    rw [set_sym xs k (by rw [← HN.out]; exact hk1)] at hs0
    have OS : Hid (OwnN (wp.setCell ⟨gg, k * 2 + 1, none⟩ (.int .i64 pk)) w.heap.size (.slice (some ⟨gg, 0, none⟩) n c0) (xs.set k (kd xs k, pk))) := by show OwnN _ _ _ _; unfold OwnN; rw [List.length_set, ← HN.out]; exact hs0.1
    have hg := grown_set wp gg (k * 2 + 1) (.int .i64 pk)
    have hs := S8.out.other hg (by intro e; cases e; omega)
    have GG := Lib.hid (grown_newB G8.out hg (fun k hk => by cases hk; exact hgg))
    have SS := Lib.hid hs
    clear hs0 hg hs hc1 hc2 hon
    go_wp2
    go_ret
    exact ⟨⟨_, _, rfl, OS.out, by rw [List.length_set, ← HN.out]; have := HNM.out; omega⟩, SS.out, GG.out⟩
  · skip
    go_wp2_with fail
    refine (l01Next_any b a len cap 7 _ B hBb S6.out (HC.out.grown G6.out hBb hBw)).mono ?_
    rintro e w7 ⟨k7, rfl, hk7, hs, hg⟩
    have G8 := Lib.hid (grown_trans G6.out hg)
    have ONx4x6x8 := Lib.hid (ONx4x6.out.keepG hg hlt)
    clear ONx4x6
    have S8 := Lib.hid hs
    clear S6 hg hs
    have hal := (World.grownBy_alloc w7 (.cells #[.int .i64 (k7 : Int), .int .i64 0] 69) (some b))
    have G9 := Lib.hid (grown_trans G8.out hal)
    have S9 := Lib.hid (S8.out.alloc (.cells #[.int .i64 (k7 : Int), .int .i64 0] 69))
    have O9 := Lib.hid (show OwnN (w7.alloc (.cells #[.int .i64 (k7 : Int), .int .i64 0] 69)) w.heap.size _ xs from World.ownsRow.alloc ONx4x6x8.out (.cells #[.int .i64 (k7 : Int), .int .i64 0] 69))
    have LT := Lib.hid (litN w7 w7.heap.size (k7 : Int) 0 (Nat.le_refl _))
    clear hal S8 ONx4x6x8
    obtain ⟨la, lc, lv, lat, -⟩ := LT.out.at
    have LA : Hid (AtN (w7.alloc (.cells #[.int .i64 (k7 : Int), .int .i64 0] 69)) (some ⟨w7.heap.size, 0, none⟩) 1 [((k7 : Int), 0)]) := by show AtN _ _ _ _; cases lv; exact lat
    clear lv lat LT
    go_wp2_with (at_builtin; refine list_appN rfl _ _ rfl w.heap.size _ xs rfl O9.out [((k7 : Int), 0)] _ 1 1 rfl LA.out (by omega) (by rw [← HN.out]; omega) G9.out.size ?_)
    intro v1 w1 ho1 hg1
    have GG := Lib.hid (grown_newB G9.out hg1 (fun k hk => OwnN.ge O9.out k hk))
    have SS := Lib.hid (S9.out.other hg1 (OwnN.ne O9.out hlt))
    have OS := Lib.hid ho1
    clear ho1 hg1
    go_wp2
    go_ret
    exact ⟨⟨_, _, rfl, OS.out, by rw [List.length_append, ← HN.out]; have := HNM.out; simp; omega⟩, SS.out, GG.out⟩
  · skip
    have OC := Lib.hid (show OwnN w5 w.heap.size (.slice (some ⟨gg, 0, none⟩) k c0) (xs.take k) from OwnN.cut (by rw [← HN.out]; exact ONx4x6.out) k (by rw [← HN.out]; omega))
    have hkc : k ≤ c0 := by omega
    go_wp2
    go_ret
    exact ⟨⟨_, _, rfl, OC.out, by have := HNM.out; simp; omega⟩, S6.out, G6.out⟩
  · skip
    have OC := Lib.hid (show OwnN w5 w.heap.size (.slice (some ⟨gg, 0, none⟩) k c0) (xs.take k) from OwnN.cut (by rw [← HN.out]; exact ONx4x6.out) k (by rw [← HN.out]; omega))
    have hkc : k ≤ c0 := by omega
    have hkl : (xs.take k).length = k := by simp; rw [← HN.out]; omega
    have KL := Lib.hid hkl
    by_cases hlast : k + 1 < n
    · skip
      have sat : AtN w5 (some ⟨gg, 0, none⟩) n xs := by obtain ⟨sa, sc, sv, sat, -⟩ := (show OwnN w5 w.heap.size (.slice (some ⟨gg, 0, none⟩) n c0) xs from ONx4x6.out).at; simp at sv; rw [sv.1, sv.2.1]; exact sat
      have SA : Hid (AtN w5 (some ⟨gg, (k + 1) * 2, none⟩) (n - (k + 1)) ((xs.drop (k + 1)).take (n - (k + 1)))) := by show AtN _ _ _ _; have := sat.sub (k + 1) (n - (k + 1)) (by omega); rwa [Nat.zero_add] at this
      clear sat hkl
      have hwr : IntKind.i64.wrap ((k : Int) + 1) = (k : Int) + 1 := by rw [IntKind.wrap_i64]; omega
      have hz0 : (0 : Int) ≤ (k : Int) + 1 := by omega
      have hz1 : (k : Int) + 1 ≤ (n : Int) := by omega
      have hz2 : ((k : Int) + 1).toNat = k + 1 := by omega
      have hne : ¬ c0 = k + 1 := by omega
      go_wp2
      go_region_law (refine step_appN rfl _ _ rfl w.heap.size (.slice (some ⟨gg, 0, none⟩) k c0) (xs.take k) (by go_simp) OC.out.drew ((xs.drop (k + 1)).take (n - (k + 1))) (some ⟨gg, (k + 1) * 2, none⟩) (n - (k + 1)) (c0 - (k + 1)) (by go_simp) SA.out.drew (by omega) (by rw [KL.out]; omega) G6.out.size ?_; intro v1 w1 ho1 hg1)
      all_goals
        have GG := Lib.hid (grown_newB (grown_drew G6.out) hg1 (fun k hk => OwnN.ge OC.out k hk))
        have SS := Lib.hid (Src.other (src_drew S6.out) hg1 (OwnN.ne OC.out hlt))
        have OS := Lib.hid ho1
        clear ho1 hg1
        go_wp2
        go_ret
        exact ⟨⟨_, _, rfl, OS.out, by have := HNM.out; have := KL.out; simp; omega⟩, SS.out, GG.out⟩
    · have hk2 : n = k + 1 := by omega
      have hsl : k + 1 ≤ c0 := by omega
      clear hkl hlast
      subst hk2
      have hwr : IntKind.i64.wrap ((k : Int) + 1) = (k : Int) + 1 := by rw [IntKind.wrap_i64]; omega
      have hz0 : (0 : Int) ≤ (k : Int) + 1 := by omega
      have hz2 : ((k : Int) + 1).toNat = k + 1 := by omega
      have hk3 : (k : Int) ≤ (k : Int) + 1 := by omega
      have hk4 : (k : Int) ≤ (c0 : Int) := by omega
      by_cases hcc : c0 = k + 1
      · skip
        subst hcc
        go_wp2
        go_region_law (refine step_appN0 rfl _ _ rfl w.heap.size (.slice (some ⟨gg, 0, none⟩) k (k + 1)) (xs.take k) (by go_simp) OC.out.drew ⟨gg, 0, none⟩ _ (by go_simp; rfl) (by rw [KL.out]; omega) G6.out.size ?_; intro v1 w1 ho1 hg1)
        all_goals
          have GG := Lib.hid (grown_newB (grown_drew G6.out) hg1 (fun k hk => OwnN.ge OC.out k hk))
          have SS := Lib.hid (Src.other (src_drew S6.out) hg1 (OwnN.ne OC.out hlt))
          have OS := Lib.hid ho1
          clear ho1 hg1
          go_wp2
          go_ret
          exact ⟨⟨_, _, rfl, OS.out, by have := HNM.out; have := KL.out; simp; omega⟩, SS.out, GG.out⟩
      · skip
        go_wp2
        go_region_law (refine step_appN0 rfl _ _ rfl w.heap.size (.slice (some ⟨gg, 0, none⟩) k c0) (xs.take k) (by go_simp) OC.out.drew ⟨gg, (k + 1) * 2, none⟩ _ (by go_simp; rfl) (by rw [KL.out]; omega) G6.out.size ?_; intro v1 w1 ho1 hg1)
        all_goals
          have GG := Lib.hid (grown_newB (grown_drew G6.out) hg1 (fun k hk => OwnN.ge OC.out k hk))
          have SS := Lib.hid (Src.other (src_drew S6.out) hg1 (OwnN.ne OC.out hlt))
          have OS := Lib.hid ho1
          clear ho1 hg1
          go_wp2
          go_ret
          exact ⟨⟨_, _, rfl, OS.out, by have := HNM.out; have := KL.out; simp; omega⟩, SS.out, GG.out⟩

end Go.Proofs.Ytnoaaklkbfbdbaa
