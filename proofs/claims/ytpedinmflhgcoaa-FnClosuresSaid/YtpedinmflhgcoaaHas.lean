/- Contracts of the comparison of sets of flags, and of the least Euclidean relation of the program. Conditions: those in the theorems. -/
import Derived.Test.YtpedinmflhgcoaaFf
import Derived.Test.YtpedinmflhgcoaaEu
import Derived.Laws.StructEq
namespace Go.Proofs.Ytpedinmflhgcoaa
open Go.RowKit

/-- A set of flags lies in the block b. -/
def CB (w : World) (b : Nat) (s : Nat → Bool) : Prop := b < w.heap.size ∧ ∀ j, j < 11 → w.cell? ⟨b, j, none⟩ = some (.bool (s j)) ∧ w.frozen? ⟨b, j, none⟩ = false
theorem CB.below {w w' : World} {C b : Nat} {s : Nat → Bool} (h : CB w b s) (hb : Below C w w') (hC : b < C) : CB w' b s :=
  ⟨Nat.lt_of_lt_of_le h.1 hb.size, fun j hj => ⟨(hb.cell (p := ⟨b, j, none⟩) hC).trans (h.2 j hj).1, (hb.frozen (p := ⟨b, j, none⟩) hC).trans (h.2 j hj).2⟩⟩
theorem CB.keep {w w' : World} {b : Nat} {s : Nat → Bool} (h : CB w b s) (hb : Below w.heap.size w w') : CB w' b s := h.below hb h.1
theorem CB.new (w : World) (s : Nat → Bool) : CB (w.alloc (.cells #[.bool (s 0), .bool (s 1), .bool (s 2), .bool (s 3), .bool (s 4), .bool (s 5), .bool (s 6), .bool (s 7), .bool (s 8), .bool (s 9), .bool (s 10)] 84)) w.heap.size s := by
  refine ⟨by simp, fun j hj => ⟨?_, by simp⟩⟩
  have : j = 0 ∨ j = 1 ∨ j = 2 ∨ j = 3 ∨ j = 4 ∨ j = 5 ∨ j = 6 ∨ j = 7 ∨ j = 8 ∨ j = 9 ∨ j = 10 := by omega
  rcases this with rfl | rfl | rfl | rfl | rfl | rfl | rfl | rfl | rfl | rfl | rfl <;> exact World.cell?_alloc_at _ _ _ _ rfl
theorem CB.set {w : World} {b k : Nat} {s s' : Nat → Bool} {v : Bool} (h : CB w b s) (hk : k < 11) (e : ∀ j, j < 11 → (if j = k then v else s j) = s' j) : CB (w.setCell ⟨b, k, none⟩ (.bool v)) b s' := by
  refine ⟨by simpa [World.setCell] using h.1, fun j hj => ⟨?_, ?_⟩⟩
  · rw [← e j hj]
    by_cases q : j = k
    · subst q; rw [if_pos rfl]; exact World.cell?_setCell_same _ _ _ (h.2 j hj).1
    · rw [if_neg q, World.cell?_setCell_other _ _ _ _ (fun e => q (by cases e; rfl))]; exact (h.2 j hj).1
  · have := (h.2 j hj).2
    simpa using this
theorem sizeOf_bool (w : World) : (sizeOf 4).run Try.prog w = .ok 1 w := by
  simp [sizeOf, go_sem]
  rfl
theorem und_bool : Try.prog.underlying 4 = some .bool := by kernel_rfl
theorem all_range_eqB : ∀ (xs ys : List Bool), xs.length = ys.length → ((List.range xs.length).all fun i => xs.getD i false == ys.getD i false) = (xs == ys)
  | [], [], _ => rfl
  | x :: xs, y :: ys, h => by
    have ih := all_range_eqB xs ys (by simpa using h)
    rw [List.length_cons, List.range_succ_eq_map, List.all_cons, List.all_map]
    simp only [List.getD_cons_zero, Function.comp_def, List.getD_cons_succ, ih]
    simp [List.cons_beq_cons]
  | [], _ :: _, h => by simp at h
  | _ :: _, [], h => by simp at h
theorem run_equalIn_bools (w : World) (d : Nat) (t e : TypeId) (n : Nat) (ht : Try.prog.underlying t = some (.array n e)) (he : Try.prog.underlying e = some .bool) (hsz : ∀ w, (sizeOf e).run Try.prog w = .ok 1 w)
    (xs ys : List Bool) (hx : xs.length = n) (hy : ys.length = n) :
    (Op.equalIn (d + 2) t (.agg (xs.map Value.bool).toArray) (.agg (ys.map Value.bool).toArray)).run Try.prog w = .ok (xs == ys) w := by
  rw [← all_range_eqB xs ys (hx.trans hy.symm), hx, List.range_eq_range', Op.equalIn]
  simp only [Sem.run_bind, run_underlying ht, Result.andThen_ok, hsz, Std.Legacy.Range.forIn_eq_forIn_range', Std.Legacy.Range.size, Nat.sub_zero, Nat.add_sub_cancel, Nat.div_one]
  have hl : ∀ i ∈ List.range' 0 n 1, i < n := fun i hi => by simpa using (List.mem_range'_1.1 hi).2
  generalize List.range' 0 n 1 = l at hl ⊢
  induction l with
  | nil => simp
  | cons i l ih =>
    have hi : i < n := hl i (by simp)
    have px : (part e (xs.map Value.bool).toArray (i * 1)).run Try.prog w = .ok (.bool (xs.getD i false)) w := by
      simp [part, isAgg, run_underlying he, List.getD, List.getElem?_eq_getElem (show i < xs.length by omega)]
    have py : (part e (ys.map Value.bool).toArray (i * 1)).run Try.prog w = .ok (.bool (ys.getD i false)) w := by
      simp [part, isAgg, run_underlying he, List.getD, List.getElem?_eq_getElem (show i < ys.length by omega)]
    have pe : (Op.equalIn (d + 1) e (.bool (xs.getD i false)) (.bool (ys.getD i false))).run Try.prog w = .ok (xs.getD i false == ys.getD i false) w := run_equalIn_bool' w d e _ _ he
    simp only [List.forIn_cons, Sem.run_bind, px, py, pe, Result.andThen_ok, List.all_cons]
    cases hb : (xs.getD i false == ys.getD i false)
    · simp
    · simp only [Bool.not_true, Bool.false_eq_true, if_false, Sem.run_pure, Result.andThen_ok, Bool.true_and]
      exact ih fun j hj => hl j (by simp [hj])
theorem run_eql_flags (b : Bool) (w : World) :
    (binOp .eql 84 (.agg #[.bool false, .bool false, .bool false, .bool false, .bool b, .bool false, .bool false, .bool false, .bool false, .bool false, .bool false]) (.agg #[.bool false, .bool false, .bool false, .bool false, .bool true, .bool false, .bool false, .bool false, .bool false, .bool false, .bool false])).run Try.prog w = .ok (.bool b) w := by
  have q := run_equalIn_bools w 9998 84 4 11 Try.underlying84 und_bool sizeOf_bool [false, false, false, false, b, false, false, false, false, false, false] [false, false, false, false, true, false, false, false, false, false, false] rfl rfl
  rw [run_eql_struct]
  have e : ([false, false, false, false, b, false, false, false, false, false, false] == [false, false, false, false, true, false, false, false, false, false, false]) = b := by cases b <;> rfl
  rw [e] at q
  show ((Op.equalIn 10000 84 _ _).run Try.prog w).andThen _ = _
  rw [show (10000 : Nat) = 9998 + 2 from rfl]
  exact (congrArg (fun r => Result.andThen r fun b w' => Result.ok (Value.bool b) w') q).trans rfl
def euW (j : Nat) : Bool := decide (j = 4)
def hsF (s : Nat → Bool) (k j : Nat) : Bool := if j < k then (s j && euW j) else false

set_option maxHeartbeats 2000000 in
set_option maxRecDepth 100000 in
theorem has_any (s : Nat → Bool) (w : World) :
    Calls Try.prog 143 #[.agg #[.bool (s 0), .bool (s 1), .bool (s 2), .bool (s 3), .bool (s 4), .bool (s 5), .bool (s 6), .bool (s 7), .bool (s 8), .bool (s 9), .bool (s 10)], .agg #[.bool false, .bool false, .bool false, .bool false, .bool true, .bool false, .bool false, .bool false, .bool false, .bool false, .bool false]] w fun e w' => e = .returned (.bool (s 4)) ∧ Below w.heap.size w w' := by
  obtain ⟨W, hW⟩ : ∃ W, W = ((w.alloc (.cells #[.bool (s 0), .bool (s 1), .bool (s 2), .bool (s 3), .bool (s 4), .bool (s 5), .bool (s 6), .bool (s 7), .bool (s 8), .bool (s 9), .bool (s 10)] 84)).alloc (.cells #[.bool false, .bool false, .bool false, .bool false, .bool true, .bool false, .bool false, .bool false, .bool false, .bool false, .bool false] 84)).alloc (.cells #[.bool false, .bool false, .bool false, .bool false, .bool false, .bool false, .bool false, .bool false, .bool false, .bool false, .bool false] 84) := ⟨_, rfl⟩
  have HB : Hid (Below w.heap.size w W) := by rw [hW]; exact Lib.hid ((((Below.refl w.heap.size w).alloc (Nat.le_refl _) _).alloc (by simp) _).alloc (by simp; omega) _)
  have S := Lib.hid (show CB W w.heap.size s by rw [hW]; exact ((CB.new w s).keep (alloc_keep _ _).1).keep (alloc_keep _ _).1)
  have E := Lib.hid (show CB W (w.heap.size + 1) euW by
    rw [hW]
    have q := (CB.new (w.alloc (.cells #[.bool (s 0), .bool (s 1), .bool (s 2), .bool (s 3), .bool (s 4), .bool (s 5), .bool (s 6), .bool (s 7), .bool (s 8), .bool (s 9), .bool (s 10)] 84)) euW).keep (alloc_keep _ (.cells #[.bool false, .bool false, .bool false, .bool false, .bool false, .bool false, .bool false, .bool false, .bool false, .bool false, .bool false] 84)).1
    simpa [euW] using q)
  have C := Lib.hid (show CB W (w.heap.size + 1 + 1) (hsF s 0) by
    rw [hW]
    have q := CB.new ((w.alloc (.cells #[.bool (s 0), .bool (s 1), .bool (s 2), .bool (s 3), .bool (s 4), .bool (s 5), .bool (s 6), .bool (s 7), .bool (s 8), .bool (s 9), .bool (s 10)] 84)).alloc (.cells #[.bool false, .bool false, .bool false, .bool false, .bool true, .bool false, .bool false, .bool false, .bool false, .bool false, .bool false] 84)) (hsF s 0)
    simpa [hsF] using q)
  have hz : w.heap.size + 1 + 1 + 1 ≤ W.heap.size := by rw [hW]; simp
  have HW := Lib.hid hW
  clear hW
  go_enter Try.func143, Try.ntmps143
  go_wp2
  go_loopw [8] (fun i wr => ∃ k : Nat, k ≤ 11 ∧ i = .int .i64 k ∧ Hid (CB wr (w.heap.size + 1 + 1) (hsF s k)) ∧ Hid (Below (w.heap.size + 1 + 1) W wr)) (fun i _ => 11 - (intOf i).toNat)
  case atStart =>
    rw [← HW.out]
    exact ⟨0, Nat.zero_le _, rfl, C, Lib.hid (Below.refl _ _)⟩
  case round =>
    obtain ⟨k, hk, rfl, D, B⟩ := hrel
    by_cases hlt : k < 11
    · obtain ⟨s1, -⟩ := (S.out.below B.out (by omega)).2 k hlt
      obtain ⟨s2, -⟩ := (E.out.below B.out (by omega)).2 k hlt
      obtain ⟨s3, s4⟩ := D.out.2 k hlt
      have SE := Lib.hid (fun (v : Bool) (hv : v = (s k && euW k)) (j : Nat) (_ : j < 11) => show (if j = k then v else hsF s k j) = hsF s (k + 1) j by
        unfold hsF
        by_cases q : j = k
        · subst q; rw [if_pos rfl, if_pos (by omega), hv]
        · rw [if_neg q]
          by_cases q2 : j < k
          · have q3 : j < k + 1 := by omega
            rw [if_pos q2, if_pos q3]
          · have q3 : ¬ j < k + 1 := by omega
            rw [if_neg q2, if_neg q3])
      cases hs : s k
      · rw [hs] at s1
        have HS := Lib.hid hs
        clear hs
        go_wp2
        go_roundw
        case rel => exact ⟨k + 1, hlt, by go_num, Lib.hid (D.out.set hlt (SE.out _ (by rw [HS.out]; rfl))), Lib.hid (B.out.setCell (by show _ ≤ _; exact Nat.le_refl _) _)⟩
        case measure => simp [intOf]; omega
      · rw [hs] at s1
        have HS := Lib.hid hs
        clear hs
        go_wp2
        go_roundw
        case rel => exact ⟨k + 1, hlt, by go_num, Lib.hid (D.out.set hlt (SE.out _ (by rw [HS.out]; rfl))), Lib.hid (B.out.setCell (by show _ ≤ _; exact Nat.le_refl _) _)⟩
        case measure => simp [intOf]; omega
    · obtain rfl : k = 11 := by omega
      have E2 := E.out.below B.out (by omega)
      obtain ⟨e0, -⟩ := E2.2 0 (by decide); obtain ⟨e1, -⟩ := E2.2 1 (by decide); obtain ⟨e2, -⟩ := E2.2 2 (by decide); obtain ⟨e3, -⟩ := E2.2 3 (by decide); obtain ⟨e4, -⟩ := E2.2 4 (by decide); obtain ⟨e5, -⟩ := E2.2 5 (by decide); obtain ⟨e6, -⟩ := E2.2 6 (by decide); obtain ⟨e7, -⟩ := E2.2 7 (by decide); obtain ⟨e8, -⟩ := E2.2 8 (by decide); obtain ⟨e9, -⟩ := E2.2 9 (by decide); obtain ⟨e10, -⟩ := E2.2 10 (by decide)
      have D2 := D.out
      obtain ⟨d0, -⟩ := D2.2 0 (by decide); obtain ⟨d1, -⟩ := D2.2 1 (by decide); obtain ⟨d2, -⟩ := D2.2 2 (by decide); obtain ⟨d3, -⟩ := D2.2 3 (by decide); obtain ⟨d4, -⟩ := D2.2 4 (by decide); obtain ⟨d5, -⟩ := D2.2 5 (by decide); obtain ⟨d6, -⟩ := D2.2 6 (by decide); obtain ⟨d7, -⟩ := D2.2 7 (by decide); obtain ⟨d8, -⟩ := D2.2 8 (by decide); obtain ⟨d9, -⟩ := D2.2 9 (by decide); obtain ⟨d10, -⟩ := D2.2 10 (by decide)
      have f : ∀ j, j ≠ 4 → hsF s 11 j = false := fun j hj => by unfold hsF euW; split <;> simp [hj]
      have f4 : hsF s 11 4 = s 4 := by simp [hsF, euW]
      rw [f 0 (by decide)] at d0; rw [f 1 (by decide)] at d1; rw [f 2 (by decide)] at d2; rw [f 3 (by decide)] at d3; rw [f4] at d4; rw [f 5 (by decide)] at d5; rw [f 6 (by decide)] at d6; rw [f 7 (by decide)] at d7; rw [f 8 (by decide)] at d8; rw [f 9 (by decide)] at d9; rw [f 10 (by decide)] at d10
      have g : ∀ j, j ≠ 4 → euW j = false := fun j hj => by simp [euW, hj]
      have g4 : euW 4 = true := rfl
      rw [g 0 (by decide)] at e0; rw [g 1 (by decide)] at e1; rw [g 2 (by decide)] at e2; rw [g 3 (by decide)] at e3; rw [g4] at e4; rw [g 5 (by decide)] at e5; rw [g 6 (by decide)] at e6; rw [g 7 (by decide)] at e7; rw [g 8 (by decide)] at e8; rw [g 9 (by decide)] at e9; rw [g 10 (by decide)] at e10
      have BB := Lib.hid (HB.out.trans (B.out.mono (by omega)))
      clear E2 D2 f f4 g g4 S E C D B hlt hk
      cases h4 : s 4
      · rw [h4] at d4
        have H4 := Lib.hid h4
        clear h4
        have re := fun W => run_eql_flags false W
        go_wp2
        go_ret
        exact ⟨ret_bool H4.out.symm, BB.out⟩
      · rw [h4] at d4
        have H4 := Lib.hid h4
        clear h4
        have re := fun W => run_eql_flags true W
        go_wp2
        go_ret
        exact ⟨ret_bool H4.out.symm, BB.out⟩

end Go.Proofs.Ytpedinmflhgcoaa
