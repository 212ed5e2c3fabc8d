/- Contracts of the program's flagsOf. Conditions: those in the theorems. -/
import Derived.Test.YtbaeacppojpplaaFlP
import Derived.Test.YtbaeacppojpplaaJn02
namespace Go.Proofs.Ytbaeacppojpplaa
open Go.RowKit

theorem zL_rep (n : Nat) : (madeCells #[Value.int .i64 0] n).toList = (zL n).map (Value.int .i64) := by
  rw [toList_madeCells_one]
  apply List.ext_getElem?
  intro j
  by_cases hj : j < n
  · rw [zL, tab_get hj]; simp [hj]
  · rw [List.getElem?_eq_none (by simp; omega), List.getElem?_eq_none (by simp [zL, tab]; omega)]
theorem zL_len (n : Nat) : (zL n).length = n := tab_len _ _
theorem idL_len (n : Nat) : (idL n).length = n := rfTo_len _ _
theorem bsL_len (xs : List Int) : (bsL xs).length = xs.length := tab_len _ _
theorem sbL_len (xs : List Int) : (sbL xs).length = xs.length := cpTo_len _ _ _
theorem csL_len (xs : List Int) : (csL xs).length = xs.length := tab_len _ _
/-- The box of the result, eleven truth values. -/
def Zb (w : World) (b : Nat) : Prop := b < w.heap.size ∧ (∀ j, j < 11 → w.cell? ⟨b, j, none⟩ = some (.bool false)) ∧ ∀ j, j < 11 → w.frozen? ⟨b, j, none⟩ = false
theorem Zb.keep {w w' : World} {b : Nat} (h : Zb w b) (hb : Below w.heap.size w w') : Zb w' b :=
  ⟨Nat.lt_of_lt_of_le h.1 hb.size, fun j hj => (hb.cell (p := ⟨b, j, none⟩) h.1).trans (h.2.1 j hj), fun j hj => (hb.frozen (p := ⟨b, j, none⟩) h.1).trans (h.2.2 j hj)⟩
def fz : List Value := [.bool false, .bool false, .bool false, .bool false, .bool false, .bool false, .bool false, .bool false, .bool false, .bool false, .bool false]
theorem Zb.new (w : World) : Zb (w.alloc (.cells #[.bool false, .bool false, .bool false, .bool false, .bool false, .bool false, .bool false, .bool false, .bool false, .bool false, .bool false] 88)) w.heap.size := by
  refine ⟨by simp, fun j hj => ?_, fun j hj => by simp⟩
  have : j = 0 ∨ j = 1 ∨ j = 2 ∨ j = 3 ∨ j = 4 ∨ j = 5 ∨ j = 6 ∨ j = 7 ∨ j = 8 ∨ j = 9 ∨ j = 10 := by omega
  rcases this with rfl | rfl | rfl | rfl | rfl | rfl | rfl | rfl | rfl | rfl | rfl <;> exact World.cell?_alloc_at _ _ _ _ rfl

set_option maxHeartbeats 4000000 in
set_option maxRecDepth 100000 in
theorem flagsOf_any (xs : List Int) (a : Option Addr) (cap : Nat) (w : World) (h8 : xs.length ≤ 8) (h : At w a xs.length xs) :
    Calls Try.prog 66 #[.slice a xs.length cap] w fun e w' => e = .returned (.agg #[.bool (ibF 0 xs), .bool (ibF 1 xs), .bool (ibF 2 xs), .bool (ibF 3 xs), .bool (ibF 4 xs), .bool (ibF 5 xs), .bool (ibF 6 xs), .bool (ibF 7 xs), .bool (ibF 8 xs), .bool (ibF 9 xs), .bool (ibF 10 xs)]) ∧ Below w.heap.size w w' := by
  obtain ⟨i0, hi, hz0, hz1, hz2⟩ := info_parts info64
  have h30 : xs.length ≤ 30 := by omega
  have hM : xs.length ≤ 1048576 := by omega
  obtain ⟨W, hW⟩ : ∃ W, W = w.alloc (.cells #[.bool false, .bool false, .bool false, .bool false, .bool false, .bool false, .bool false, .bool false, .bool false, .bool false, .bool false] 88) := ⟨_, rfl⟩
  have BB := Lib.hid (show Below w.heap.size w W by rw [hW]; exact (alloc_keep _ _).1)
  have ZZ := Lib.hid (show Zb W w.heap.size by rw [hW]; exact Zb.new w)
  have X := Lib.hid (h.keep BB.out (Nat.le_refl _))
  have HW := Lib.hid hW
  have b0 := BB.out.size
  clear h hW
  go_enter Try.func66, Try.ntmps66
  go_wp2_with (at_make; rw [← HW.out]; refine wpList_make_full _ rfl _ _ 60 rfl W.heap.size 2 i0 (.int .i64 0) 1 Try.underlying60 hi hz0 hz1 _ _ _ _ xs.length rfl rfl rfl rfl ?b2 ?b3 (Nat.le_refl _) ?_)
  case b2 => rw [hz2]; omega
  case b3 => unfold maxLen; omega
  intro w0 hown0 hgrow0
  rw [zL_rep] at hown0
  have ho0 : Own w0 W.heap.size (.slice (some ⟨W.heap.size, 0, none⟩) xs.length xs.length) (zL xs.length) := by unfold Own; rw [zL_len]; exact hown0
  have hbW : Below W.heap.size W w0 := (Below.refl _ _).grown hgrow0 (Nat.le_refl _) (fun k h => by cases h)
  obtain ⟨a0, c0, e0, hat0, -, -, -⟩ := ho0.at
  rw [zL_len] at hat0 e0
  cases e0
  have BB' := Lib.hid (BB.out.trans (hbW.mono BB.out.size)); clear BB; have BB := Lib.hid BB'.out; clear BB'
  have ZZ' := Lib.hid (ZZ.out.keep hbW); clear ZZ; have ZZ := Lib.hid ZZ'.out; clear ZZ'
  have X' := Lib.hid (X.out.keep hbW (Nat.le_refl _)); clear X; have X := Lib.hid X'.out; clear X'
  have NN := Lib.hid hat0
  clear hown0 hgrow0 ho0 hbW hat0 hi hz0 hz1 hz2
  go_wp2_with fail
  refine (reflexive_any (zL xs.length) _ _ _ _ h30 NN.out).mono ?_
  rintro e w1 ⟨v1, rfl, ho, hb⟩
  obtain ⟨a1, c1, ev, hat, -, -, -⟩ := (show Own w1 _ v1 (idL xs.length) from ho).at
  subst ev
  rw [idL_len] at hat
  rw [idL_len]
  have BB' := Lib.hid (BB.out.trans (hb.mono BB.out.size)); clear BB; have BB := Lib.hid BB'.out; clear BB'
  have ZZ' := Lib.hid (ZZ.out.keep hb); clear ZZ; have ZZ := Lib.hid ZZ'.out; clear ZZ'
  have X' := Lib.hid (X.out.keep hb (Nat.le_refl _)); clear X; have X := Lib.hid X'.out; clear X'
  have NN' := Lib.hid (NN.out.keep hb (Nat.le_refl _)); clear NN; have NN := Lib.hid NN'.out; clear NN'
  have ID := Lib.hid hat
  clear hat ho hb
  go_wp2_with fail
  refine (inverse_any xs _ _ _ _ h30 X.out).mono ?_
  rintro e w2 ⟨v2, rfl, ho, hb⟩
  obtain ⟨a2, c2, ev, hat, -, -, -⟩ := (show Own w2 _ v2 (bsL xs) from ho).at
  subst ev
  rw [bsL_len] at hat
  rw [bsL_len]
  have BB' := Lib.hid (BB.out.trans (hb.mono BB.out.size)); clear BB; have BB := Lib.hid BB'.out; clear BB'
  have ZZ' := Lib.hid (ZZ.out.keep hb); clear ZZ; have ZZ := Lib.hid ZZ'.out; clear ZZ'
  have X' := Lib.hid (X.out.keep hb (Nat.le_refl _)); clear X; have X := Lib.hid X'.out; clear X'
  have NN' := Lib.hid (NN.out.keep hb (Nat.le_refl _)); clear NN; have NN := Lib.hid NN'.out; clear NN'
  have ID' := Lib.hid (ID.out.keep hb (Nat.le_refl _)); clear ID; have ID := Lib.hid ID'.out; clear ID'
  have IV := Lib.hid hat
  clear hat ho hb
  go_wp2_with fail
  refine (then_any xs xs _ _ _ _ _ _ _ h30 h30 X.out X.out).mono ?_
  rintro e w3 ⟨v3, rfl, ho, hb⟩
  obtain ⟨a3, c3, ev, hat, -, -, -⟩ := (show Own w3 _ v3 (cpTo xs xs xs.length) from ho).at
  subst ev
  rw [cpTo_len] at hat
  rw [cpTo_len]
  have BB' := Lib.hid (BB.out.trans (hb.mono BB.out.size)); clear BB; have BB := Lib.hid BB'.out; clear BB'
  have ZZ' := Lib.hid (ZZ.out.keep hb); clear ZZ; have ZZ := Lib.hid ZZ'.out; clear ZZ'
  have X' := Lib.hid (X.out.keep hb (Nat.le_refl _)); clear X; have X := Lib.hid X'.out; clear X'
  have NN' := Lib.hid (NN.out.keep hb (Nat.le_refl _)); clear NN; have NN := Lib.hid NN'.out; clear NN'
  have ID' := Lib.hid (ID.out.keep hb (Nat.le_refl _)); clear ID; have ID := Lib.hid ID'.out; clear ID'
  have IV' := Lib.hid (IV.out.keep hb (Nat.le_refl _)); clear IV; have IV := Lib.hid IV'.out; clear IV'
  have TS := Lib.hid hat
  clear hat ho hb
  go_wp2_with fail
  refine (then_any (bsL xs) xs _ _ _ _ _ _ _ h30 h30 IV.out X.out).mono ?_
  rintro e w4 ⟨v4, rfl, ho, hb⟩
  obtain ⟨a4, c4, ev, hat, -, -, -⟩ := (show Own w4 _ v4 (sbL xs) from ho).at
  subst ev
  rw [sbL_len] at hat
  rw [sbL_len]
  have BB' := Lib.hid (BB.out.trans (hb.mono BB.out.size)); clear BB; have BB := Lib.hid BB'.out; clear BB'
  have ZZ' := Lib.hid (ZZ.out.keep hb); clear ZZ; have ZZ := Lib.hid ZZ'.out; clear ZZ'
  have X' := Lib.hid (X.out.keep hb (Nat.le_refl _)); clear X; have X := Lib.hid X'.out; clear X'
  have NN' := Lib.hid (NN.out.keep hb (Nat.le_refl _)); clear NN; have NN := Lib.hid NN'.out; clear NN'
  have ID' := Lib.hid (ID.out.keep hb (Nat.le_refl _)); clear ID; have ID := Lib.hid ID'.out; clear ID'
  have IV' := Lib.hid (IV.out.keep hb (Nat.le_refl _)); clear IV; have IV := Lib.hid IV'.out; clear IV'
  have TS' := Lib.hid (TS.out.keep hb (Nat.le_refl _)); clear TS; have TS := Lib.hid TS'.out; clear TS'
  have SB := Lib.hid hat
  clear hat ho hb
  go_wp2_with fail
  refine (isWithin_any (idL xs.length) xs xs.length _ _ _ _ _ hM ID.out X.out).mono ?_
  rintro e w' ⟨rfl, rfl⟩
  go_wp2_with fail
  refine (slContainsI_any xs 0 xs.length _ _ _ hM X.out).mono ?_
  rintro e w' ⟨rfl, rfl⟩
  go_wp2_with fail
  refine (isWithin_any (cpTo xs xs xs.length) xs xs.length _ _ _ _ _ hM TS.out X.out).mono ?_
  rintro e w' ⟨rfl, rfl⟩
  go_wp2_with fail
  refine (isWithin_any (bsL xs) xs xs.length _ _ _ _ _ hM IV.out X.out).mono ?_
  rintro e w' ⟨rfl, rfl⟩
  go_wp2_with fail
  refine (isWithin_any (sbL xs) xs xs.length _ _ _ _ _ hM SB.out X.out).mono ?_
  rintro e w' ⟨rfl, rfl⟩
  go_wp2_with fail
  refine (then_any xs (bsL xs) _ _ _ _ _ _ _ h30 h30 X.out IV.out).mono ?_
  rintro e w5 ⟨v5, rfl, ho, hb⟩
  obtain ⟨a5, c5, ev, hat, -, -, -⟩ := (show Own w5 _ v5 (cpTo xs (bsL xs) xs.length) from ho).at
  subst ev
  rw [cpTo_len] at hat
  rw [cpTo_len]
  have BB' := Lib.hid (BB.out.trans (hb.mono BB.out.size)); clear BB; have BB := Lib.hid BB'.out; clear BB'
  have ZZ' := Lib.hid (ZZ.out.keep hb); clear ZZ; have ZZ := Lib.hid ZZ'.out; clear ZZ'
  have X' := Lib.hid (X.out.keep hb (Nat.le_refl _)); clear X; have X := Lib.hid X'.out; clear X'
  have NN' := Lib.hid (NN.out.keep hb (Nat.le_refl _)); clear NN; have NN := Lib.hid NN'.out; clear NN'
  have ID' := Lib.hid (ID.out.keep hb (Nat.le_refl _)); clear ID; have ID := Lib.hid ID'.out; clear ID'
  have IV' := Lib.hid (IV.out.keep hb (Nat.le_refl _)); clear IV; have IV := Lib.hid IV'.out; clear IV'
  have TS' := Lib.hid (TS.out.keep hb (Nat.le_refl _)); clear TS; have TS := Lib.hid TS'.out; clear TS'
  have SB' := Lib.hid (SB.out.keep hb (Nat.le_refl _)); clear SB; have SB := Lib.hid SB'.out; clear SB'
  have XI := Lib.hid hat
  clear hat ho hb
  go_wp2_with fail
  refine (isWithin_any (sbL xs) (cpTo xs (bsL xs) xs.length) xs.length _ _ _ _ _ hM SB.out XI.out).mono ?_
  rintro e w' ⟨rfl, rfl⟩
  go_wp2_with fail
  refine (union_any xs (bsL xs) xs.length _ _ _ _ _ h30 X.out IV.out).mono ?_
  rintro e w6 ⟨v6, rfl, ho, hb⟩
  obtain ⟨a6, c6, ev, hat, -, -, -⟩ := (show Own w6 _ v6 (opL .or xs (bsL xs) xs.length) from ho).at
  subst ev
  rw [opL_len] at hat
  rw [opL_len]
  have BB' := Lib.hid (BB.out.trans (hb.mono BB.out.size)); clear BB; have BB := Lib.hid BB'.out; clear BB'
  have ZZ' := Lib.hid (ZZ.out.keep hb); clear ZZ; have ZZ := Lib.hid ZZ'.out; clear ZZ'
  have X' := Lib.hid (X.out.keep hb (Nat.le_refl _)); clear X; have X := Lib.hid X'.out; clear X'
  have NN' := Lib.hid (NN.out.keep hb (Nat.le_refl _)); clear NN; have NN := Lib.hid NN'.out; clear NN'
  have ID' := Lib.hid (ID.out.keep hb (Nat.le_refl _)); clear ID; have ID := Lib.hid ID'.out; clear ID'
  have IV' := Lib.hid (IV.out.keep hb (Nat.le_refl _)); clear IV; have IV := Lib.hid IV'.out; clear IV'
  have TS' := Lib.hid (TS.out.keep hb (Nat.le_refl _)); clear TS; have TS := Lib.hid TS'.out; clear TS'
  have SB' := Lib.hid (SB.out.keep hb (Nat.le_refl _)); clear SB; have SB := Lib.hid SB'.out; clear SB'
  have XI' := Lib.hid (XI.out.keep hb (Nat.le_refl _)); clear XI; have XI := Lib.hid XI'.out; clear XI'
  have UN := Lib.hid hat
  clear hat ho hb
  go_wp2_with fail
  refine (isWithin_any (sbL xs) (opL .or xs (bsL xs) xs.length) xs.length _ _ _ _ _ hM SB.out UN.out).mono ?_
  rintro e w' ⟨rfl, rfl⟩
  go_wp2_with fail
  refine (transitive_any xs _ _ _ _ h30 X.out).mono ?_
  rintro e w7 ⟨v7, rfl, ho, hb⟩
  obtain ⟨a7, c7, ev, hat, -, -, -⟩ := (show Own w7 _ v7 (csL xs) from ho).at
  subst ev
  rw [csL_len] at hat
  rw [csL_len]
  have BB' := Lib.hid (BB.out.trans (hb.mono BB.out.size)); clear BB; have BB := Lib.hid BB'.out; clear BB'
  have ZZ' := Lib.hid (ZZ.out.keep hb); clear ZZ; have ZZ := Lib.hid ZZ'.out; clear ZZ'
  have X' := Lib.hid (X.out.keep hb (Nat.le_refl _)); clear X; have X := Lib.hid X'.out; clear X'
  have NN' := Lib.hid (NN.out.keep hb (Nat.le_refl _)); clear NN; have NN := Lib.hid NN'.out; clear NN'
  have ID' := Lib.hid (ID.out.keep hb (Nat.le_refl _)); clear ID; have ID := Lib.hid ID'.out; clear ID'
  have IV' := Lib.hid (IV.out.keep hb (Nat.le_refl _)); clear IV; have IV := Lib.hid IV'.out; clear IV'
  have TS' := Lib.hid (TS.out.keep hb (Nat.le_refl _)); clear TS; have TS := Lib.hid TS'.out; clear TS'
  have SB' := Lib.hid (SB.out.keep hb (Nat.le_refl _)); clear SB; have SB := Lib.hid SB'.out; clear SB'
  have XI' := Lib.hid (XI.out.keep hb (Nat.le_refl _)); clear XI; have XI := Lib.hid XI'.out; clear XI'
  have UN' := Lib.hid (UN.out.keep hb (Nat.le_refl _)); clear UN; have UN := Lib.hid UN'.out; clear UN'
  have CS := Lib.hid hat
  clear hat ho hb
  go_wp2_with fail
  refine (common_any (csL xs) (idL xs.length) xs.length _ _ _ _ _ h30 CS.out ID.out).mono ?_
  rintro e w8 ⟨v8, rfl, ho, hb⟩
  obtain ⟨a8, c8, ev, hat, -, -, -⟩ := (show Own w8 _ v8 (opL .and (csL xs) (idL xs.length) xs.length) from ho).at
  subst ev
  rw [opL_len] at hat
  rw [opL_len]
  have BB' := Lib.hid (BB.out.trans (hb.mono BB.out.size)); clear BB; have BB := Lib.hid BB'.out; clear BB'
  have ZZ' := Lib.hid (ZZ.out.keep hb); clear ZZ; have ZZ := Lib.hid ZZ'.out; clear ZZ'
  have X' := Lib.hid (X.out.keep hb (Nat.le_refl _)); clear X; have X := Lib.hid X'.out; clear X'
  have NN' := Lib.hid (NN.out.keep hb (Nat.le_refl _)); clear NN; have NN := Lib.hid NN'.out; clear NN'
  have ID' := Lib.hid (ID.out.keep hb (Nat.le_refl _)); clear ID; have ID := Lib.hid ID'.out; clear ID'
  have IV' := Lib.hid (IV.out.keep hb (Nat.le_refl _)); clear IV; have IV := Lib.hid IV'.out; clear IV'
  have TS' := Lib.hid (TS.out.keep hb (Nat.le_refl _)); clear TS; have TS := Lib.hid TS'.out; clear TS'
  have SB' := Lib.hid (SB.out.keep hb (Nat.le_refl _)); clear SB; have SB := Lib.hid SB'.out; clear SB'
  have XI' := Lib.hid (XI.out.keep hb (Nat.le_refl _)); clear XI; have XI := Lib.hid XI'.out; clear XI'
  have UN' := Lib.hid (UN.out.keep hb (Nat.le_refl _)); clear UN; have UN := Lib.hid UN'.out; clear UN'
  have CS' := Lib.hid (CS.out.keep hb (Nat.le_refl _)); clear CS; have CS := Lib.hid CS'.out; clear CS'
  have CI := Lib.hid hat
  clear hat ho hb
  go_wp2_with fail
  refine (isWithin_any (opL .and (csL xs) (idL xs.length) xs.length) (zL xs.length) xs.length _ _ _ _ _ hM CI.out NN.out).mono ?_
  rintro e w' ⟨rfl, rfl⟩
  go_wp2_with fail
  refine (common_any xs (bsL xs) xs.length _ _ _ _ _ h30 X.out IV.out).mono ?_
  rintro e w9 ⟨v9, rfl, ho, hb⟩
  obtain ⟨a9, c9, ev, hat, -, -, -⟩ := (show Own w9 _ v9 (opL .and xs (bsL xs) xs.length) from ho).at
  subst ev
  rw [opL_len] at hat
  rw [opL_len]
  have BB' := Lib.hid (BB.out.trans (hb.mono BB.out.size)); clear BB; have BB := Lib.hid BB'.out; clear BB'
  have ZZ' := Lib.hid (ZZ.out.keep hb); clear ZZ; have ZZ := Lib.hid ZZ'.out; clear ZZ'
  have X' := Lib.hid (X.out.keep hb (Nat.le_refl _)); clear X; have X := Lib.hid X'.out; clear X'
  have NN' := Lib.hid (NN.out.keep hb (Nat.le_refl _)); clear NN; have NN := Lib.hid NN'.out; clear NN'
  have ID' := Lib.hid (ID.out.keep hb (Nat.le_refl _)); clear ID; have ID := Lib.hid ID'.out; clear ID'
  have IV' := Lib.hid (IV.out.keep hb (Nat.le_refl _)); clear IV; have IV := Lib.hid IV'.out; clear IV'
  have TS' := Lib.hid (TS.out.keep hb (Nat.le_refl _)); clear TS; have TS := Lib.hid TS'.out; clear TS'
  have SB' := Lib.hid (SB.out.keep hb (Nat.le_refl _)); clear SB; have SB := Lib.hid SB'.out; clear SB'
  have XI' := Lib.hid (XI.out.keep hb (Nat.le_refl _)); clear XI; have XI := Lib.hid XI'.out; clear XI'
  have UN' := Lib.hid (UN.out.keep hb (Nat.le_refl _)); clear UN; have UN := Lib.hid UN'.out; clear UN'
  have CS' := Lib.hid (CS.out.keep hb (Nat.le_refl _)); clear CS; have CS := Lib.hid CS'.out; clear CS'
  have CI' := Lib.hid (CI.out.keep hb (Nat.le_refl _)); clear CI; have CI := Lib.hid CI'.out; clear CI'
  have CO := Lib.hid hat
  clear hat ho hb
  go_wp2_with fail
  refine (isWithin_any (opL .and xs (bsL xs) xs.length) (idL xs.length) xs.length _ _ _ _ _ hM CO.out ID.out).mono ?_
  rintro e w' ⟨rfl, rfl⟩
  go_wp2_with fail
  refine (isWithin_any xs (cpTo xs xs xs.length) xs.length _ _ _ _ _ hM X.out TS.out).mono ?_
  rintro e w' ⟨rfl, rfl⟩
  go_wp2_with fail
  refine (isWithin_any (sbL xs) (idL xs.length) xs.length _ _ _ _ _ hM SB.out ID.out).mono ?_
  rintro e w' ⟨rfl, rfl⟩
  obtain ⟨lz, zc, zf⟩ := ZZ.out
  have zc0 := zc 0 (by decide); have zc1 := zc 1 (by decide); have zc2 := zc 2 (by decide); have zc3 := zc 3 (by decide); have zc4 := zc 4 (by decide); have zc5 := zc 5 (by decide); have zc6 := zc 6 (by decide); have zc7 := zc 7 (by decide); have zc8 := zc 8 (by decide); have zc9 := zc 9 (by decide); have zc10 := zc 10 (by decide)
  have zf0 := zf 0 (by decide); have zf1 := zf 1 (by decide); have zf2 := zf 2 (by decide); have zf3 := zf 3 (by decide); have zf4 := zf 4 (by decide); have zf5 := zf 5 (by decide); have zf6 := zf 6 (by decide); have zf7 := zf 7 (by decide); have zf8 := zf 8 (by decide); have zf9 := zf 9 (by decide); have zf10 := zf 10 (by decide)
  clear zc zf
  go_wp2
  exact bodyPost_ret (v := .agg #[.bool (wiB (idL xs.length) xs xs.length), .bool (allTo (fun i => !((0 : Int) == nth xs i)) xs.length), .bool (wiB (cpTo xs xs xs.length) xs xs.length), .bool (wiB (bsL xs) xs xs.length), .bool (wiB (sbL xs) xs xs.length), .bool (wiB (sbL xs) (cpTo xs (bsL xs) xs.length) xs.length), .bool (wiB (sbL xs) (opL .or xs (bsL xs) xs.length) xs.length), .bool (wiB (opL .and (csL xs) (idL xs.length) xs.length) (zL xs.length) xs.length), .bool (wiB (opL .and xs (bsL xs) xs.length) (idL xs.length) xs.length), .bool (wiB xs (cpTo xs xs xs.length) xs.length), .bool (wiB (sbL xs) (idL xs.length) xs.length)]) (by simp [results, Try.results66, go_sem, zc0, zc1, zc2, zc3, zc4, zc5, zc6, zc7, zc8, zc9, zc10]) rfl ⟨rfl, (Below.setCell (p := ⟨w.heap.size, 10, none⟩) (Below.setCell (p := ⟨w.heap.size, 9, none⟩) (Below.setCell (p := ⟨w.heap.size, 8, none⟩) (Below.setCell (p := ⟨w.heap.size, 7, none⟩) (Below.setCell (p := ⟨w.heap.size, 6, none⟩) (Below.setCell (p := ⟨w.heap.size, 5, none⟩) (Below.setCell (p := ⟨w.heap.size, 4, none⟩) (Below.setCell (p := ⟨w.heap.size, 3, none⟩) (Below.setCell (p := ⟨w.heap.size, 2, none⟩) (Below.setCell (p := ⟨w.heap.size, 1, none⟩) (Below.setCell (p := ⟨w.heap.size, 0, none⟩) BB.out (Nat.le_refl _) _) (Nat.le_refl _) _) (Nat.le_refl _) _) (Nat.le_refl _) _) (Nat.le_refl _) _) (Nat.le_refl _) _) (Nat.le_refl _) _) (Nat.le_refl _) _) (Nat.le_refl _) _) (Nat.le_refl _) _) (Nat.le_refl _) _)⟩

end Go.Proofs.Ytbaeacppojpplaa
