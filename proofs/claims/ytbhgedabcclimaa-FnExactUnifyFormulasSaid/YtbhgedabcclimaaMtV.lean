/- Contracts of the program's variableImages and MatchFormula, at every argument. Conditions: those in the theorems. -/
import Derived.Test.YtbhgedabcclimaaMtP
namespace Go.Proofs.Ytbhgedabcclimaa
open Go.RowKit

set_option maxHeartbeats 1000000 in
theorem varImages_any (w : World) : Calls Try.prog 75 #[] w fun e w' => ∃ v, e = .returned v ∧ OwnL w' w.heap.size v (selfTo 6) ∧ Below w.heap.size w w' := by
  obtain ⟨i0, hinf, hz0, hz1, hz2⟩ := info_parts infoNN
  go_enter Try.func75, Try.ntmps75
  go_wp2_with (at_make; refine wpList_make_own _ rfl _ _ 30 rfl w.heap.size 26 i0 (.slice none 0 0) 1 Try.underlying30 hinf hz0 hz1 _ _ 6 6 rfl rfl rfl ?b2 ?b3 (Nat.le_refl _) ?_)
  case b2 => rw [hz2]; omega
  case b3 => unfold maxLen; omega
  intro w0 hown0 hgrow0
  have L0 : Hid (OwnL w0 w.heap.size _ (selfTo 0)) := ownL_row hown0
  have B0 := Lib.hid ((Below.refl w.heap.size w).grown hgrow0 (Nat.le_refl _) (fun k h => by cases h))
  clear hown0 hinf hz0 hz1 hz2 hgrow0
  go_wp2
  go_loopw [1, 4] (fun v i wr => ∃ j : Nat, j ≤ 6 ∧ i = .int .i64 j ∧ OwnL wr w.heap.size v (selfTo j) ∧ Below w.heap.size w wr) (fun _ i _ => 6 - (intOf i).toNat)
  case atStart => exact ⟨0, Nat.zero_le _, rfl, L0.out, B0.out⟩
  case round =>
    obtain ⟨k, hk, rfl, hown, hbel⟩ := hrel
    have HO := Lib.hid hown
    have B := Lib.hid hbel
    have LN := Lib.hid (selfTo_len k)
    clear hown hbel
    by_cases hlt : k < 6
    · have N := Lib.hid (selfTo_succ k)
      go_wp2_with fail
      refine (variableNodes_any _ _).mono ?_
      rintro e w1 ⟨rfl, -, ho1, hb1⟩
      have O1 := Lib.hid ho1
      have B1 := Lib.hid hb1
      clear ho1 hb1
      go_wp2_with (at_builtin; refine list_appLL rfl _ _ rfl w.heap.size _ _ rfl HO.out B1.out _ _ O1.out ((Below.refl _ _).alloc (Nat.le_refl _) _) ⟨w1.heap.size, 0, none⟩ 1 rfl (World.cell?_alloc_at _ _ _ _ rfl) (by rw [LN.out]; omega) B.out.size ?_; intro v2 w2 ho2 hb2)
      have O2 := Lib.hid ho2
      have B2 := Lib.hid (B.out.trans hb2)
      clear ho2 hb2
      go_roundw
      case rel => exact ⟨k + 1, hlt, by go_num, by rw [N.out]; exact O2.out, B2.out⟩
      case measure => simp [intOf]; omega
    · obtain rfl : k = 6 := by omega
      go_wp2
      go_ret
      exact ⟨_, rfl, HO.out, B.out⟩

def fillTo (ps : List (List Nd)) (k : Nat) : List (List Nd) := (List.range 6).map fun (v : Nat) => if v < k ∧ nthL ps v ≠ [] then nthL ps v else [((0 : Int), (v : Int))]
theorem fillTo_len (ps : List (List Nd)) (k : Nat) : (fillTo ps k).length = 6 := by simp [fillTo]
theorem fillTo_at {ps : List (List Nd)} {k j : Nat} (h : j < 6) : nthL (fillTo ps k) j = if j < k ∧ nthL ps j ≠ [] then nthL ps j else [((0 : Int), (j : Int))] := by
  show (fillTo ps k).getD j [] = _
  unfold fillTo
  simp [List.getD_eq_getElem?_getD, h]
theorem fillTo_zero (ps : List (List Nd)) : fillTo ps 0 = selfTo 6 := by
  refine list_ext_nn (by rw [fillTo_len, selfTo_len]) (fun j hj => ?_)
  rw [fillTo_len] at hj
  rw [fillTo_at hj, if_neg (by omega), selfTo_at hj]
theorem fillTo_all (ps : List (List Nd)) : fillTo ps 6 = fill ps := by
  refine list_ext_nn (by rw [fillTo_len, fill_len]) (fun j hj => ?_)
  rw [fillTo_len] at hj
  rw [fillTo_at hj, fill_at hj]
  by_cases h : nthL ps j = []
  · rw [if_neg (fun hh => hh.2 h), if_pos h]
  · rw [if_pos ⟨hj, h⟩, if_neg h]
theorem fillTo_no {ps : List (List Nd)} {k : Nat} (h : nthL ps k = []) : fillTo ps (k + 1) = fillTo ps k := by
  refine list_ext_nn (by rw [fillTo_len, fillTo_len]) (fun j hj => ?_)
  rw [fillTo_len] at hj
  rw [fillTo_at hj, fillTo_at hj]
  by_cases e : j = k
  · subst e
    rw [if_neg (fun hh => hh.2 h), if_neg (fun hh => hh.2 h)]
  · by_cases h2 : j < k ∧ nthL ps j ≠ []
    · rw [if_pos h2, if_pos ⟨by omega, h2.2⟩]
    · rw [if_neg h2, if_neg (fun hh => h2 ⟨by omega, hh.2⟩)]
theorem fillTo_put {ps : List (List Nd)} {k : Nat} (hk : k < 6) (h : nthL ps k ≠ []) : fillTo ps (k + 1) = (fillTo ps k).set k (nthL ps k) := by
  refine list_ext_nn (by rw [fillTo_len, List.length_set, fillTo_len]) (fun j hj => ?_)
  rw [fillTo_len] at hj
  rw [fillTo_at hj, nthL_set (by rw [fillTo_len]; exact hk), fillTo_at hj]
  by_cases e : j = k
  · subst e
    rw [if_pos ⟨by omega, h⟩, if_pos rfl]
  · rw [if_neg e]
    by_cases h2 : j < k ∧ nthL ps j ≠ []
    · rw [if_pos h2, if_pos ⟨by omega, h2.2⟩]
    · rw [if_neg h2, if_neg (fun hh => h2 ⟨by omega, hh.2⟩)]

set_option maxHeartbeats 4000000 in
theorem implMatchFormula_g (x0 x1 : List Nd) (a : Option Addr) (cap : Nat) (a' : Option Addr) (cap' : Nat) (w : World) (hl : x0.length ≤ 1048576) (hl' : x1.length ≤ 1048576) (hat : AtN w a x0.length x0) (hat' : AtN w a' x1.length x1) (hca : x1.length ≤ cap') (hcb : cap' ≤ maxLen) :
    Calls Try.prog 32 #[.slice a x0.length cap, .slice a' x1.length cap'] w fun e w' => ∃ v', e = .returned (.tuple #[v', .int .i64 (mtC x0 x1)]) ∧ OwnL w' w.heap.size v' (mtR x0 x1) ∧ Below w.heap.size w w' := by
  have H := Lib.hid hat
  have H' := Lib.hid hat'
  clear hat hat'
  unfold maxLen at hcb
  have CN := areF2_any x0 x1 a a' x0.length cap x1.length cap' w.heap.size w hl hl' H.out H'.out 26 rfl
  cases hb : (isB x0 x0.length && isB x1 x1.length)
  · obtain ⟨e1, e2⟩ := mtR_bad hb
    rw [e1, e2]
    rw [hb] at CN
    have C := Lib.hid CN
    clear hb e1 e2 CN
    go_enter Try.func32, Try.ntmps32
    go_wp2_with fail
    refine C.out.mono ?_
    rintro e w1 ⟨rfl, hb1⟩
    go_wp2
    go_ret2
    exact ⟨_, rfl, ownL_nil _ _, hb1⟩
  · have hbb : isB x0 x0.length = true ∧ isB x1 x1.length = true := by simpa using hb
    rw [hb] at CN
    have C := Lib.hid CN
    have RB := Lib.hid hb
    have HB := Lib.hid hbb.1
    have HB' := Lib.hid hbb.2
    clear hb hbb CN
    have qT : ∀ (w : World) (a : Option Addr) (n c n' c' : Nat), (binOp .neq 26 (.slice a n c) (.slice none n' c')).run Try.prog w = .ok (.bool (!a.isNone)) w := fun w a n c n' c' => run_neq_slice_nil_any w _ _ a n c n' c' Try.underlying26
    cases hm : mtB x0 x1
    · obtain ⟨e1, e2⟩ := mtR_of RB.out
      rw [mtL_false hm] at e1
      rw [hm] at e2
      have E1 := Lib.hid e1
      have E2 := Lib.hid (show mtC x0 x1 = 4 from e2)
      have M := Lib.hid hm
      clear hm e1 e2 qT
      go_enter Try.func32, Try.ntmps32
      go_wp2_with fail
      refine C.out.mono ?_
      rintro e w1 ⟨rfl, hb1⟩
      have B1 := Lib.hid hb1
      clear hb1
      go_wp2_with fail
      refine (matchParts_any x0 x1 _ _ _ _ _ HB.out HB'.out hca (by omega) (H.out.keep B1.out (Nat.le_refl _)) (H'.out.keep B1.out (Nat.le_refl _))).mono ?_
      rw [M.out]
      rintro e w2 ⟨v2, rfl, -, hb2⟩
      have B2 := Lib.hid (B1.out.trans (hb2.mono B1.out.size))
      clear hb2
      go_wp2
      go_ret2
      exact ⟨.slice none 0 0, (by rw [E2.out] <;> rfl), by rw [E1.out]; exact ownL_nil _ _, B2.out⟩
    · have M := Lib.hid hm
      clear hm
      go_enter Try.func32, Try.ntmps32
      go_wp2_with fail
      refine C.out.mono ?_
      rintro e w1 ⟨rfl, hb1⟩
      have B1 := Lib.hid hb1
      clear hb1
      go_wp2_with fail
      refine (matchParts_any x0 x1 _ _ _ _ _ HB.out HB'.out hca (by omega) (H.out.keep B1.out (Nat.le_refl _)) (H'.out.keep B1.out (Nat.le_refl _))).mono ?_
      rw [M.out]
      rintro e w2 ⟨v2, rfl, hf, hb2⟩
      obtain ⟨g, us, i, ps, o, rfl, hto, hmt, hrow, hpa⟩ := hf rfl
      have B2 := Lib.hid (B1.out.trans (hb2.mono B1.out.size))
      have HB2 := Lib.hid hb2
      have E := Lib.hid (mtR_yes RB.out hto)
      have MT := Lib.hid hmt
      have ROW := Lib.hid hrow
      have PA := Lib.hid hpa
      have ul : us.length = 6 := by have := hrow.1; omega
      clear hb2 hf hto hmt hrow hpa
      go_wp2_with fail
      refine (varImages_any _).mono ?_
      rintro e w3 ⟨v3, rfl, ho3, hb3⟩
      obtain ⟨g3, c3, rfl, -⟩ := ho3.img six_self
      have O3 := Lib.hid (show OwnL w3 w2.heap.size (.slice (some ⟨g3, 0, none⟩) 6 c3) (fillTo ps 0) by rw [fillTo_zero]; exact ho3)
      have B3 := Lib.hid hb3
      clear ho3 hb3
      go_wp2
      go_loopw [27] (fun vi wr => ∃ j : Nat, j ≤ 6 ∧ vi = .int .i64 j ∧ OwnL wr w2.heap.size (.slice (some ⟨g3, 0, none⟩) 6 c3) (fillTo ps j) ∧ Below w2.heap.size w2 wr) (fun vi _ => 6 - (intOf vi).toNat)
      case atStart => exact ⟨0, Nat.zero_le _, rfl, O3.out, B3.out⟩
      case round =>
        obtain ⟨j, hj, rfl, hol, hbel⟩ := hrel
        have O := Lib.hid hol
        have B := Lib.hid hbel
        clear hol hbel
        by_cases hlt : j < 6
        · have RW := ownsRow_below ROW.out (row_lt ROW.out) B.out
          have kc := (World.ownsRow.cellAt RW j (by omega)).trans (atV_some (by omega))
          clear RW
          rcases PA.out j (by omega) with ⟨hps, hus⟩ | ⟨hps, bq, oq, cq, hus, hatq⟩
          · rw [hus] at kc
            have N := Lib.hid (fillTo_no hps)
            clear hps hus
            go_wp2
            go_roundw
            case rel => exact ⟨j + 1, hlt, by go_num, by rw [N.out]; exact O.out, B.out⟩
            case measure => simp [intOf]; omega
          · rw [hus] at kc
            have N := Lib.hid (fillTo_put hlt hps)
            have nq40 : (nthL ps j).length ≤ 40 := by
              rcases MT.out.ok j (by omega) with h1 | h1
              · exact absurd h1 hps
              · exact (is_pos' h1).2
            obtain ⟨nq, hnq⟩ : ∃ n, n = (nthL ps j).length := ⟨_, rfl⟩
            rw [← hnq] at kc hatq nq40
            have AQ := Lib.hid ((hatq.keep HB2.out (Nat.le_refl _)).keep B.out (Nat.le_refl _))
            clear hps hus hnq hatq
            go_wp2_with fail
            refine (slClone1_any (nthL ps j) _ _ nq _ _ (by omega) AQ.out).mono ?_
            rintro e w4 ⟨v4, rfl, ho4, hb4⟩
            obtain ⟨s1, s2, ⟨u, s3⟩, s4⟩ := O.out.set (fillTo_len ps j).symm hlt hb4 ho4 B.out.size
            have S1 := Lib.hid s1
            have S2 := Lib.hid (B.out.trans s2)
            obtain ⟨a4, c4, rfl, -⟩ := ho4.at
            clear s1 s2 ho4 hb4
            go_wp2
            go_roundw
            case rel => exact ⟨j + 1, hlt, by go_num, by rw [N.out]; exact S1.out, S2.out⟩
            case measure => simp [intOf]; omega
        · obtain rfl : j = 6 := by omega
          go_wp2
          go_ret2
          refine ⟨_, (by rw [E.out.2] <;> rfl), ?_, B2.out.trans (B.out.mono B2.out.size)⟩
          rw [E.out.1, ← fillTo_all]
          exact O.out.mono B2.out.size

theorem implMatchFormula_v (x0 x1 : List Nd) (v : Value) (lo hi : Nat) (u : Value) (lo' hi' : Nat) (w : World) (hl : x0.length ≤ 1048576) (hl' : x1.length ≤ 1048576) (h : InN w lo hi v x0) (h' : InN w lo' hi' u x1) :
    Calls Try.prog 32 #[v, u] w fun e w' => ∃ v', e = .returned (.tuple #[v', .int .i64 (mtC x0 x1)]) ∧ OwnL w' w.heap.size v' (mtR x0 x1) ∧ Below w.heap.size w w' := by
  obtain ⟨a, cap, rfl, hat⟩ := h.at
  obtain ⟨a', cap', rfl, hat', hca, hcb⟩ := h'.at'
  exact implMatchFormula_g x0 x1 a cap a' cap' w hl hl' hat hat' hca hcb

end Go.Proofs.Ytbhgedabcclimaa
