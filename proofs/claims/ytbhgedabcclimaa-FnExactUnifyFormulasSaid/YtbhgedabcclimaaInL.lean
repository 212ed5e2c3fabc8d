/- Lists of lists of nodes that a call owns: compare, mark and held over them. Conditions: those in the theorems. -/
import Derived.Test.YtbhgedabcclimaaOwnL
import Derived.Test.YtbhgedabcclimaaNNo
namespace Go.Proofs.Ytbhgedabcclimaa
open Go.RowKit

/-- The slice value v is the call's own, its blocks lie in lo .. hi - 1, no two of its lists share one, and it holds the lists xss. -/
def InL (w : World) (lo hi : Nat) (v : Value) (xss : List (List Nd)) : Prop :=
  ∃ us : List Value, w.ownsRow lo 26 1 v xss.length us ∧ (∀ j, j < xss.length → OwnN w lo (atV us j) (nthL xss j)) ∧
    (∀ i j, i < j → j < xss.length → ∀ k, (atV us i).ownBlock = some k → (atV us j).ownBlock ≠ some k) ∧ hi ≤ w.heap.size ∧
    (∀ k, v.ownBlock = some k → k < hi) ∧ ∀ j, j < xss.length → ∀ k, (atV us j).ownBlock = some k → k < hi
theorem OwnL.inl {w : World} {lo : Nat} {v : Value} {xss : List (List Nd)} (h : OwnL w lo v xss) : InL w lo w.heap.size v xss := by
  obtain ⟨us, h1, h2, h3⟩ := h
  exact ⟨us, h1, h2, h3, Nat.le_refl _, row_lt h1, fun j hj => row_lt (h2 j hj)⟩
theorem InL.hi {w : World} {lo hi : Nat} {v : Value} {xss : List (List Nd)} (h : InL w lo hi v xss) : hi ≤ w.heap.size := by
  obtain ⟨us, h1, h2, h3, h4, h5, h6⟩ := h
  exact h4
theorem InL.below {w w' : World} {lo hi C : Nat} {v : Value} {xss : List (List Nd)} (h : InL w lo hi v xss) (hb : Below C w w') (hC : hi ≤ C) : InL w' lo hi v xss := by
  obtain ⟨us, h1, h2, h3, h4, h5, h6⟩ := h
  exact ⟨us, ownsRow_below h1 (fun k hk => Nat.lt_of_lt_of_le (h5 k hk) hC) hb, fun j hj => ownsRow_below (h2 j hj) (fun k hk => Nat.lt_of_lt_of_le (h6 j hj k hk) hC) hb, h3, Nat.le_trans h4 hb.size, h5, h6⟩
theorem InL.within {w w' : World} {lo hi lo' hi' : Nat} {v : Value} {xss : List (List Nd)} (h : InL w lo hi v xss) (hw : Within lo' hi' w w') (hd : hi ≤ lo' ∨ hi' ≤ lo) : InL w' lo hi v xss := by
  obtain ⟨us, h1, h2, h3, h4, h5, h6⟩ := h
  exact ⟨us, row_within h1 (fun k hk => ⟨(row_type h1 k hk).1, h5 k hk⟩) hw hd, fun j hj => row_within (h2 j hj) (fun k hk => ⟨(row_type (h2 j hj) k hk).1, h6 j hj k hk⟩) hw hd, h3, Nat.le_trans h4 hw.size, h5, h6⟩
theorem InL.other {w w' : World} {lo hi lo' hi' : Nat} {v u : Value} {xss : List (List Nd)} (h : InL w lo hi v xss) (hu : ∀ k, u.ownBlock = some k → lo' ≤ k ∧ k < hi') (hg : w.grownBy w' u.ownBlock) (hd : hi ≤ lo' ∨ hi' ≤ lo) : InL w' lo hi v xss :=
  h.within ((Within.refl lo' hi' w).grown hg hu) hd
theorem InL.ownL {w : World} {lo hi : Nat} {v : Value} {xss : List (List Nd)} (h : InL w lo hi v xss) : OwnL w lo v xss := by
  obtain ⟨us, h1, h2, h3, -⟩ := h
  exact ⟨us, h1, h2, h3⟩
theorem InL.at {w : World} {lo hi : Nat} {v : Value} {xss : List (List Nd)} (h : InL w lo hi v xss) : ∃ a cap, v = .slice a xss.length cap ∧ AtNN w a xss.length xss := h.ownL.at

theorem eqL_in (xss : List (List Nd)) (v v' : Value) (lo hi lo' hi' : Nat) (w : World) (hl : xss.length ≤ 1048576) (hn : ∀ j, j < xss.length → (nthL xss j).length ≤ 1048576) (h : InL w lo hi v xss) (h' : InL w lo' hi' v' xss) :
    Calls Try.prog 22 #[v, v'] w fun e w' => e = .returned (.bool true) ∧ Below w.heap.size w w' := by
  obtain ⟨a, c, rfl, h1⟩ := h.at
  obtain ⟨a', c', rfl, h2⟩ := h'.at
  exact eqNodeSS_any xss a a' xss.length c c' w hl hn h1 h2

/-- The j-th list, marked. -/
def mkA (n : Int) (xss : List (List Nd)) (j : Nat) : List Nd := mkN (n + 2 * (szTo xss j : Int)) (nthL xss j).length
def mkNN (n : Int) (xss : List (List Nd)) : List (List Nd) := (List.range xss.length).map (mkA n xss)
theorem mkNN_len (n : Int) (xss : List (List Nd)) : (mkNN n xss).length = xss.length := by simp [mkNN]
theorem mkNN_at {n : Int} {xss : List (List Nd)} {j : Nat} (h : j < xss.length) : nthL (mkNN n xss) j = mkA n xss j := by
  unfold nthL mkNN
  simp [List.getD_eq_getElem?_getD, h]
theorem mkA_len (n : Int) (xss : List (List Nd)) (j : Nat) : (mkA n xss j).length = (nthL xss j).length := mkN_len _ _

set_option maxHeartbeats 2000000 in
theorem markL_in (xss : List (List Nd)) (v : Value) (lo hi : Nat) (n : Int) (w : World) (hl : xss.length ≤ 1048576) (hsz : szTo xss xss.length ≤ 1048576) (hn : 0 ≤ n) (hn2 : n ≤ 1073741824) (h : InL w lo hi v xss) :
    Calls Try.prog 24 #[v, .int .i64 n] w fun e w' => e = .returned (.int .i64 (n + 2 * (szTo xss xss.length : Int))) ∧ InL w' lo hi v (mkNN n xss) ∧ Within lo hi w w' := by
  obtain ⟨us, h1, h2, h3, h4, h5, h6⟩ := h
  have hul := h1.1
  obtain ⟨aa, cap, rfl⟩ := row_slice h1
  obtain ⟨len, hlen⟩ : ∃ len, len = xss.length := ⟨_, rfl⟩
  have X := Lib.hid hlen
  rw [← hlen] at h1 h2 h3 h6 hul hl hsz ⊢
  have S := Lib.hid hsz
  have D := Lib.hid h3
  have V := Lib.hid h5
  have U := Lib.hid h6
  have H1 := Lib.hid h1
  have H2 := Lib.hid (show ∀ j, 0 ≤ j → j < len → OwnN w lo (atV us j) (nthL xss j) from fun j _ hj => h2 j hj)
  have H0 := Lib.hid (show ∀ j, j < 0 → OwnN w lo (atV us j) (mkA n xss j) from fun j hj => absurd hj (by omega))
  have LI := Lib.hid (show ∀ j, j < len → (nthL xss j).length ≤ 1048576 from fun j hj => by
    have a1 := szTo_mono xss (show j + 1 ≤ len by omega)
    rw [szTo] at a1
    omega)
  have HI := Lib.hid h4
  clear h1 h2 h3 h4 h5 h6 hsz hlen
  go_enter Try.func24, Try.ntmps24
  go_wp2
  go_loopw [1, 5] (fun c i wr => ∃ (k : Nat) (r : Int), k ≤ len ∧ i = .int .i64 k ∧ c = .int .i64 r ∧ 0 ≤ r ∧ r ≤ n + 2097152 ∧ Hid (r = n + 2 * (szTo xss k : Int)) ∧ Hid (wr.ownsRow lo 26 1 (.slice aa len cap) len us) ∧ Hid (∀ j, j < k → OwnN wr lo (atV us j) (mkA n xss j)) ∧ Hid (∀ j, k ≤ j → j < len → OwnN wr lo (atV us j) (nthL xss j)) ∧ Within lo hi w wr) (fun _ i _ => len - (intOf i).toNat)
  case atStart => exact ⟨0, n, Nat.zero_le _, rfl, rfl, by omega, by omega, (show _ = _ by simp [szTo]), H1, H0, H2, Within.refl _ _ _⟩
  case round =>
    obtain ⟨k, r, hk, rfl, rfl, hr0, hr1, hr, hown, hdone, hin, hwi⟩ := hrel
    by_cases hlt : k < len
    · obtain ⟨g, c0, hsl, -⟩ := row_some hown.out (show 0 < len by omega)
      simp only [Value.slice.injEq, true_and] at hsl
      obtain ⟨rfl, rfl⟩ := hsl
      have hink := hin.out k (Nat.le_refl _) hlt
      obtain ⟨a1, c1, hv1, hat1, -⟩ := hink.at
      have hcell : wr.cell? ⟨g, k, none⟩ = some (.slice a1 (nthL xss k).length c1) := by
        rw [← hv1]
        exact (hown.out.cellAt k (by omega)).trans (atV_some (by omega))
      have I1 := Lib.hid hink
      rw [hv1] at I1
      have hl1 := LI.out k hlt
      obtain ⟨m, hm⟩ : ∃ m, m = (nthL xss k).length := ⟨_, rfl⟩
      have hS2 : szTo xss (k + 1) ≤ 1048576 := Nat.le_trans (szTo_mono xss hlt) S.out
      have hr2 : r + 2 * (m : Int) = n + 2 * (szTo xss (k + 1) : Int) := by rw [hr.out, szTo, hm]; omega
      have hr3 : r + 2 * (m : Int) ≤ n + 2097152 := by omega
      have R1 := Lib.hid hr.out
      have R2 := Lib.hid hr2
      have M := Lib.hid hm
      have HV := Lib.hid hv1
      rw [← hm] at hcell I1 hl1
      clear hat1 hm hr2 hr hS2 hink hv1
      go_wp2_with fail
      refine (markNodeS_any (nthL xss k) _ lo r _ (by rw [← M.out]; exact hl1) hr0 (by omega) I1.out).mono ?_
      rw [← M.out]
      rintro e w1 ⟨rfl, om, -, hg⟩
      have OM := Lib.hid om
      have hne : ∀ j, j < len → j ≠ k → (atV us j).ownBlock = none ∨ (atV us j).ownBlock ≠ (Value.slice a1 m c1).ownBlock := fun j hj hjk => by
        rw [M.out, ← HV.out]
        cases hq : (atV us j).ownBlock with
        | none => exact .inl rfl
        | some q =>
          right
          intro e
          rcases Nat.lt_or_ge j k with h1 | h1
          · exact D.out j k h1 hlt q hq e.symm
          · exact D.out k j (by omega) hj q e.symm hq
      have W1 := Lib.hid (hwi.grown hg (fun q hq => by
        have t1 := (row_type I1.out q hq).1
        have t2 := U.out k hlt q (by rw [HV.out, ← M.out]; exact hq)
        exact ⟨t1, t2⟩))
      have O1 := Lib.hid (row_kept hown.out hg (row_other I1.out (Ne.symm tyL)))
      have DN := Lib.hid (show ∀ j, j < k + 1 → OwnN w1 lo (atV us j) (mkA n xss j) from fun j hj => by
        by_cases e : j = k
        · subst e
          rw [HV.out, ← M.out, mkA, ← M.out, ← R1.out]
          exact OM.out
        · exact World.ownsRow.kept (hdone.out j (by omega)) hg (hne j (by omega) e))
      have IN := Lib.hid (show ∀ j, k + 1 ≤ j → j < len → OwnN w1 lo (atV us j) (nthL xss j) from fun j h1 h2 => World.ownsRow.kept (hin.out j (by omega) h2) hg (hne j h2 (by omega)))
      clear hwi hg om hne
      go_wp2
      go_roundw
      case rel => exact ⟨k + 1, _, hlt, by go_num, rfl, by omega, hr3, R2, O1, DN, IN, W1.out⟩
      case measure => simp [intOf]; omega
    · obtain rfl : k = len := by omega
      have R := Lib.hid hr.out
      clear hr
      go_wp2
      go_ret
      refine ⟨ret_int R.out, ⟨us, ?_, ?_, ?_, Nat.le_trans HI.out hwi.size, (by rw [X.out]; exact V.out), ?_⟩, hwi⟩
      · rw [mkNN_len, ← X.out]; exact hown.out
      · intro j hj
        rw [mkNN_len] at hj
        rw [mkNN_at hj]
        exact hdone.out j (by rw [X.out]; exact hj)
      · rw [mkNN_len, ← X.out]; exact D.out
      · rw [mkNN_len, ← X.out]; exact U.out

set_option maxHeartbeats 2000000 in
theorem heldL_in (xss : List (List Nd)) (v : Value) (lo hi : Nat) (n : Int) (w : World) (hl : xss.length ≤ 1048576) (hsz : szTo xss xss.length ≤ 1048576) (hn : 0 ≤ n) (hn2 : n ≤ 1073741824) (h : InL w lo hi v (mkNN n xss)) :
    Calls Try.prog 30 #[v, .int .i64 n] w fun e w' => e = .returned (.int .i64 (n + 2 * (szTo xss xss.length : Int))) ∧ w = w' := by
  obtain ⟨aa, cap, rfl, hat⟩ := h.at
  rw [mkNN_len] at hat ⊢
  obtain ⟨len, hlen⟩ : ∃ len, len = xss.length := ⟨_, rfl⟩
  have X := Lib.hid hlen
  rw [← hlen] at hat hl hsz ⊢
  have H := Lib.hid hat
  have S := Lib.hid hsz
  have LI := Lib.hid (show ∀ j, j < len → (nthL xss j).length ≤ 1048576 from fun j hj => by
    have a1 := szTo_mono xss (show j + 1 ≤ len by omega)
    rw [szTo] at a1
    omega)
  clear h hat hsz hlen
  go_enter Try.func30, Try.ntmps30
  go_wp2
  go_loop [1, 5] (fun c i => ∃ (k : Nat) (r : Int), k ≤ len ∧ i = .int .i64 k ∧ c = .int .i64 r ∧ 0 ≤ r ∧ r ≤ n + 2097152 ∧ Hid (r = n + 2 * (szTo xss k : Int))) (fun _ i => len - (intOf i).toNat)
  case atStart => exact ⟨0, n, Nat.zero_le _, rfl, rfl, by omega, by omega, (show _ = _ by simp [szTo])⟩
  case round =>
    obtain ⟨k, r, hk, rfl, rfl, hr0, hr1, hr⟩ := hrel
    by_cases hlt : k < len
    · obtain ⟨b, off, rfl, hb, hc⟩ := H.out.2.resolve_left (by omega)
      obtain ⟨a1, c1, hcell, hat1⟩ := hc k hlt
      rw [mkNN_at (by rw [← X.out]; exact hlt), mkA_len] at hcell hat1
      rw [mkA] at hat1
      have hl1 := LI.out k hlt
      obtain ⟨m, hm⟩ : ∃ m, m = (nthL xss k).length := ⟨_, rfl⟩
      have hS2 : szTo xss (k + 1) ≤ 1048576 := Nat.le_trans (szTo_mono xss hlt) S.out
      have hr2 : r + 2 * (m : Int) = n + 2 * (szTo xss (k + 1) : Int) := by rw [hr.out, szTo, hm]; omega
      have hr3 : r + 2 * (m : Int) ≤ n + 2097152 := by omega
      have R2 := Lib.hid hr2
      rw [← hm] at hcell hat1 hl1
      rw [← hr.out] at hat1
      have A1 := Lib.hid hat1
      clear hat1 hm hr2 hr hS2 hc
      have hpos : ¬ (r + 2 * (m : Int) < 0) := by omega
      go_wp2_with fail
      refine (heldNodeS_any m a1 c1 r _ hl1 hr0 (by omega) A1.out).mono ?_
      rintro e w' ⟨rfl, rfl⟩
      go_wp2
      go_round
      case rel => exact ⟨k + 1, _, hlt, by go_num, rfl, by omega, hr3, R2⟩
      case measure => simp [intOf]; omega
    · obtain rfl : k = len := by omega
      have R := Lib.hid hr.out
      clear hr
      go_wp2
      go_ret
      exact ⟨ret_int R.out, rfl⟩

end Go.Proofs.Ytbhgedabcclimaa
