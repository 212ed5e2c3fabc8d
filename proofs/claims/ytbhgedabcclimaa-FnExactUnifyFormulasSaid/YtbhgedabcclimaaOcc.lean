/- Contracts of slices.Equal at nodes, and of OccurrencesOf of the model and of the program, at every argument. Conditions: those in the theorems. -/
import Derived.Test.YtbhgedabcclimaaNPol
import Derived.Laws.StructEq
namespace Go.Proofs.Ytbhgedabcclimaa
open Go.RowKit

set_option maxHeartbeats 1000000 in
theorem slEqual_any (xs ys : List Nd) (a a' : Option Addr) (len len' cap cap' : Nat) (w : World) (hl : len ≤ 1048576) (hl' : len' ≤ 1048576) (h : AtN w a len xs) (h' : AtN w a' len' ys) :
    Calls Try.prog 94 #[.slice a len cap, .slice a' len' cap'] w fun e w' => e = .returned (.bool (decide (xs = ys))) ∧ Below w.heap.size w w' := by
  have e1 := h.1
  have e2 := h'.1
  have H := Lib.hid h
  have H' := Lib.hid h'
  clear h h'
  by_cases hll : len = len'
  · subst hll
    have E := Lib.hid (show xs.length = ys.length by omega)
    have X := Lib.hid (show len = xs.length from e1)
    clear e1 e2 hl'
    have hne := neNode
    have hgu := guNode
    go_enter Try.func94, Try.ntmps94
    go_wp2
    go_loopw [13] (fun i wr => ∃ k : Nat, k ≤ len ∧ i = .int .i64 k ∧ (∀ j, j < k → kd xs j = kd ys j ∧ sy xs j = sy ys j) ∧ Below w.heap.size w wr) (fun i _ => len - (intOf i).toNat)
    case atStart => exact ⟨0, Nat.zero_le _, rfl, (fun j hj => absurd hj (by omega)), Below.refl _ _⟩
    case round =>
      obtain ⟨k, hk, rfl, hall, hbel⟩ := hrel
      have A := Lib.hid hall
      have BL := Lib.hid hbel
      clear hall hbel
      by_cases hlt : k < len
      · obtain ⟨b, off, rfl, hb, hc⟩ := H.out.2.resolve_left (by omega)
        obtain ⟨b', off', rfl, hb', hc'⟩ := H'.out.2.resolve_left (by omega)
        have g1 : wr.cell? ⟨b, off + k * 2, none⟩ = some (.int .i64 (kd xs k)) := (BL.out.cell (p := ⟨b, off + k * 2, none⟩) hb).trans (hc k hlt).1
        have g2 : wr.cell? ⟨b, off + k * 2 + 1, none⟩ = some (.int .i64 (sy xs k)) := (BL.out.cell (p := ⟨b, off + k * 2 + 1, none⟩) hb).trans (hc k hlt).2
        have g1' : wr.cell? ⟨b', off' + k * 2, none⟩ = some (.int .i64 (kd ys k)) := (BL.out.cell (p := ⟨b', off' + k * 2, none⟩) hb').trans (hc' k hlt).1
        have g2' : wr.cell? ⟨b', off' + k * 2 + 1, none⟩ = some (.int .i64 (sy ys k)) := (BL.out.cell (p := ⟨b', off' + k * 2 + 1, none⟩) hb').trans (hc' k hlt).2
        clear hc hc'
        cases hq : (kd xs k == kd ys k && sy xs k == sy ys k)
        · have HD : Hid (decide (xs = ys) = false) := by
            show decide (xs = ys) = false
            rw [decide_eq_false_iff_not]
            intro e
            subst e
            simp at hq
          go_wp2
          go_region
          all_goals
            go_wp2
            go_ret
            exact ⟨ret_bool HD.out.symm, BL.out.drew⟩
        · have hq2 : kd xs k = kd ys k ∧ sy xs k = sy ys k := by simpa using hq
          have A2 : Hid (∀ j, j < k + 1 → kd xs j = kd ys j ∧ sy xs j = sy ys j) := by
            show ∀ j, j < k + 1 → kd xs j = kd ys j ∧ sy xs j = sy ys j
            intro j hj
            by_cases e : j = k
            · subst e; exact hq2
            · exact A.out j (by omega)
          clear hq2
          go_wp2
          go_region
          all_goals
            go_wp2
            go_roundw
            case rel => exact ⟨k + 1, hlt, by go_num, A2.out, BL.out.drew⟩
            case measure => simp [intOf]; omega
      · obtain rfl : k = len := by omega
        have HD : Hid (decide (xs = ys) = true) := by
          show decide (xs = ys) = true
          rw [decide_eq_true_iff]
          exact list_ext_nd E.out (fun j hj => A.out j (by rw [X.out]; exact hj))
        clear X
        go_wp2
        go_ret
        exact ⟨ret_bool HD.out.symm, BL.out⟩
  · have HD : Hid (decide (xs = ys) = false) := by
      show decide (xs = ys) = false
      rw [decide_eq_false_iff_not]
      intro e
      subst e
      omega
    clear e1 e2
    have hll' : ¬ ((len : Int) = (len' : Int)) := by omega
    go_enter Try.func94, Try.ntmps94
    go_wp2
    go_ret
    exact ⟨ret_bool HD.out.symm, Below.refl _ _⟩

theorem Own.snoc {w : World} {B : Nat} {v : Value} {xs : List Int} {z : Int} (h : w.ownsRow B 2 1 v (xs.length + 1) (xs.map (Value.int .i64) ++ [.int .i64 z])) : Own w B v (xs ++ [z]) := by
  unfold Own
  rw [List.length_append, List.map_append]
  exact h
def ocB (xs ys : List Nd) (k : Nat) : Bool := decide ((xs.drop k).take ((pe xs (xs.length - k) 1 k).toNat - k) = ys)
def ocTo (xs ys : List Nd) : Nat → List Int
  | 0 => []
  | k + 1 => if ocB xs ys k then ocTo xs ys k ++ [(k : Int)] else ocTo xs ys k
theorem ocTo_len (xs ys : List Nd) (k : Nat) : (ocTo xs ys k).length ≤ k := by
  induction k with
  | zero => exact Nat.le_refl _
  | succ k ih =>
    rw [ocTo]
    split
    · simp; omega
    · omega
def ocR (xs ys : List Nd) : List Int := if isB xs xs.length && isB ys ys.length then ocTo xs ys xs.length else []
def ocC (xs ys : List Nd) : Int := if isB xs xs.length && isB ys ys.length then 0 else 1
theorem OccurrencesOf_len (xs ys : List Nd) : (ocR xs ys).length ≤ 1048576 := by
  rw [ocR]
  split
  · rename_i h
    have h1 : isB xs xs.length = true := by simp at h; exact h.1
    have := is_pos' h1
    have := ocTo_len xs ys xs.length
    omega
  · simp
theorem oc_bad {xs ys : List Nd} (h : (isB xs xs.length && isB ys ys.length) = false) : ocR xs ys = [] ∧ ocC xs ys = 1 := by simp only [ocR, ocC, h]; exact ⟨rfl, rfl⟩
theorem oc_good {xs ys : List Nd} (h : (isB xs xs.length && isB ys ys.length) = true) : ocR xs ys = ocTo xs ys xs.length ∧ ocC xs ys = 0 := by simp only [ocR, ocC, h]; exact ⟨rfl, rfl⟩
theorem ownI_none (w : World) (B : Nat) : Own w B (.slice none 0 0) [] := World.ownsRow_nil w B 2 1

set_option maxHeartbeats 2000000 in
theorem specOccurrencesOf_v (x0 x1 : List Nd) (v : Value) (lo hi : Nat) (u : Value) (lo' hi' : Nat) (w : World) (hl : x0.length ≤ 1048576) (hl' : x1.length ≤ 1048576) (h : InN w lo hi v x0) (h' : InN w lo' hi' u x1) :
    Calls Try.prog 43 #[v, u] w fun e w' => ∃ v', e = .returned (.tuple #[v', .int .i64 (ocC x0 x1)]) ∧ Own w' w.heap.size v' (ocR x0 x1) ∧ Below w.heap.size w w' := by
  obtain ⟨a, cap, rfl, hat, hca, hcb⟩ := h.at'
  obtain ⟨a', cap', rfl, hat'⟩ := h'.at
  have H := Lib.hid hat
  have H' := Lib.hid hat'
  clear h h' hat hat'
  unfold maxLen at hcb
  cases hb : (isB x0 x0.length && isB x1 x1.length)
  · obtain ⟨e1, e2⟩ := oc_bad hb
    rw [e1, e2]
    cases hb0 : isB x0 x0.length
    · have HB := Lib.hid hb0
      clear hb e1 e2 hb0
      go_enter Try.func43, Try.ntmps43
      go_wp2_with (go_at_call 53; refine (l02Is_any _ _ _ _ _ hl H.out).mono ?_; rw [HB.out]; rintro e w' ⟨rfl, rfl⟩)
      go_ret2
      exact ⟨_, rfl, ownI_none _ _, Below.refl _ _⟩
    · have HB := Lib.hid hb0
      have HB' := Lib.hid (show isB x1 x1.length = false by rw [hb0] at hb; simpa using hb)
      clear hb e1 e2 hb0
      go_enter Try.func43, Try.ntmps43
      go_wp2_with fail
      refine (l02Is_any _ _ _ _ _ hl H.out).mono ?_
      rw [HB.out]
      rintro e w' ⟨rfl, rfl⟩
      go_wp2_with fail
      refine (l02Is_any _ _ _ _ _ hl' H'.out).mono ?_
      rw [HB'.out]
      rintro e w' ⟨rfl, rfl⟩
      go_wp2
      go_ret2
      exact ⟨_, rfl, ownI_none _ _, Below.refl _ _⟩
  · obtain ⟨e1, e2⟩ := oc_good hb
    rw [e1, e2]
    have hbb : isB x0 x0.length = true ∧ isB x1 x1.length = true := by simpa using hb
    have HB := Lib.hid hbb.1
    have HB' := Lib.hid hbb.2
    have hl40 := (is_pos' hbb.1).2
    have B0 := Lib.hid ((Below.refl w.heap.size w).alloc (Nat.le_refl _) (.cells #[] 2))
    have O0 := Lib.hid (show Own (w.alloc (.cells #[] 2)) w.heap.size (.slice (some ⟨w.heap.size, 0, none⟩) 0 0) [] from World.ownsRow_made w #[] 0 (Nat.le_refl _) (Nat.zero_le _) rfl)
    clear hb e1 e2 hbb
    go_enter Try.func43, Try.ntmps43
    go_wp2_with fail
    refine (l02Is_any _ _ _ _ _ hl H.out).mono ?_
    rw [HB.out]
    rintro e w' ⟨rfl, rfl⟩
    go_wp2_with fail
    refine (l02Is_any _ _ _ _ _ hl' H'.out).mono ?_
    rw [HB'.out]
    rintro e w' ⟨rfl, rfl⟩
    go_wp2
    go_loopw [6, 7] (fun v i wr => ∃ t : Nat, t ≤ x0.length ∧ i = .int .i64 t ∧ Own wr w.heap.size v (ocTo x0 x1 t) ∧ Below w.heap.size w wr) (fun _ i _ => x0.length - (intOf i).toNat)
    case atStart => exact ⟨0, Nat.zero_le _, rfl, O0.out, B0.out⟩
    case round =>
      obtain ⟨k, hk, rfl, hown, hbel⟩ := hrel
      have HO := Lib.hid hown
      have B := Lib.hid hbel
      have hbs := hbel.size
      have hlen := ocTo_len x0 x1 k
      clear hown hbel
      by_cases hlt : k < x0.length
      · have HK := Lib.hid (H.out.keep B.out (Nat.le_refl _))
        obtain ⟨b, off, rfl, hbb, hc⟩ := H.out.2.resolve_left (by omega)
        clear hc
        obtain ⟨e, he, he1, he2⟩ := part_at HB.out hlt
        have S := Lib.hid (HK.out.sub k (e - k) (by omega))
        cases hoc : ocB x0 x1 k
        · have N := Lib.hid (show ocTo x0 x1 (k + 1) = ocTo x0 x1 k by rw [ocTo, hoc]; rfl)
          have OC := Lib.hid (show decide ((x0.drop k).take (e - k) = x1) = false by rw [ocB, he, Int.toNat_natCast] at hoc; exact hoc)
          have E := Lib.hid he
          clear hoc he
          go_wp2_with fail
          refine (l02Part_any x0 _ _ _ k _ hl (by omega) HK.out).mono ?_
          rw [E.out]
          rintro e' w' ⟨rfl, rfl⟩
          go_wp2_with fail
          refine (l02Equal_any _ x1 _ _ _ _ _ _ _ (by omega) hl' S.out (H'.out.keep B.out (Nat.le_refl _))).mono ?_
          rw [OC.out]
          rintro e' w1 ⟨rfl, hb1⟩
          have B1 := Lib.hid (B.out.trans (hb1.mono B.out.size))
          have O1 := Lib.hid (HO.out.keep hb1 (Nat.le_refl _))
          clear hb1
          go_wp2
          go_roundw
          case rel => exact ⟨k + 1, hlt, by go_num, by rw [N.out]; exact O1.out, B1.out⟩
          case measure => simp [intOf]; omega
        · have N := Lib.hid (show ocTo x0 x1 (k + 1) = ocTo x0 x1 k ++ [(k : Int)] by rw [ocTo, hoc]; rfl)
          have OC := Lib.hid (show decide ((x0.drop k).take (e - k) = x1) = true by rw [ocB, he, Int.toNat_natCast] at hoc; exact hoc)
          have E := Lib.hid he
          clear hoc he
          go_wp2_with fail
          refine (l02Part_any x0 _ _ _ k _ hl (by omega) HK.out).mono ?_
          rw [E.out]
          rintro e' w' ⟨rfl, rfl⟩
          go_wp2_with fail
          refine (l02Equal_any _ x1 _ _ _ _ _ _ _ (by omega) hl' S.out (H'.out.keep B.out (Nat.le_refl _))).mono ?_
          rw [OC.out]
          rintro e' w1 ⟨rfl, hb1⟩
          have B1 := Lib.hid (B.out.trans (hb1.mono B.out.size))
          have O1 := Lib.hid (HO.out.keep hb1 (Nat.le_refl _))
          have hs1 := B1.out.size
          clear hb1
          go_wp2_with (at_builtin; refine list_app1 rfl _ _ rfl w.heap.size _ _ _ rfl (O1.out.alloc _) ⟨w1.heap.size, 0, none⟩ 1 _ rfl (World.cell?_alloc_at _ _ _ _ rfl) (by omega) (by simp; omega) ?_; intro v' w2 hown1 hgr1)
          have B2 := Lib.hid (below_app B1.out ((Below.refl _ _).alloc hs1 _) hs1 O1.out hgr1)
          have O2 := Lib.hid (Own.snoc hown1)
          clear hown1 hgr1
          go_roundw
          case rel => exact ⟨k + 1, hlt, by go_num, by rw [N.out]; exact O2.out, B2.out⟩
          case measure => simp [intOf]; omega
      · obtain rfl : k = x0.length := by omega
        go_wp2
        go_ret2
        exact ⟨_, rfl, HO.out, B.out⟩

set_option maxHeartbeats 2000000 in
theorem implOccurrencesOf_v (x0 x1 : List Nd) (v : Value) (lo hi : Nat) (u : Value) (lo' hi' : Nat) (w : World) (hl : x0.length ≤ 1048576) (hl' : x1.length ≤ 1048576) (h : InN w lo hi v x0) (h' : InN w lo' hi' u x1) :
    Calls Try.prog 44 #[v, u] w fun e w' => ∃ v', e = .returned (.tuple #[v', .int .i64 (ocC x0 x1)]) ∧ Own w' w.heap.size v' (ocR x0 x1) ∧ Below w.heap.size w w' := by
  obtain ⟨a, cap, rfl, hat, hca, hcb⟩ := h.at'
  obtain ⟨a', cap', rfl, hat'⟩ := h'.at
  have H := Lib.hid hat
  have H' := Lib.hid hat'
  clear h h' hat hat'
  unfold maxLen at hcb
  have CN := areF2_any x0 x1 a a' x0.length cap x1.length cap' w.heap.size w hl hl' H.out H'.out 26 rfl
  cases hb : (isB x0 x0.length && isB x1 x1.length)
  · obtain ⟨e1, e2⟩ := oc_bad hb
    rw [e1, e2]
    rw [hb] at CN
    have C := Lib.hid CN
    clear hb e1 e2 CN
    go_enter Try.func44, Try.ntmps44
    go_wp2_with fail
    refine C.out.mono ?_
    rintro e w1 ⟨rfl, hb1⟩
    go_wp2
    go_ret2
    exact ⟨_, rfl, ownI_none _ _, hb1⟩
  · obtain ⟨e1, e2⟩ := oc_good hb
    rw [e1, e2]
    rw [hb] at CN
    have C := Lib.hid CN
    have hbb : isB x0 x0.length = true ∧ isB x1 x1.length = true := by simpa using hb
    have HB := Lib.hid hbb.1
    have hl40 := (is_pos' hbb.1).2
    clear hb e1 e2 hbb CN
    go_enter Try.func44, Try.ntmps44
    go_wp2_with fail
    refine C.out.mono ?_
    rintro e w0 ⟨rfl, hb0⟩
    have B0 := Lib.hid hb0
    clear hb0
    go_wp2
    go_loopw [6, 15] (fun v i wr => ∃ t : Nat, t ≤ x0.length ∧ i = .int .i64 t ∧ Own wr w.heap.size v (ocTo x0 x1 t) ∧ Below w.heap.size w wr) (fun _ i _ => x0.length - (intOf i).toNat)
    case atStart => exact ⟨0, Nat.zero_le _, rfl, ownI_none _ _, B0.out⟩
    case round =>
      obtain ⟨k, hk, rfl, hown, hbel⟩ := hrel
      have HO := Lib.hid hown
      have B := Lib.hid hbel
      have hbs := hbel.size
      have hlen := ocTo_len x0 x1 k
      clear hown hbel
      by_cases hlt : k < x0.length
      · have HK := Lib.hid (H.out.keep B.out (Nat.le_refl _))
        obtain ⟨b, off, rfl, hbb, hc⟩ := H.out.2.resolve_left (by omega)
        clear hc
        obtain ⟨e, he, he1, he2⟩ := part_at HB.out hlt
        have S := Lib.hid (HK.out.sub k (e - k) (by omega))
        cases hoc : ocB x0 x1 k
        · have N := Lib.hid (show ocTo x0 x1 (k + 1) = ocTo x0 x1 k by rw [ocTo, hoc]; rfl)
          have OC := Lib.hid (show decide ((x0.drop k).take (e - k) = x1) = false by rw [ocB, he, Int.toNat_natCast] at hoc; exact hoc)
          have E := Lib.hid he
          clear hoc he
          go_wp2_with fail
          refine (partEnd_any x0 _ _ _ k _ _ hl (by omega) HK.out E.out (by omega)).mono ?_
          rintro e' w' ⟨rfl, rfl⟩
          go_wp2_with fail
          refine (slEqual_any _ x1 _ _ _ _ _ _ _ (by omega) hl' S.out (H'.out.keep B.out (Nat.le_refl _))).mono ?_
          rw [OC.out]
          rintro e' w1 ⟨rfl, hb1⟩
          have B1 := Lib.hid (B.out.trans (hb1.mono B.out.size))
          have O1 := Lib.hid (HO.out.keep hb1 (Nat.le_refl _))
          clear hb1
          go_wp2
          go_roundw
          case rel => exact ⟨k + 1, hlt, by go_num, by rw [N.out]; exact O1.out, B1.out⟩
          case measure => simp [intOf]; omega
        · have N := Lib.hid (show ocTo x0 x1 (k + 1) = ocTo x0 x1 k ++ [(k : Int)] by rw [ocTo, hoc]; rfl)
          have OC := Lib.hid (show decide ((x0.drop k).take (e - k) = x1) = true by rw [ocB, he, Int.toNat_natCast] at hoc; exact hoc)
          have E := Lib.hid he
          clear hoc he
          go_wp2_with fail
          refine (partEnd_any x0 _ _ _ k _ _ hl (by omega) HK.out E.out (by omega)).mono ?_
          rintro e' w' ⟨rfl, rfl⟩
          go_wp2_with fail
          refine (slEqual_any _ x1 _ _ _ _ _ _ _ (by omega) hl' S.out (H'.out.keep B.out (Nat.le_refl _))).mono ?_
          rw [OC.out]
          rintro e' w1 ⟨rfl, hb1⟩
          have B1 := Lib.hid (B.out.trans (hb1.mono B.out.size))
          have O1 := Lib.hid (HO.out.keep hb1 (Nat.le_refl _))
          have hs1 := B1.out.size
          clear hb1
          go_wp2_with (at_builtin; refine list_app1 rfl _ _ rfl w.heap.size _ _ _ rfl (O1.out.alloc _) ⟨w1.heap.size, 0, none⟩ 1 _ rfl (World.cell?_alloc_at _ _ _ _ rfl) (by omega) (by simp; omega) ?_; intro v' w2 hown1 hgr1)
          have B2 := Lib.hid (below_app B1.out ((Below.refl _ _).alloc hs1 _) hs1 O1.out hgr1)
          have O2 := Lib.hid (Own.snoc hown1)
          clear hown1 hgr1
          go_roundw
          case rel => exact ⟨k + 1, hlt, by go_num, by rw [N.out]; exact O2.out, B2.out⟩
          case measure => simp [intOf]; omega
      · obtain rfl : k = x0.length := by omega
        go_wp2
        go_ret2
        exact ⟨_, rfl, HO.out, B.out⟩

end Go.Proofs.Ytbhgedabcclimaa
