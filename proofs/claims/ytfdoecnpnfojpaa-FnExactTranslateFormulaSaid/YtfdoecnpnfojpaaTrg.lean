/- The program's small functions that put point formulas together. Conditions: those in the theorems. -/
import Derived.Test.YtfdoecnpnfojpaaTrf
namespace Go.Proofs.Ytfdoecnpnfojpaa
open Go.RowKit

theorem falsePoints_any (w : World) : Calls Try.prog 114 #[] w fun e w' => ∃ v, e = .returned v ∧ OwnP w' w.heap.size v [(3, 0, 0)] ∧ Below w.heap.size w w' := by
  go_enter Try.func114, Try.ntmps114
  go_wp2
  go_ret
  exact ⟨_, rfl, litP w _ 3 0 0 (Nat.le_refl _), (Below.refl _ _).alloc (Nat.le_refl _) _⟩
theorem seesPoints_any (x y : Int) (w : World) : Calls Try.prog 142 #[.int .i64 x, .int .i64 y] w fun e w' => ∃ v, e = .returned v ∧ OwnP w' w.heap.size v [(0, x, y)] ∧ Below w.heap.size w w' := by
  go_enter Try.func142, Try.ntmps142
  go_wp2
  go_ret
  exact ⟨_, rfl, litP w _ 0 x y (Nat.le_refl _), (Below.refl _ _).alloc (Nat.le_refl _) _⟩
theorem trWr1_any (s x : Int) (w : World) : Calls Try.prog 112 #[.int .i64 s, .int .i64 x] w fun e w' => ∃ v, e = .returned v ∧ OwnP w' w.heap.size v [(2, s, x)] ∧ Below w.heap.size w w' := by
  go_enter Try.func112, Try.ntmps112
  go_wp2
  go_ret
  exact ⟨_, rfl, litP w _ 2 s x (Nat.le_refl _), (Below.refl _ _).alloc (Nat.le_refl _) _⟩
theorem trWr2_any (x : Int) (hx : x = 0 ∨ x = 1) (w : World) : Calls Try.prog 113 #[.int .i64 x] w fun e w' => e = .returned (.int .i64 (1 - x)) ∧ w = w' := by
  rcases hx with rfl | rfl
  all_goals
    go_enter Try.func113, Try.ntmps113
    go_wp2
    go_ret
    exact ⟨rfl, rfl⟩
theorem pointKind_any (k : Int) (hk : k = 2 ∨ k = 3 ∨ k = 4 ∨ k = 5 ∨ k = 6) (w : World) : Calls Try.prog 116 #[.int .i64 k] w fun e w' => e = .returned (.int .i64 (k + 2)) ∧ w = w' := by
  rcases hk with rfl | rfl | rfl | rfl | rfl
  all_goals
    go_enter Try.func116, Try.ntmps116
    go_wp2
    go_ret
    exact ⟨rfl, rfl⟩

set_option maxHeartbeats 2000000 in
theorem linkPoints_any (k : Int) (xs ys : List Pd) (a a' : Option Addr) (len cap len' cap' : Nat) (w : World) (hl : len + len' ≤ 1048576) (hp : 0 < len) (hp' : 0 < len') (h : AtP w a len xs) (h' : AtP w a' len' ys) :
    Calls Try.prog 117 #[.int .i64 k, .slice a len cap, .slice a' len' cap'] w fun e w' => ∃ v, e = .returned v ∧ OwnP w' w.heap.size v ((k, 0, 0) :: (xs ++ ys)) ∧ Below w.heap.size w w' := by
  have hx := h.1
  have hy := h'.1
  obtain ⟨W, hW⟩ : ∃ W, W = w.alloc (.cells #[.int .i64 k, .int .i64 0, .int .i64 0] 78) := ⟨_, rfl⟩
  have hWb : Below w.heap.size w W := by rw [hW]; exact (Below.refl _ _).alloc (Nat.le_refl _) _
  have hWs : W.heap.size = w.heap.size + 1 := by rw [hW]; simp
  have L0 : AtP W (some ⟨w.heap.size, 0, none⟩) 1 [(k, 0, 0)] := by
    rw [hW]
    obtain ⟨aa, cc, hv, at1, -⟩ := (litP w w.heap.size k 0 0 (Nat.le_refl _)).at
    simp only [List.length_cons, List.length_nil, Value.slice.injEq] at hv
    rw [← hv.1] at at1
    exact at1
  have LY := Lib.hid (fun t => layP3 (cap := 1) (cap' := cap) (cap2 := cap') L0 (h.keep hWb (Nat.le_refl _)) (h'.keep hWb (Nat.le_refl _)) t rfl)
  have CC := Lib.hid (fun t => concatP_any [[(k, 0, 0)], xs, ys] (some ⟨W.heap.size, 0, none⟩) 3 3 (W.alloc (.cells #[.slice (some ⟨w.heap.size, 0, none⟩) 1 1, .slice a len cap, .slice a' len' cap'] t)) (by omega) (by simp [szP, nthP]; omega) (fun j hj => by
    have hj2 : j = 0 ∨ j = 1 ∨ j = 2 := by omega
    rcases hj2 with rfl | rfl | rfl
    · show 0 < 1; omega
    · show 0 < xs.length; omega
    · show 0 < ys.length; omega) (by omega) (LY.out t))
  have HB := Lib.hid hWb
  have HW := Lib.hid hW
  have WS := Lib.hid hWs
  rw [hWs] at CC
  clear hW hWb hWs h h' L0 LY hx hy
  go_enter Try.func117, Try.ntmps117
  go_wp2_with fail
  rw [← HW.out]
  refine (CC.out _).mono ?_
  rintro e w1 ⟨v1, rfl, ho1, hb1⟩
  have hsz : w.heap.size ≤ (W.alloc (.cells #[.slice (some ⟨w.heap.size, 0, none⟩) 1 1, .slice a len cap, .slice a' len' cap'] 32)).heap.size := by have := WS.out; simp; omega
  have B1 := Lib.hid ((HB.out.alloc HB.out.size _).trans (hb1.mono hsz))
  have O1 := Lib.hid (show OwnP w1 w.heap.size v1 ((k, 0, 0) :: (xs ++ ys)) by have := ho1.mono hsz; simpa [catP, nthP] using this)
  clear hb1 ho1 hsz
  go_wp2
  go_ret
  exact ⟨_, rfl, O1.out, B1.out⟩

set_option maxHeartbeats 2000000 in
theorem quantifySeen_any (q x y k : Int) (hq : (q = 7 ∧ k = 6) ∨ (q = 8 ∧ k = 4)) (ys : List Pd) (a' : Option Addr) (len' cap' : Nat) (w : World) (hl : len' ≤ 1048000) (hp' : 0 < len') (h' : AtP w a' len' ys) :
    Calls Try.prog 115 #[.int .i64 q, .int .i64 x, .int .i64 y, .slice a' len' cap'] w fun e w' => ∃ v, e = .returned v ∧ OwnP w' w.heap.size v ((q, y, 0) :: ((k, 0, 0) :: ([(0, x, y)] ++ ys))) ∧ Below w.heap.size w w' := by
  have hy := h'.1
  obtain ⟨W, hW⟩ : ∃ W, W = w.alloc (.cells #[.int .i64 q, .int .i64 y, .int .i64 0] 78) := ⟨_, rfl⟩
  have hWb : Below w.heap.size w W := by rw [hW]; exact (Below.refl _ _).alloc (Nat.le_refl _) _
  have L0 := Lib.hid (show AtP W (some ⟨w.heap.size, 0, none⟩) 1 [(q, y, 0)] by
    rw [hW]
    obtain ⟨aa, cc, hv, at1, -⟩ := (litP w w.heap.size q y 0 (Nat.le_refl _)).at
    simp only [List.length_cons, List.length_nil, Value.slice.injEq] at hv
    rw [← hv.1] at at1
    exact at1)
  have HA := Lib.hid (h'.keep hWb (Nat.le_refl _))
  have HB := Lib.hid hWb
  have HW := Lib.hid hW
  have HL := Lib.hid hy
  clear hW hWb h' hy
  rcases hq with ⟨rfl, rfl⟩ | ⟨rfl, rfl⟩
  all_goals
    go_enter Try.func115, Try.ntmps115
    go_wp2_with fail
    rw [← HW.out]
    refine (seesPoints_any _ _ _).mono ?_
    rintro e w1 ⟨v1, rfl, ho1, hb1⟩
    obtain ⟨a1, c1, rfl, at1, -⟩ := ho1.at
    have T1 := Lib.hid hb1
    have A1 := Lib.hid at1
    clear hb1 ho1 at1
    go_wp2_with fail
    refine (linkPoints_any _ [(0, x, y)] ys _ _ _ _ _ _ _ (by simp; omega) (by simp) hp' A1.out (HA.out.keep T1.out (Nat.le_refl _))).mono ?_
    rintro e w2 ⟨v2, rfl, ho2, hb2⟩
    obtain ⟨a2, c2, rfl, at2, -⟩ := ho2.at
    have T2 := Lib.hid (T1.out.trans (hb2.mono T1.out.size))
    have A2 := Lib.hid at2
    clear hb2 ho2 at2
    have LY := Lib.hid (fun t => layP2 (cap := 1) (cap' := c2) (L0.out.keep T2.out (Nat.le_refl _)) A2.out t rfl)
    have CC := Lib.hid (fun t => concatP_any [[(_, y, 0)], (_, 0, 0) :: ([(0, x, y)] ++ ys)] _ 2 2 _ (by omega) (by have := HL.out; simp [szP, nthP]; omega) (fun j hj => by
      have hj2 : j = 0 ∨ j = 1 := by omega
      rcases hj2 with rfl | rfl
      · show 0 < 1; omega
      · show 0 < ([(0, x, y)] ++ ys).length + 1; omega) (by omega) (LY.out t))
    clear LY
    go_wp2_with fail
    refine (CC.out _).mono ?_
    rintro e w3 ⟨v3, rfl, ho3, hb3⟩
    have BB := Lib.hid (HB.out.trans (T2.out.mono HB.out.size))
    have hsz : w.heap.size ≤ (w2.alloc (.cells #[.slice (some ⟨w.heap.size, 0, none⟩) 1 1, .slice a2 ((6, 0, 0) :: ([(0, x, y)] ++ ys) : List Pd).length c2] 32)).heap.size := by have := BB.out.size; simp; omega
    have B3 := Lib.hid ((BB.out.alloc BB.out.size _).trans (hb3.mono (by have := BB.out.size; simp; omega)))
    have O3 := Lib.hid (show OwnP w3 w.heap.size v3 ((_, y, 0) :: ((_, 0, 0) :: ([(0, x, y)] ++ ys))) by have := ho3.mono (B' := w.heap.size) (by have := BB.out.size; simp; omega); simpa [catP, nthP] using this)
    clear hb3 ho3 hsz
    go_wp2
    go_ret
    exact ⟨_, rfl, O3.out, B3.out⟩

end Go.Proofs.Ytfdoecnpnfojpaa
