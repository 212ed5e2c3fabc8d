/- Contracts of the model's functions that write the text of a formula. Conditions: those in the theorems. -/
import Derived.Laws.StructEq
import Derived.Laws.Concat
import Derived.Test.YtfkdefmafhlmnaaJn06
namespace Go.Proofs.Ytfkdefmafhlmnaa
open Go.RowKit

theorem neNode (x y x' y' : Int) (w : World) : (binOp .neq 140 (.agg #[.int .i64 x, .int .i64 y]) (.agg #[.int .i64 x', .int .i64 y'])).run Try.prog w = .ok (.bool (!(x == x' && y == y'))) w := by
  have u3 := Try.underlying2
  have hS : Try.prog.underlying 140 = some (.struct (Try.prog.fieldsOf 140)) := by kernel_rfl
  have hp : Try.prog.stoodInHeld 140 = false := by kernel_rfl
  rw [run_neq_struct, show (10000 : Nat) = 9999 + 1 from rfl, run_equalIn_agg w 9999 140 _ _ hS hp]
  simp only [Program.fieldsOf, Try.underlying140]
  go_simp
  by_cases h1 : x = x' <;> by_cases h2 : y = y' <;> simp [h1, h2]
theorem guNode : Try.prog.eqGuardType Try.prog.depth 140 = false := by kernel_rfl

theorem list_ext_nd {xs ys : List Nd} (hl : xs.length = ys.length) (h : ∀ j, j < xs.length → kd xs j = kd ys j ∧ sy xs j = sy ys j) : xs = ys := by
  apply List.ext_getElem hl
  intro j h1 h2
  have e := h j h1
  have e1 : kd xs j = xs[j].1 := by simp [kd, List.getD_eq_getElem?_getD, h1]
  have e2 : kd ys j = ys[j].1 := by simp [kd, List.getD_eq_getElem?_getD, h2]
  have e3 : sy xs j = xs[j].2 := by simp [sy, List.getD_eq_getElem?_getD, h1]
  have e4 : sy ys j = ys[j].2 := by simp [sy, List.getD_eq_getElem?_getD, h2]
  rw [e1, e2, e3, e4] at e
  exact Prod.ext e.1 e.2

set_option maxHeartbeats 1000000 in
theorem l02Equal_any (xs ys : List Nd) (a a' : Option Addr) (len len' cap cap' : Nat) (w : World) (hl : len ≤ 1048576) (hl' : len' ≤ 1048576) (h : AtN w a len xs) (h' : AtN w a' len' ys) :
    Calls Try.prog 118 #[.slice a len cap, .slice a' len' cap'] w fun e w' => e = .returned (.bool (decide (xs = ys))) ∧ Below w.heap.size w w' := by
  have e1 := h.1
  have e2 := h'.1
  have H := Lib.hid h
  have H' := Lib.hid h'
  clear h h'
  by_cases hll : len = len'
  · subst hll
    have E := Lib.hid (show xs.length = ys.length by omega)
    have X := Lib.hid (show len = xs.length from e1)
    clear e1 e2 hl'
    have hne := neNode
    have hgu := guNode
    go_enter Try.func118, Try.ntmps118
    go_wp2
    go_loopw [5] (fun i wr => ∃ k : Nat, k ≤ len ∧ i = .int .i64 k ∧ (∀ j, j < k → kd xs j = kd ys j ∧ sy xs j = sy ys j) ∧ Below w.heap.size w wr) (fun i _ => len - (intOf i).toNat)
    case atStart => exact ⟨0, Nat.zero_le _, rfl, (fun j hj => absurd hj (by omega)), Below.refl _ _⟩
    case round =>
      obtain ⟨k, hk, rfl, hall, hbel⟩ := hrel
      have A := Lib.hid hall
      have BL := Lib.hid hbel
      clear hall hbel
      by_cases hlt : k < len
      · obtain ⟨b, off, rfl, hb, hc⟩ := H.out.2.resolve_left (by omega)
        obtain ⟨b', off', rfl, hb', hc'⟩ := H'.out.2.resolve_left (by omega)
        have g1 : wr.cell? ⟨b, off + k * 2, none⟩ = some (.int .i64 (kd xs k)) := (BL.out.cell (p := ⟨b, off + k * 2, none⟩) hb).trans (hc k hlt).1
        have g2 : wr.cell? ⟨b, off + k * 2 + 1, none⟩ = some (.int .i64 (sy xs k)) := (BL.out.cell (p := ⟨b, off + k * 2 + 1, none⟩) hb).trans (hc k hlt).2
        have g1' : wr.cell? ⟨b', off' + k * 2, none⟩ = some (.int .i64 (kd ys k)) := (BL.out.cell (p := ⟨b', off' + k * 2, none⟩) hb').trans (hc' k hlt).1
        have g2' : wr.cell? ⟨b', off' + k * 2 + 1, none⟩ = some (.int .i64 (sy ys k)) := (BL.out.cell (p := ⟨b', off' + k * 2 + 1, none⟩) hb').trans (hc' k hlt).2
        clear hc hc'
        cases hq : (kd xs k == kd ys k && sy xs k == sy ys k)
        · have HD : Hid (decide (xs = ys) = false) := by
            show decide (xs = ys) = false
            rw [decide_eq_false_iff_not]
            intro e
            subst e
            simp at hq
          go_wp2
          go_region
          all_goals
            go_wp2
            go_ret
            exact ⟨ret_bool HD.out.symm, BL.out.drew⟩
        · have hq2 : kd xs k = kd ys k ∧ sy xs k = sy ys k := by simpa using hq
          have A2 : Hid (∀ j, j < k + 1 → kd xs j = kd ys j ∧ sy xs j = sy ys j) := by
            show ∀ j, j < k + 1 → kd xs j = kd ys j ∧ sy xs j = sy ys j
            intro j hj
            by_cases e : j = k
            · subst e; exact hq2
            · exact A.out j (by omega)
          clear hq2
          go_wp2
          go_region
          all_goals
            go_wp2
            go_roundw
            case rel => exact ⟨k + 1, hlt, by go_num, A2.out, BL.out.drew⟩
            case measure => simp [intOf]; omega
      · obtain rfl : k = len := by omega
        have HD : Hid (decide (xs = ys) = true) := by
          show decide (xs = ys) = true
          rw [decide_eq_true_iff]
          exact list_ext_nd E.out (fun j hj => A.out j (by rw [X.out]; exact hj))
        clear X
        go_wp2
        go_ret
        exact ⟨ret_bool HD.out.symm, BL.out⟩
  · have HD : Hid (decide (xs = ys) = false) := by
      show decide (xs = ys) = false
      rw [decide_eq_false_iff_not]
      intro e
      subst e
      omega
    clear e1 e2
    have hll' : ¬ ((len : Int) = (len' : Int)) := by omega
    go_enter Try.func118, Try.ntmps118
    go_wp2
    go_ret
    exact ⟨ret_bool HD.out.symm, Below.refl _ _⟩

theorem l02True_any (w : World) : Calls Try.prog 119 #[] w fun e w' => ∃ v, e = .returned v ∧ OwnN w' w.heap.size v [(4, 0), (1, 0), (1, 0)] ∧ Below w.heap.size w w' := by
  go_enter Try.func119, Try.ntmps119
  go_wp2_with fail
  refine (l02False_any _).mono ?_
  rintro e w1 ⟨v1, rfl, ho1, hb1⟩
  obtain ⟨a1, c1, rfl, at1, -, -, -⟩ := ho1.at
  have B1 := Lib.hid hb1
  have A1 := Lib.hid at1
  clear hb1 ho1 at1
  go_wp2_with fail
  refine (l02Not_any [(1, 0)] a1 1 c1 _ (by omega) (by omega) A1.out).mono ?_
  rintro e w2 ⟨v2, rfl, ho2, hb2⟩
  have B2 := Lib.hid (B1.out.trans (hb2.mono B1.out.size))
  have O2 := Lib.hid (ho2.mono B1.out.size)
  clear hb2 ho2
  go_wp2
  go_ret
  exact ⟨_, rfl, O2.out, B2.out⟩

end Go.Proofs.Ytfkdefmafhlmnaa
