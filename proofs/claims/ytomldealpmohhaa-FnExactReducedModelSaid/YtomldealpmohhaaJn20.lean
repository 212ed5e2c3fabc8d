/- 2 texts in one: EqP, SameI. -/
import Derived.Test.YtomldealpmohhaaJn02
/- The contract of slices.Equal at partitions. Conditions: those in the theorem. -/
namespace Go.Proofs.Ytomldealpmohhaa
open Go.RowKit

set_option maxHeartbeats 1000000 in
theorem slEqualP_any (xs ys : List Int) (a a' : Option Addr) (len len' cap cap' : Nat) (w : World) (hl : len ≤ 1048576) (hl' : len' ≤ 1048576) (h : At w a len xs) (h' : At w a' len' ys) :
    Calls Try.prog 110 #[.slice a len cap, .slice a' len' cap'] w fun e w' => e = .returned (.bool (decide (xs = ys))) ∧ Below w.heap.size w w' := by
  have e1 := h.1
  have e2 := h'.1
  have H := Lib.hid h
  have H' := Lib.hid h'
  clear h h'
  by_cases hll : len = len'
  · subst hll
    have E := Lib.hid (show xs.length = ys.length by omega)
    have X := Lib.hid (show len = xs.length from e1)
    clear e1 e2 hl'
    go_enter Try.func110, Try.ntmps110
    go_wp2
    go_loopw [13] (fun i wr => ∃ k : Nat, k ≤ len ∧ i = .int .i64 k ∧ (∀ j, j < k → nth xs j = nth ys j) ∧ Below w.heap.size w wr) (fun i _ => len - (intOf i).toNat)
    case atStart => exact ⟨0, Nat.zero_le _, rfl, (fun j hj => absurd hj (by omega)), Below.refl _ _⟩
    case round =>
      obtain ⟨k, hk, rfl, hall, hbel⟩ := hrel
      have A := Lib.hid hall
      have BL := Lib.hid hbel
      clear hall hbel
      by_cases hlt : k < len
      · obtain ⟨b, off, rfl, hb, hc⟩ := H.out.2.resolve_left (by omega)
        obtain ⟨b', off', rfl, hb', hc'⟩ := H'.out.2.resolve_left (by omega)
        have g1 : wr.cell? ⟨b, off + k, none⟩ = some (.int .i64 (nth xs k)) := (BL.out.cell (p := ⟨b, off + k, none⟩) hb).trans (hc k hlt)
        have g1' : wr.cell? ⟨b', off' + k, none⟩ = some (.int .i64 (nth ys k)) := (BL.out.cell (p := ⟨b', off' + k, none⟩) hb').trans (hc' k hlt)
        clear hc hc'
        by_cases hq : nth xs k = nth ys k
        · have A2 : Hid (∀ j, j < k + 1 → nth xs j = nth ys j) := by
            show ∀ j, j < k + 1 → nth xs j = nth ys j
            intro j hj
            by_cases e : j = k
            · subst e; exact hq
            · exact A.out j (by omega)
          go_wp2
          go_region
          all_goals
            go_wp2
            go_roundw
            case rel => exact ⟨k + 1, hlt, by go_num, A2.out, BL.out.drew⟩
            case measure => simp [intOf]; omega
        · have HD : Hid (decide (xs = ys) = false) := by
            show decide (xs = ys) = false
            rw [decide_eq_false_iff_not]
            intro e
            subst e
            exact hq rfl
          go_wp2
          go_region
          all_goals
            go_wp2
            go_ret
            exact ⟨ret_bool HD.out.symm, BL.out.drew⟩
      · obtain rfl : k = len := by omega
        have HD : Hid (decide (xs = ys) = true) := by
          show decide (xs = ys) = true
          rw [decide_eq_true_iff]
          exact list_ext_i E.out (fun j hj => A.out j (by rw [X.out]; exact hj))
        clear X
        go_wp2
        go_ret
        exact ⟨ret_bool HD.out.symm, BL.out⟩
  · have HD : Hid (decide (xs = ys) = false) := by
      show decide (xs = ys) = false
      rw [decide_eq_false_iff_not]
      intro e
      subst e
      omega
    clear e1 e2
    have hll' : ¬ ((len : Int) = (len' : Int)) := by omega
    go_enter Try.func110, Try.ntmps110
    go_wp2
    go_ret
    exact ⟨ret_bool HD.out.symm, Below.refl _ _⟩

end Go.Proofs.Ytomldealpmohhaa

/- The contract of the model's l01Same. Conditions: those in the theorem. -/
namespace Go.Proofs.Ytomldealpmohhaa
open Go.RowKit

end Go.Proofs.Ytomldealpmohhaa
