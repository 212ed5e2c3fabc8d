/- The draw of DrawCloseFrame, and contracts of the laws' functions that compare lists of int64 and frames. Conditions: those in the theorems. -/
import Derived.Test.YtckilaeolkgnkaaDrG
namespace Go.Proofs.Ytckilaeolkgnkaa
open Go.RowKit

theorem bigF0 (a : Option Addr) (len cap : Nat) (w : World) (h : len ≤ 4096) : Calls Try.prog 16 #[.slice a len cap] w fun e w' => e = .returned (.bool false) ∧ w = w' := by
  go_enter Try.func16, Try.ntmps16
  go_wp2
  go_ret
  exact ⟨ret_bool (decide_eq_false (by omega)), rfl⟩
theorem bigF1 (a : Option Addr) (len cap : Nat) (w : World) (h : 4096 < len) : Calls Try.prog 16 #[.slice a len cap] w fun e w' => e = .returned (.bool true) ∧ w = w' := by
  go_enter Try.func16, Try.ntmps16
  go_wp2
  go_ret
  exact ⟨ret_bool (decide_eq_true (by omega)), rfl⟩

theorem Code.mono {B B' : Nat} {w : World} {a : Option Addr} {len : Nat} (h : Code B w a len) (hB : B ≤ B') : Code B' w a len := by
  refine ⟨h.1, ?_⟩
  rcases h.2 with h0 | ⟨cb, off, ha, hb, hc⟩
  · exact .inl h0
  · exact .inr ⟨cb, off, ha, Nat.lt_of_lt_of_le hb hB, hc⟩

/-! Lists and frames compared -/
theorem list_ne {xs ys : List Int} {k : Nat} (hk : k < xs.length) (hl : xs.length = ys.length) (h : nth xs k ≠ nth ys k) : decide (xs = ys) = false := decide_eq_false fun e => h (by rw [e])
theorem list_eq {xs ys : List Int} (hl : xs.length = ys.length) (h : ∀ j, j < xs.length → nth xs j = nth ys j) : xs = ys := by
  apply List.ext_getElem?
  intro i
  by_cases hi : i < xs.length
  · have h1 := h i hi
    have e1 : nth xs i = xs[i] := by unfold nth; rw [List.getD_eq_getElem?_getD, List.getElem?_eq_getElem hi]; rfl
    have e2 : nth ys i = ys[i]'(by omega) := by unfold nth; rw [List.getD_eq_getElem?_getD, List.getElem?_eq_getElem (by omega)]; rfl
    rw [List.getElem?_eq_getElem hi, List.getElem?_eq_getElem (by omega), ← e1, ← e2, h1]
  · rw [List.getElem?_eq_none (by omega), List.getElem?_eq_none (by omega)]

set_option maxHeartbeats 1000000 in
theorem likeInts_any (xs ys : List Int) (a a' : Option Addr) (cap cap' : Nat) (w : World) (hl : xs.length ≤ 1048576) (hl' : ys.length ≤ 1048576) (h : At w a xs.length xs) (h' : At w a' ys.length ys) :
    Calls Try.prog 18 #[.slice a xs.length cap, .slice a' ys.length cap'] w (SomeDrew w fun e => e = .returned (.bool (decide (xs = ys)))) := by
  by_cases hn : xs.length = ys.length
  · have hne : ((xs.length : Int) != (ys.length : Int)) = false := by simp [hn]
    have H := Lib.hid h
    have H' := Lib.hid h'
    have HN := Lib.hid hn
    clear h h' hn
    go_enter Try.func18, Try.ntmps18
    go_wp2
    go_loopw [5] (fun i wr => ∃ k q : Nat, k ≤ xs.length ∧ i = .int .i64 k ∧ wr = w.drewN q ∧ (∀ j, j < k → nth xs j = nth ys j)) (fun i _ => xs.length - (intOf i).toNat)
    case atStart => exact ⟨0, 0, Nat.zero_le _, rfl, rfl, fun j hj => by omega⟩
    case round =>
      obtain ⟨k, q, hk, rfl, rfl, hall⟩ := hrel
      have AL := Lib.hid hall
      clear hall
      by_cases hlt : k < xs.length
      · have hlt2 : k < ys.length := by have := HN.out; omega
        obtain ⟨b, off, rfl, hb, hc⟩ := H.out.2.resolve_left (by omega)
        obtain ⟨b', off', rfl, hb', hc'⟩ := H'.out.2.resolve_left (by omega)
        have hcell := hc k hlt
        have hcell' := hc' k hlt2
        clear hc hc' hb hb'
        cases he : (nth xs k != nth ys k)
        · have E := Lib.hid (show nth xs k = nth ys k by simpa using he)
          go_wp2
          go_region
          all_goals
            go_wp2
            go_roundw
            case rel => exact ⟨k + 1, q + 1, hlt, by go_num, rfl, fun j hj => by
              by_cases e : j = k
              · subst e; exact E.out
              · exact AL.out j (by omega)⟩
            case measure => simp [intOf]; omega
        · have E := Lib.hid (list_ne hlt HN.out (show nth xs k ≠ nth ys k by simpa using he))
          go_wp2
          go_region
          all_goals
            go_wp2
            go_ret
            exact ⟨ret_bool E.out.symm, q + 1, rfl⟩
      · obtain rfl : k = xs.length := by omega
        have E := Lib.hid (decide_eq_true (list_eq HN.out AL.out))
        go_wp2
        go_ret
        exact ⟨ret_bool E.out.symm, _, rfl⟩
  · have hne : ((xs.length : Int) != (ys.length : Int)) = true := by simp; omega
    have E := Lib.hid (show decide (xs = ys) = false from decide_eq_false fun e => hn (by rw [e]))
    clear hn h h'
    go_enter Try.func18, Try.ntmps18
    go_wp2
    go_ret
    exact ⟨ret_bool E.out.symm, 0, rfl⟩

end Go.Proofs.Ytckilaeolkgnkaa
