/- What the program's preimage answers: the elements that are related to a member of a mask. Conditions: those in the theorems. -/
import Derived.Test.YtomldealpmohhaaBox
namespace Go.Proofs.Ytomldealpmohhaa
open Go.RowKit

def piTo (xs : List Int) (m : Int) : Nat → Int
  | 0 => 0
  | k + 1 => if bits .and .i64 (nth xs k) m == 0 then piTo xs m k else bits .or .i64 (piTo xs m k) (one k)

set_option maxHeartbeats 400000 in
theorem preimage_any (xs : List Int) (m : Int) (a : Option Addr) (len cap : Nat) (w : World) (hl : len ≤ 30) (h : At w a len xs) :
    Calls Try.prog 123 #[.slice a len cap, .int .i64 m] w fun e w' => e = .returned (.int .i64 (piTo xs m len)) ∧ w = w' := by
  obtain ⟨hlen, rfl | ⟨b, off, rfl, hb, hc⟩⟩ := h
  · clear hlen
    go_enter Try.func123, Try.ntmps123
    go_wp2
    refine wp_loop_rounds 1 ?_
    rw [rounds_succ]
    go_wp2
    go_ret
    exact ⟨rfl, rfl⟩
  · clear hlen hb
    go_enter Try.func123, Try.ntmps123
    go_wp2
    go_loop [5, 10] (fun s i => ∃ k : Nat, k ≤ len ∧ i = .int .i64 k ∧ s = .int .i64 (piTo xs m k)) (fun _ i => len - (intOf i).toNat)
    case atStart => exact ⟨0, Nat.zero_le _, rfl, rfl⟩
    case round =>
      obtain ⟨k, hk, rfl, rfl⟩ := hrel
      by_cases hlt : k < len
      · have hcell := hc k hlt
        clear hc
        cases hs : (bits .and .i64 (nth xs k) m == 0)
        all_goals
          have hs2 : (bits .and .i64 (nth xs k) m != 0) = !(bits .and .i64 (nth xs k) m == 0) := rfl
          rw [hs] at hs2
          have HB := Lib.hid hs
          clear hs
          go_wp2
          go_round
          case rel => exact ⟨k + 1, hlt, by go_num, by simp only [piTo, HB.out]; first | rfl | simp [one]⟩
          case measure => simp [intOf]; omega
      · obtain rfl : k = len := by omega
        clear hc
        go_wp2
        go_ret
        exact ⟨rfl, rfl⟩

end Go.Proofs.Ytomldealpmohhaa
