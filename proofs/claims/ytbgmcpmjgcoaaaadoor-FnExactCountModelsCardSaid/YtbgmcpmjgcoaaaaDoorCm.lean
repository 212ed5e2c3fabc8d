/- CountModels of the model; slices.Max over a rising list. Conditions: those in the theorems. -/
import Derived.Test.YtbgmcpmjgcoaaaaDoorCmM
import Derived.Test.YtbgmcpmjgcoaaaaDoorFs
namespace Go.Proofs.YtbgmcpmjgcoaaaaDoor
open Go.RowKit

set_option maxHeartbeats 1000000 in
theorem slMax_any (zs : List Int) (hs : zs.Pairwise (· < ·)) (a : Option Addr) (len cap : Nat) (w : World) (hl : len ≤ 1048576) (h0 : 0 < len) (h : At w a len zs) :
    Calls Tryd.prog 34 #[.slice a len cap] w fun e w' => e = .returned (.int .i64 (nth zs (len - 1))) ∧ w = w' := by
  obtain ⟨hlen, hc0⟩ := h
  obtain ⟨b, off, rfl, hb, hc⟩ := hc0.resolve_left (by omega)
  have UP := Lib.hid (fun k (hk : k + 1 < len) => up_nth hs (k := k) (by omega))
  have HC := Lib.hid hc
  have c0 := hc 0 h0
  rw [Nat.add_zero] at c0
  clear hc hs hlen
  have hlt1 : ¬ ((len : Int) < 1) := by omega
  go_enter Tryd.func34, Tryd.ntmps34
  go_wp2
  clear c0
  go_loop [3, 4] (fun m i => ∃ j : Nat, j + 1 ≤ len ∧ i = .int .i64 ((j + 1 : Nat) : Int) ∧ m = .int .i64 (nth zs j)) (fun _ i => len - (intOf i).toNat)
  case atStart => exact ⟨0, h0, rfl, rfl⟩
  case round =>
    obtain ⟨j, hj, rfl, rfl⟩ := hrel
    by_cases hlt : j + 1 < len
    · have hcell := HC.out (j + 1) hlt
      have hup := UP.out j hlt
      obtain ⟨k, hk⟩ : ∃ k, k = j + 1 := ⟨_, rfl⟩
      rw [← hk] at hlt hcell hup ⊢
      have N := Lib.hid (show Value.int .i64 (nth zs k) = .int .i64 (nth zs k) from rfl)
      obtain ⟨y, hy⟩ : ∃ y, y = nth zs k := ⟨_, rfl⟩
      rw [← hy] at hcell hup
      have Y := Lib.hid hy
      generalize nth zs j = x at hup ⊢
      clear hy hj hk N
      have hxy : ¬ y < x := by omega
      have hxy2 : ¬ y ≤ x := by omega
      go_wp2
      go_round
      case rel => exact ⟨k, hlt, by go_num, by first | exact congrArg _ Y.out | (rw [← Y.out]; simp; omega)⟩
      case measure => simp [intOf]; omega
    · obtain rfl : j = len - 1 := by omega
      have hh : len - 1 + 1 = len := by omega
      rw [hh]
      go_wp2
      go_ret
      exact ⟨rfl, rfl⟩

end Go.Proofs.YtbgmcpmjgcoaaaaDoor
