/- Contracts of the program's variableImages and MatchFormula, at every argument. Conditions: those in the theorems. -/
import Derived.Test.YtfkahkhmnchnjaaMtP
namespace Go.Proofs.Ytfkahkhmnchnjaa
open Go.RowKit

set_option maxHeartbeats 1000000 in
theorem varImages_any (w : World) : Calls Try.prog 50 #[] w fun e w' => ∃ v, e = .returned v ∧ OwnL w' w.heap.size v (selfTo 6) ∧ Below w.heap.size w w' := by
  obtain ⟨i0, hinf, hz0, hz1, hz2⟩ := info_parts infoNN
  go_enter Try.func50, Try.ntmps50
  go_wp2_with (at_make; refine wpList_make_own _ rfl _ _ 39 rfl w.heap.size 24 i0 (.slice none 0 0) 1 Try.underlying39 hinf hz0 hz1 _ _ 6 6 rfl rfl rfl ?b2 ?b3 (Nat.le_refl _) ?_)
  case b2 => rw [hz2]; omega
  case b3 => unfold maxLen; omega
  intro w0 hown0 hgrow0
  have L0 : Hid (OwnL w0 w.heap.size _ (selfTo 0)) := ownL_row hown0
  have B0 := Lib.hid ((Below.refl w.heap.size w).grown hgrow0 (Nat.le_refl _) (fun k h => by cases h))
  clear hown0 hinf hz0 hz1 hz2 hgrow0
  go_wp2
  go_loopw [1, 4] (fun v i wr => ∃ j : Nat, j ≤ 6 ∧ i = .int .i64 j ∧ OwnL wr w.heap.size v (selfTo j) ∧ Below w.heap.size w wr) (fun _ i _ => 6 - (intOf i).toNat)
  case atStart => exact ⟨0, Nat.zero_le _, rfl, L0.out, B0.out⟩
  case round =>
    obtain ⟨k, hk, rfl, hown, hbel⟩ := hrel
    have HO := Lib.hid hown
    have B := Lib.hid hbel
    have LN := Lib.hid (selfTo_len k)
    clear hown hbel
    by_cases hlt : k < 6
    · have N := Lib.hid (selfTo_succ k)
      go_wp2_with fail
      refine (variableNodes_any _ _).mono ?_
      rintro e w1 ⟨rfl, -, ho1, hb1⟩
      have O1 := Lib.hid ho1
      have B1 := Lib.hid hb1
      clear ho1 hb1
      go_wp2_with (at_builtin; refine list_appLL rfl _ _ rfl w.heap.size _ _ rfl HO.out B1.out _ _ O1.out ((Below.refl _ _).alloc (Nat.le_refl _) _) ⟨w1.heap.size, 0, none⟩ 1 rfl (World.cell?_alloc_at _ _ _ _ rfl) (by rw [LN.out]; omega) B.out.size ?_; intro v2 w2 ho2 hb2)
      have O2 := Lib.hid ho2
      have B2 := Lib.hid (B.out.trans hb2)
      clear ho2 hb2
      go_roundw
      case rel => exact ⟨k + 1, hlt, by go_num, by rw [N.out]; exact O2.out, B2.out⟩
      case measure => simp [intOf]; omega
    · obtain rfl : k = 6 := by omega
      go_wp2
      go_ret
      exact ⟨_, rfl, HO.out, B.out⟩

end Go.Proofs.Ytfkahkhmnchnjaa
