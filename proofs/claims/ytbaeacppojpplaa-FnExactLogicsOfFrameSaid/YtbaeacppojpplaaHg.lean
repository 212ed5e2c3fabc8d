/- The comparison of a set of flags with any set of wanted ones. Conditions: those in the theorems. -/
import Derived.Test.YtbaeacppojpplaaCb
namespace Go.Proofs.Ytbaeacppojpplaa
open Go.RowKit

def hasB (c e : Nat → Bool) : Bool := [c 0, c 1, c 2, c 3, c 4, c 5, c 6, c 7, c 8, c 9, c 10] == [e 0, e 1, e 2, e 3, e 4, e 5, e 6, e 7, e 8, e 9, e 10]
theorem run_eql_flagsG (c e : Nat → Bool) (w : World) :
    (binOp .eql 88 (.agg #[.bool (c 0), .bool (c 1), .bool (c 2), .bool (c 3), .bool (c 4), .bool (c 5), .bool (c 6), .bool (c 7), .bool (c 8), .bool (c 9), .bool (c 10)]) (.agg #[.bool (e 0), .bool (e 1), .bool (e 2), .bool (e 3), .bool (e 4), .bool (e 5), .bool (e 6), .bool (e 7), .bool (e 8), .bool (e 9), .bool (e 10)])).run Try.prog w = .ok (.bool (hasB c e)) w := by
  have q := run_equalIn_bools w 9998 88 4 11 Try.underlying88 und_bool sizeOf_bool [c 0, c 1, c 2, c 3, c 4, c 5, c 6, c 7, c 8, c 9, c 10] [e 0, e 1, e 2, e 3, e 4, e 5, e 6, e 7, e 8, e 9, e 10] rfl rfl
  rw [run_eql_struct]
  show ((Op.equalIn 10000 88 _ _).run Try.prog w).andThen _ = _
  rw [show (10000 : Nat) = 9998 + 2 from rfl]
  exact (congrArg (fun r => Result.andThen r fun b w' => Result.ok (Value.bool b) w') q).trans rfl
def hgF (s e : Nat → Bool) (k j : Nat) : Bool := if j < k then (s j && e j) else false
/-- All flags of e are flags of s. -/
def hgB (s e : Nat → Bool) : Bool := hasB (hgF s e 11) e

set_option maxHeartbeats 2000000 in
set_option maxRecDepth 100000 in
theorem has_gen (s e : Nat → Bool) (w : World) :
    Calls Try.prog 67 #[.agg #[.bool (s 0), .bool (s 1), .bool (s 2), .bool (s 3), .bool (s 4), .bool (s 5), .bool (s 6), .bool (s 7), .bool (s 8), .bool (s 9), .bool (s 10)], .agg #[.bool (e 0), .bool (e 1), .bool (e 2), .bool (e 3), .bool (e 4), .bool (e 5), .bool (e 6), .bool (e 7), .bool (e 8), .bool (e 9), .bool (e 10)]] w fun r w' => r = .returned (.bool (hgB s e)) ∧ Below w.heap.size w w' := by
  obtain ⟨W, hW⟩ : ∃ W, W = ((w.alloc (.cells #[.bool (s 0), .bool (s 1), .bool (s 2), .bool (s 3), .bool (s 4), .bool (s 5), .bool (s 6), .bool (s 7), .bool (s 8), .bool (s 9), .bool (s 10)] 88)).alloc (.cells #[.bool (e 0), .bool (e 1), .bool (e 2), .bool (e 3), .bool (e 4), .bool (e 5), .bool (e 6), .bool (e 7), .bool (e 8), .bool (e 9), .bool (e 10)] 88)).alloc (.cells #[.bool false, .bool false, .bool false, .bool false, .bool false, .bool false, .bool false, .bool false, .bool false, .bool false, .bool false] 88) := ⟨_, rfl⟩
  have HB : Hid (Below w.heap.size w W) := by rw [hW]; exact Lib.hid ((((Below.refl w.heap.size w).alloc (Nat.le_refl _) _).alloc (by simp) _).alloc (by simp; omega) _)
  have S := Lib.hid (show CB W w.heap.size s by rw [hW]; exact ((CB.new w s).keep (alloc_keep _ _).1).keep (alloc_keep _ _).1)
  have E := Lib.hid (show CB W (w.heap.size + 1) e by
    rw [hW]
    have q := (CB.new (w.alloc (.cells #[.bool (s 0), .bool (s 1), .bool (s 2), .bool (s 3), .bool (s 4), .bool (s 5), .bool (s 6), .bool (s 7), .bool (s 8), .bool (s 9), .bool (s 10)] 88)) e).keep (alloc_keep _ (.cells #[.bool false, .bool false, .bool false, .bool false, .bool false, .bool false, .bool false, .bool false, .bool false, .bool false, .bool false] 88)).1
    simpa using q)
  have C := Lib.hid (show CB W (w.heap.size + 1 + 1) (hgF s e 0) by
    rw [hW]
    have q := CB.new ((w.alloc (.cells #[.bool (s 0), .bool (s 1), .bool (s 2), .bool (s 3), .bool (s 4), .bool (s 5), .bool (s 6), .bool (s 7), .bool (s 8), .bool (s 9), .bool (s 10)] 88)).alloc (.cells #[.bool (e 0), .bool (e 1), .bool (e 2), .bool (e 3), .bool (e 4), .bool (e 5), .bool (e 6), .bool (e 7), .bool (e 8), .bool (e 9), .bool (e 10)] 88)) (hgF s e 0)
    simpa [hgF] using q)
  have hz : w.heap.size + 1 + 1 + 1 ≤ W.heap.size := by rw [hW]; simp
  have HW := Lib.hid hW
  clear hW
  go_enter Try.func67, Try.ntmps67
  go_wp2
  go_loopw [8] (fun i wr => ∃ k : Nat, k ≤ 11 ∧ i = .int .i64 k ∧ Hid (CB wr (w.heap.size + 1 + 1) (hgF s e k)) ∧ Hid (Below (w.heap.size + 1 + 1) W wr)) (fun i _ => 11 - (intOf i).toNat)
  case atStart =>
    rw [← HW.out]
    exact ⟨0, Nat.zero_le _, rfl, C, Lib.hid (Below.refl _ _)⟩
  case round =>
    obtain ⟨k, hk, rfl, D, B⟩ := hrel
    by_cases hlt : k < 11
    · obtain ⟨s1, -⟩ := (S.out.below B.out (by omega)).2 k hlt
      obtain ⟨s2, -⟩ := (E.out.below B.out (by omega)).2 k hlt
      obtain ⟨s3, s4⟩ := D.out.2 k hlt
      have SE := Lib.hid (fun (v : Bool) (hv : v = (s k && e k)) (j : Nat) (_ : j < 11) => show (if j = k then v else hgF s e k j) = hgF s e (k + 1) j by
        unfold hgF
        by_cases q : j = k
        · subst q; rw [if_pos rfl, if_pos (by omega), hv]
        · rw [if_neg q]
          by_cases q2 : j < k
          · have q3 : j < k + 1 := by omega
            rw [if_pos q2, if_pos q3]
          · have q3 : ¬ j < k + 1 := by omega
            rw [if_neg q2, if_neg q3])
      cases hs : s k
      · rw [hs] at s1
        have HS := Lib.hid hs
        clear hs
        go_wp2
        go_roundw
        case rel => exact ⟨k + 1, hlt, by go_num, Lib.hid (D.out.set hlt (SE.out _ (by rw [HS.out]; rfl))), Lib.hid (B.out.setCell (by show _ ≤ _; exact Nat.le_refl _) _)⟩
        case measure => simp [intOf]; omega
      · rw [hs] at s1
        have HS := Lib.hid hs
        clear hs
        go_wp2
        go_roundw
        case rel => exact ⟨k + 1, hlt, by go_num, Lib.hid (D.out.set hlt (SE.out _ (by rw [HS.out]; rfl))), Lib.hid (B.out.setCell (by show _ ≤ _; exact Nat.le_refl _) _)⟩
        case measure => simp [intOf]; omega
    · obtain rfl : k = 11 := by omega
      have E2 := E.out.below B.out (by omega)
      have D2 := D.out
      obtain ⟨c, hc⟩ : ∃ c, c = hgF s e 11 := ⟨_, rfl⟩
      rw [← hc] at D2
      have R := Lib.hid (show hasB c e = hgB s e by rw [hgB, hc])
      clear hc
      obtain ⟨e0, -⟩ := E2.2 0 (by decide); obtain ⟨e1, -⟩ := E2.2 1 (by decide); obtain ⟨e2, -⟩ := E2.2 2 (by decide); obtain ⟨e3, -⟩ := E2.2 3 (by decide); obtain ⟨e4, -⟩ := E2.2 4 (by decide); obtain ⟨e5, -⟩ := E2.2 5 (by decide); obtain ⟨e6, -⟩ := E2.2 6 (by decide); obtain ⟨e7, -⟩ := E2.2 7 (by decide); obtain ⟨e8, -⟩ := E2.2 8 (by decide); obtain ⟨e9, -⟩ := E2.2 9 (by decide); obtain ⟨e10, -⟩ := E2.2 10 (by decide)
      obtain ⟨d0, -⟩ := D2.2 0 (by decide); obtain ⟨d1, -⟩ := D2.2 1 (by decide); obtain ⟨d2, -⟩ := D2.2 2 (by decide); obtain ⟨d3, -⟩ := D2.2 3 (by decide); obtain ⟨d4, -⟩ := D2.2 4 (by decide); obtain ⟨d5, -⟩ := D2.2 5 (by decide); obtain ⟨d6, -⟩ := D2.2 6 (by decide); obtain ⟨d7, -⟩ := D2.2 7 (by decide); obtain ⟨d8, -⟩ := D2.2 8 (by decide); obtain ⟨d9, -⟩ := D2.2 9 (by decide); obtain ⟨d10, -⟩ := D2.2 10 (by decide)
      have BB := Lib.hid (HB.out.trans (B.out.mono (by omega)))
      clear E2 D2 S E C D B hlt hk
      have re := fun W => run_eql_flagsG c e W
      go_wp2
      go_ret
      exact ⟨ret_bool R.out, BB.out⟩

end Go.Proofs.Ytbaeacppojpplaa
