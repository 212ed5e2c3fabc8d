/- Contracts of the model's functions that draw the arguments of the laws of chapter 2. Conditions: those in the theorems. -/
import Derived.Test.YtegdbcdffnopfaaAny
namespace Go.Proofs.Ytegdbcdffnopfaa
open Go.RowKit

theorem bigN (a : Option Addr) (len cap : Nat) (w : World) (h : len ≤ 4096) : Calls Try.prog 48 #[.slice a len cap] w fun e w' => e = .returned (.bool false) ∧ w = w' := by
  go_enter Try.func48, Try.ntmps48
  go_wp2
  go_ret
  exact ⟨ret_bool (decide_eq_false (by omega)), rfl⟩
theorem bigY (a : Option Addr) (len cap : Nat) (w : World) (h : 4096 < len) : Calls Try.prog 48 #[.slice a len cap] w fun e w' => e = .returned (.bool true) ∧ w = w' := by
  go_enter Try.func48, Try.ntmps48
  go_wp2
  go_ret
  exact ⟨ret_bool (decide_eq_true (by omega)), rfl⟩

set_option maxHeartbeats 2000000 in
theorem DrawJoinFormulas_any (a : Option Addr) (len cap : Nat) (w : World) (hc : Code w.heap.size w a len) :
    Calls Try.prog 49 #[.slice a len cap] w fun e w' => (∃ k v1 z1 v2 z2, e = .returned (.tuple #[.int .i64 k, v1, v2]) ∧ OwnN w' w.heap.size v1 z1 ∧ OwnN w' w.heap.size v2 z2 ∧ z1.length ≤ 64 ∧ z2.length ≤ 64) ∧ Below w.heap.size w w' := by
  have HC0 := Lib.hid hc
  clear hc
  go_enter Try.func49, Try.ntmps49
  go_wp2_with fail
  refine (l01From_any a len cap w HC0.out).mono ?_
  rintro e w1 ⟨rfl, hs1, hb1⟩
  have HS := Lib.hid hs1
  have HC := Lib.hid (HC0.out.below hb1)
  have hB1 : w.heap.size ≤ w1.heap.size := hb1.size
  have hB2 : w.heap.size < w1.heap.size := hs1.lt
  have HB := Lib.hid hb1
  clear hs1 hb1 HC0
  go_wp2_with fail
  refine (l01Next_any w.heap.size a len cap 3 _ w.heap.size (Nat.le_refl _) HS.out HC.out).mono ?_
  rintro e w2 ⟨k0, rfl, hk0, hs, hg⟩
  have G3 := Lib.hid hg
  have S3 := Lib.hid hs
  clear  hg hs
  go_wp2_with fail
  refine (l01Next_any w.heap.size a len cap 20 _ w.heap.size (Nat.le_refl _) S3.out (HC.out.grown G3.out (Nat.le_refl _) hB1)).mono ?_
  rintro e w4 ⟨t, rfl, ht, hs, hg⟩
  have G5 := Lib.hid (grown_trans G3.out hg)
  have S5 := Lib.hid hs
  clear S3 hg hs
  by_cases h0 : t = 0
  · subst h0
    have hal := (World.grownBy_alloc w4 (.cells #[.int .i64 (-1), .int .i64 1, .int .i64 5, .int .i64 7] 2) (some w.heap.size))
    have PL := Lib.hid (World.ownsRow_lit (base := w.heap.size) (e := 2) (size := 1) w4 #[.int .i64 (-1), .int .i64 1, .int .i64 5, .int .i64 7] 4 (Nat.le_trans hB1 G5.out.size) (by decide) rfl)
    have hcb : w.heap.size < w4.heap.size := Nat.lt_of_lt_of_le hB2 G5.out.size
    have G6 := Lib.hid (grown_trans G5.out hal)
    have S6 := Lib.hid (S5.out.alloc (.cells #[.int .i64 (-1), .int .i64 1, .int .i64 5, .int .i64 7] 2))
    clear hal S5
    go_wp2_with fail
    refine (l01Pick_any w.heap.size a len cap w4.heap.size 4 4 [-1, 1, 5, 7] _ w.heap.size (Nat.le_refl _) S6.out (HC.out.grown G6.out (Nat.le_refl _) hB1) rfl (by omega) (by omega) (by omega) PL.out).mono ?_
    rintro e wp ⟨⟨pk, hpk, rfl⟩, hs, hg⟩
    clear hpk PL hcb
    have G7 := Lib.hid (grown_trans G6.out hg)
    have S7 := Lib.hid hs
    clear S6 hg hs
    go_wp2_with fail
    refine (l02Any_any 20 6 true w.heap.size a len cap w.heap.size _ (Nat.le_refl _) (Nat.le_trans hB1 G7.out.size) (by omega) (by omega) S7.out (HC.out.grown G7.out (Nat.le_refl _) hB1)).mono ?_
    rintro e w8 ⟨⟨va, za, rfl, hoa, hqa⟩, hs, hg⟩
    have La := G7.out.size
    have G9 := Lib.hid (grown_trans G7.out hg)
    have S9 := Lib.hid hs
    clear S7 hg hs
    have Oa := Lib.hid (hoa.mono La)
    clear hoa La
    go_wp2_with fail
    refine (l02Any_any 20 6 true w.heap.size a len cap w.heap.size _ (Nat.le_refl _) (Nat.le_trans hB1 G9.out.size) (by omega) (by omega) S9.out (HC.out.grown G9.out (Nat.le_refl _) hB1)).mono ?_
    rintro e w10 ⟨⟨vb, zb, rfl, hob, hqb⟩, hs, hg⟩
    have Lb := G9.out.size
    have G11 := Lib.hid (grown_trans G9.out hg)
    have Oax11 := Lib.hid (Oa.out.keepG hg hB2)
    clear Oa
    have S11 := Lib.hid hs
    clear S9 hg hs
    have Ob := Lib.hid (hob.mono Lb)
    clear hob Lb
    go_wp2
    go_ret3
    exact ⟨⟨_, _, _, _, _, rfl, Oax11.out.mono hB1, Ob.out.mono hB1, hqa, hqb⟩, (grown_below G11.out (Nat.le_refl _) HB.out hB1)⟩
  · have h01 : ((t : Int) == 0) = false := by simpa using h0
    clear h0
    go_wp2_with fail
    refine (l02Any_any 20 6 true w.heap.size a len cap w.heap.size _ (Nat.le_refl _) (Nat.le_trans hB1 G5.out.size) (by omega) (by omega) S5.out (HC.out.grown G5.out (Nat.le_refl _) hB1)).mono ?_
    rintro e w6 ⟨⟨va, za, rfl, hoa, hqa⟩, hs, hg⟩
    have La := G5.out.size
    have G7 := Lib.hid (grown_trans G5.out hg)
    have S7 := Lib.hid hs
    clear S5 hg hs
    have Oa := Lib.hid (hoa.mono La)
    clear hoa La
    go_wp2_with fail
    refine (l02Any_any 20 6 true w.heap.size a len cap w.heap.size _ (Nat.le_refl _) (Nat.le_trans hB1 G7.out.size) (by omega) (by omega) S7.out (HC.out.grown G7.out (Nat.le_refl _) hB1)).mono ?_
    rintro e w8 ⟨⟨vb, zb, rfl, hob, hqb⟩, hs, hg⟩
    have Lb := G7.out.size
    have G9 := Lib.hid (grown_trans G7.out hg)
    have Oax9 := Lib.hid (Oa.out.keepG hg hB2)
    clear Oa
    have S9 := Lib.hid hs
    clear S7 hg hs
    have Ob := Lib.hid (hob.mono Lb)
    clear hob Lb
    go_wp2
    go_ret3
    exact ⟨⟨_, _, _, _, _, rfl, Oax9.out.mono hB1, Ob.out.mono hB1, hqa, hqb⟩, (grown_below G9.out (Nat.le_refl _) HB.out hB1)⟩

end Go.Proofs.Ytegdbcdffnopfaa
