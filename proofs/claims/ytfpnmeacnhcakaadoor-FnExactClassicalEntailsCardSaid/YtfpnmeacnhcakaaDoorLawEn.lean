/- The walk of the law FnExactClassicalEntails. Conditions: those in the theorems. -/
import Derived.Test.YtfpnmeacnhcakaaDoorEj
namespace Go.Proofs.YtfpnmeacnhcakaaDoor
open Go.RowKit

set_option maxHeartbeats 2000000 in
set_option maxRecDepth 100000 in
theorem lawClassicalEntails (x0 : List (List Nd)) (x1 : List Nd) (a0 : Option Addr) (len0 cap0 : Nat) (a1 : Option Addr) (len1 cap1 : Nat) (w : World) (h0 : IsNodesS w a0 len0 x0) (h1 : IsNodes w a1 len1 x1) (hT : Tb w) :
    Calls Tryd.prog 8 #[.slice a0 len0 cap0, .slice a1 len1 cap1] w fun e w' => e = .returned (.bool true) ∧ Below w.heap.size w w' := by
  have TT := Lib.hid hT
  clear hT
  obtain rfl := h0.1.1
  obtain rfl := h1.1.1
  have m0 := h0.2
  have m1 := h1.2
  have H0 := Lib.hid h0.1
  clear h0
  have H1 := Lib.hid h1.1
  clear h1
  obtain ⟨r0, hr0⟩ : ∃ r, r = enV x0 x1 := ⟨_, rfl⟩
  have R0 := Lib.hid hr0
  clear hr0
  obtain ⟨r1, hr1⟩ : ∃ r, r = ckE x0 x1 := ⟨_, rfl⟩
  have R1 := Lib.hid hr1
  clear hr1
  go_enter Tryd.func8, Tryd.ntmps8
  go_wp2_with fail
  refine (szNodeSS_any x0 _ _ _ _ _ m0.1 (by omega) (by omega) m0.2 H0.out).mono ?_
  rintro e w' ⟨s0, rfl, rfl, hs0⟩
  rcases hs0 with hs0 | ⟨hs0, ht0⟩
  · go_wp2
    go_ret
    exact ⟨rfl, Below.refl _ _⟩
  have hl0 : x0.length ≤ 1048576 ∧ szTo x0 x0.length ≤ 1048576 := by omega
  have hle0 : s0 ≤ 1048576 := by omega
  clear ht0
  go_wp2_with fail
  refine (szNodeS_any _ _ _ _ _ m1 (by omega) (by omega)).mono ?_
  obtain ⟨s1, hs1⟩ : ∃ s, s = szI s0 x1.length := ⟨_, rfl⟩
  rw [← hs1]
  rintro e w' ⟨rfl, rfl⟩
  by_cases hb1 : s0 < (x1.length : Int)
  · rw [szI_no hb1] at hs1
    go_wp2
    go_ret
    exact ⟨rfl, Below.refl _ _⟩
  rw [szI_yes hb1] at hs1
  have hl1 : x1.length ≤ 1048576 := by omega
  have y2 : w.heap.size ≤ w.heap.size := (Below.refl w.heap.size w).size
  go_wp2_with fail
  refine (toNodeSS_any x0 _ _ _ _ hl0.1 (sz_all hl0.2) H0.out).mono ?_
  rintro e w1 ⟨vs0, rfl, ho, hb⟩
  have z3 := hb.size
  have B3 : Below w.heap.size w w1 := hb
  have O4s0 := Lib.hid ho
  clear ho hb
  have y6 : w.heap.size ≤ w1.heap.size := B3.size
  go_wp2_with fail
  refine (toNodeS_any x1 _ _ _ _ hl1 (H1.out.keep B3 (Nat.le_refl _))).mono ?_
  rintro e w5 ⟨vs1, rfl, ho, hb⟩
  have z7 := hb.size
  have B7 : Below w.heap.size w w5 := B3.trans (hb.mono B3.size)
  have O7s0 := Lib.hid (O4s0.out.below hb O4s0.out.size.2)
  clear O4s0
  have O8s1 := Lib.hid ho.inn
  clear ho hb
  have y10 : w.heap.size ≤ w5.heap.size := B7.size
  go_wp2_with fail
  refine (specClassicalEntails_v x0 x1 _ _ _ _ _ _ _ hl0 hl1 O7s0.out O8s1.out).mono ?_
  rw [← R0.out, ← R1.out]
  rintro e w9 ⟨rfl, hb⟩
  have z11 := hb.size
  have B11 : Below w.heap.size w w9 := B7.trans (hb.mono B7.size)
  have O11s0 := Lib.hid (O7s0.out.below hb O7s0.out.size.2)
  have O11s1 := Lib.hid (O8s1.out.below hb O8s1.out.2.1)
  clear O7s0 O8s1
  clear hb
  clear O11s0
  clear O11s1
  have y13 : w.heap.size ≤ w9.heap.size := B11.size
  go_wp2_with fail
  refine (toNodeSS_any x0 _ _ _ _ hl0.1 (sz_all hl0.2) (H0.out.keep B11 (Nat.le_refl _))).mono ?_
  rintro e w12 ⟨vx0, rfl, ho, hb⟩
  have z14 := hb.size
  have B14 : Below w.heap.size w w12 := B11.trans (hb.mono B11.size)
  have O15x0 := Lib.hid ho
  clear ho hb
  have y17 : w.heap.size ≤ w12.heap.size := B14.size
  go_wp2_with fail
  refine (toNodeS_any x1 _ _ _ _ hl1 (H1.out.keep B14 (Nat.le_refl _))).mono ?_
  rintro e w16 ⟨vx1, rfl, ho, hb⟩
  have z18 := hb.size
  have B18 : Below w.heap.size w w16 := B14.trans (hb.mono B14.size)
  have O18x0 := Lib.hid (O15x0.out.below hb O15x0.out.size.2)
  clear O15x0
  have O19x1 := Lib.hid ho.inn
  clear ho hb
  have y21 : w.heap.size ≤ w16.heap.size := B18.size
  go_wp2_with fail
  refine (implClassicalEntails_v x0 x1 _ _ _ _ _ _ _ hl0 hl1 O18x0.out O19x1.out (TT.out.keep B18 (Nat.le_refl _))).mono ?_
  rw [← R0.out, ← R1.out]
  rintro e w20 ⟨rfl, hb⟩
  have z22 := hb.size
  have B22 : Below w.heap.size w w20 := B18.trans (hb.mono B18.size)
  have O22x0 := Lib.hid (O18x0.out.below hb O18x0.out.size.2)
  have O22x1 := Lib.hid (O19x1.out.below hb O19x1.out.2.1)
  clear O18x0 O19x1
  clear hb
  have y24 : w.heap.size ≤ w20.heap.size := B22.size
  go_wp2_with fail
  refine (toNodeSS_any x0 _ _ _ _ hl0.1 (sz_all hl0.2) (H0.out.keep B22 (Nat.le_refl _))).mono ?_
  rintro e w23 ⟨vy0, rfl, ho, hb⟩
  have z25 := hb.size
  have B25 : Below w.heap.size w w23 := B22.trans (hb.mono B22.size)
  have O25x0 := Lib.hid (O22x0.out.below hb O22x0.out.size.2)
  have O25x1 := Lib.hid (O22x1.out.below hb O22x1.out.2.1)
  clear O22x0 O22x1
  have O26y0 := Lib.hid ho
  clear ho hb
  go_wp2_with fail
  refine (eqNN_in x0 _ _ _ _ _ _ _ hl0.1 (sz_all hl0.2) O25x0.out O26y0.out).mono ?_
  rintro e w27 ⟨rfl, hb⟩
  have z28 := hb.size
  have B28 : Below w.heap.size w w27 := B25.trans (hb.mono B25.size)
  have O28x0 := Lib.hid (O25x0.out.below hb O25x0.out.size.2)
  have O28x1 := Lib.hid (O25x1.out.below hb O25x1.out.2.1)
  have O28y0 := Lib.hid (O26y0.out.below hb O26y0.out.size.2)
  clear O25x0 O25x1 O26y0
  clear hb
  clear O28y0
  have y30 : w.heap.size ≤ w27.heap.size := B28.size
  go_wp2_with fail
  refine (toNodeS_any x1 _ _ _ _ hl1 (H1.out.keep B28 (Nat.le_refl _))).mono ?_
  rintro e w29 ⟨vy1, rfl, ho, hb⟩
  have z31 := hb.size
  have B31 : Below w.heap.size w w29 := B28.trans (hb.mono B28.size)
  have O31x0 := Lib.hid (O28x0.out.below hb O28x0.out.size.2)
  have O31x1 := Lib.hid (O28x1.out.below hb O28x1.out.2.1)
  clear O28x0 O28x1
  have O32y1 := Lib.hid ho.inn
  clear ho hb
  go_wp2_with fail
  refine (eqN_in x1 _ _ _ _ _ _ _ hl1 O31x1.out O32y1.out).mono ?_
  rintro e w33 ⟨rfl, hb⟩
  have z34 := hb.size
  have B34 : Below w.heap.size w w33 := B31.trans (hb.mono B31.size)
  have O34x0 := Lib.hid (O31x0.out.below hb O31x0.out.size.2)
  have O34x1 := Lib.hid (O31x1.out.below hb O31x1.out.2.1)
  have O34y1 := Lib.hid (O32y1.out.below hb O32y1.out.2.1)
  clear O31x0 O31x1 O32y1
  clear hb
  clear O34y1
  go_wp2
  go_ret
  exact ⟨rfl, B34⟩

end Go.Proofs.YtfpnmeacnhcakaaDoor
