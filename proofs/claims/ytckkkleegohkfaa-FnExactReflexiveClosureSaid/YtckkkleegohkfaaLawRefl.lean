/- The walk of the law FnExactReflexiveClosure. Conditions: those in the theorems. -/
import Derived.Test.YtckkkleegohkfaaLaw
import Derived.Test.YtckkkleegohkfaaRefl
namespace Go.Proofs.Ytckkkleegohkfaa
open Go.RowKit

theorem ReflexiveClosure_len (xs : List Int) : (outL (chkI xs xs.length) (rfTo xs xs.length)).length ≤ 1048576 := by
  unfold outL
  split
  · rename_i h; have := (chkI_small h).1; rw [rfTo_len]; omega
  · simp

set_option maxHeartbeats 1000000 in
set_option maxRecDepth 100000 in
theorem lawReflexiveClosure (xs : List Int) (a : Option Addr) (len cap : Nat) (w : World) (h : At w a len xs) :
    Calls Try.prog 16 #[.slice a len cap] w fun e w' => e = .returned (.bool true) ∧ Below w.heap.size w w' := by
  obtain rfl := h.1
  by_cases hbig : 1048576 < xs.length
  · clear h
    go_enter Try.func16, Try.ntmps16
    go_wp2
    go_ret
    exact ⟨rfl, Below.refl _ _⟩
  · have hl : xs.length ≤ 1048576 := by omega
    clear hbig
    have H := Lib.hid h
    clear h
    obtain ⟨ys, hys⟩ : ∃ ys, ys = outL (chkI xs xs.length) (rfTo xs xs.length) := ⟨_, rfl⟩
    have hly : ys.length ≤ 1048576 := by rw [hys]; exact ReflexiveClosure_len xs
    obtain ⟨c, hc⟩ : ∃ c, c = chkI xs xs.length := ⟨_, rfl⟩
    have HY := Lib.hid hys
    have HC := Lib.hid hc
    clear hys hc
    go_enter Try.func16, Try.ntmps16
    go_wp2_with fail
    refine (toInt64S_any xs _ _ _ _ hl H.out).mono ?_
    rintro e w1 ⟨v1, rfl, hown1, hb1⟩
    obtain ⟨a1, cap1, rfl, hat1, -, -, -⟩ := hown1.at
    have H1 := Lib.hid hat1
    clear hat1 hown1
    go_wp2_with fail
    refine (specReflexiveClosure_any xs _ _ _ _ hl H1.out).mono ?_
    rw [← HY.out, ← HC.out]
    rintro e w2 ⟨vw, rfl, hoR, hb2⟩
    have B2 : Below w.heap.size w w2 := hb1.trans (hb2.mono hb1.size)
    have OW := Lib.hid (hoR.mono hb1.size).inn
    clear hoR hb1 hb2
    go_wp2_with fail
    refine (toInt64S_any xs _ _ _ _ hl (H.out.keep B2 (Nat.le_refl _))).mono ?_
    rintro e w3 ⟨vx, rfl, hoR, hb⟩
    have B3 : Below w.heap.size w w3 := B2.trans (hb.mono B2.size)
    have OW3 := Lib.hid (OW.out.below hb (Nat.le_refl _))
    have OX3 := Lib.hid hoR.inn
    have s23 : w2.heap.size ≤ w3.heap.size := hb.size
    clear hoR hb OW
    obtain ⟨ax, capx, hvx, hatx, -, -, -⟩ := OX3.out.1.at
    have HVX := Lib.hid hvx
    have HATX := Lib.hid hatx
    clear hvx hatx
    go_wp2_with fail
    rw [HVX.out]
    refine (implReflexiveClosure_any xs _ _ _ _ hl HATX.out).mono ?_
    rw [← HVX.out, ← HY.out, ← HC.out]
    rintro e w4 ⟨vg, rfl, hoR, hb⟩
    have B4 : Below w.heap.size w w4 := B3.trans (hb.mono B3.size)
    have OW4 := Lib.hid (OW3.out.below hb s23)
    have OX4 := Lib.hid (OX3.out.below hb (Nat.le_refl _))
    have OG4 := Lib.hid hoR.inn
    have s34 : w3.heap.size ≤ w4.heap.size := hb.size
    clear hoR hb OW3 OX3 HATX
    go_wp2_with fail
    refine (eq_own ys _ _ _ _ _ _ _ hly OG4.out OW4.out).mono ?_
    rintro e w5 ⟨rfl, q5, rfl⟩
    have B5 : Below w.heap.size w (w4.drewN q5) := below_drewN B4 q5
    have OW5 := Lib.hid (OW4.out.drewN q5)
    have OX5 := Lib.hid (OX4.out.drewN q5)
    have OG5 := Lib.hid (OG4.out.drewN q5)
    have s45 : w4.heap.size ≤ (w4.drewN q5).heap.size := (below_drewN (Below.refl w.heap.size w4) q5).size
    clear OW4 OX4 OG4
    generalize w4.drewN q5 = W5 at B5 OW5 OX5 OG5 s45 ⊢
    go_wp2_with fail
    refine (toInt64S_any xs _ _ _ _ hl (H.out.keep B5 (Nat.le_refl _))).mono ?_
    rintro e w6 ⟨vy, rfl, hoR, hb⟩
    have B6 : Below w.heap.size w w6 := B5.trans (hb.mono B5.size)
    have OW6 := Lib.hid (OW5.out.below hb (by omega))
    have OX6 := Lib.hid (OX5.out.below hb (by omega))
    have OG6 := Lib.hid (OG5.out.below hb (by omega))
    have OY6 := Lib.hid hoR.inn
    clear hoR hb OW5 OX5 OG5
    go_wp2_with fail
    refine (eq_own xs _ _ _ _ _ _ _ hl OX6.out OY6.out).mono ?_
    rintro e w7 ⟨rfl, q7, rfl⟩
    have B7 : Below w.heap.size w (w6.drewN q7) := below_drewN B6 q7
    have OW7 := Lib.hid (OW6.out.drewN q7)
    have OX7 := Lib.hid (OX6.out.drewN q7)
    have OG7 := Lib.hid (OG6.out.drewN q7)
    clear OW6 OX6 OG6 OY6
    generalize w6.drewN q7 = W7 at B7 OW7 OX7 OG7 ⊢
    go_wp2_with fail
    refine (mark_own xs _ _ _ _ _ hl (by omega) (by omega) OX7.out).mono ?_
    rintro e w8 ⟨rfl, -, hb, hg⟩
    have B8 : Below w.heap.size w w8 := B7.trans (hb.mono B2.size)
    have OW8 := Lib.hid (OW7.out.other OX7.out hg (by omega))
    have OG8 := Lib.hid (OG7.out.other OX7.out hg (by omega))
    clear hb hg OW7 OX7 OG7
    go_wp2_with fail
    refine (eq_own ys _ _ _ _ _ _ _ hly OG8.out OW8.out).mono ?_
    rintro e w9 ⟨rfl, q9, rfl⟩
    have B9 : Below w.heap.size w (w8.drewN q9) := below_drewN B8 q9
    have OW9 := Lib.hid (OW8.out.drewN q9)
    have OG9 := Lib.hid (OG8.out.drewN q9)
    clear OW8 OG8
    generalize w8.drewN q9 = W9 at B9 OW9 OG9 ⊢
    go_wp2_with fail
    refine (mark_own ys _ _ _ _ _ hly (by omega) (by omega) OG9.out).mono ?_
    rintro e w10 ⟨rfl, om, hb, hg⟩
    have B10 : Below w.heap.size w w10 := B9.trans (hb.mono B3.size)
    have OW10 := Lib.hid (OW9.out.other OG9.out hg (by omega))
    have OG10 := Lib.hid om
    clear hb hg om OW9 OG9
    go_wp2_with fail
    refine (held_own ys.length _ _ _ _ _ hly (by omega) (by omega) OG10.out).mono ?_
    rintro e w11 ⟨rfl, rfl⟩
    go_wp2_with fail
    refine (toInt64S_any xs _ _ _ _ hl (H.out.keep B10 (Nat.le_refl _))).mono ?_
    rintro e w12 ⟨v12, rfl, hoR, hb⟩
    have B12 : Below w.heap.size w w12 := B10.trans (hb.mono B10.size)
    have OW12 := Lib.hid (OW10.out.below hb OW10.out.2.1)
    have OG12 := Lib.hid (OG10.out.below hb OG10.out.2.1)
    obtain ⟨az, capz, rfl, hatz, -, -, -⟩ := hoR.at
    have HATZ := Lib.hid hatz
    clear hatz hoR hb OW10 OG10
    go_wp2_with fail
    refine (implReflexiveClosure_any xs _ _ _ _ hl HATZ.out).mono ?_
    rw [← HY.out, ← HC.out]
    rintro e w13 ⟨vh, rfl, hoR, hb⟩
    have B13 : Below w.heap.size w w13 := B12.trans (hb.mono B12.size)
    have OW13 := Lib.hid (OW12.out.below hb OW12.out.2.1)
    have OG13 := Lib.hid (OG12.out.below hb OG12.out.2.1)
    have OH13 := Lib.hid hoR.inn
    clear hoR hb OW12 OG12 HATZ
    go_wp2_with fail
    refine (eq_own ys _ _ _ _ _ _ _ hly OH13.out OW13.out).mono ?_
    rintro e w14 ⟨rfl, q14, rfl⟩
    have B14 : Below w.heap.size w (w13.drewN q14) := below_drewN B13 q14
    have OG14 := Lib.hid (OG13.out.drewN q14)
    clear OW13 OG13 OH13
    generalize w13.drewN q14 = W14 at B14 OG14 ⊢
    go_wp2_with fail
    refine (held_own ys.length _ _ _ _ _ hly (by omega) (by omega) OG14.out).mono ?_
    rintro e w15 ⟨rfl, rfl⟩
    go_wp2
    go_ret
    exact ⟨rfl, B14⟩

end Go.Proofs.Ytckkkleegohkfaa
