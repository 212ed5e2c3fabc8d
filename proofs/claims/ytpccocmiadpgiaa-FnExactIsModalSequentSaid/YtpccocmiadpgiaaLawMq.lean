/- The walk of the law FnExactIsModalSequent. Conditions: those in the theorems. -/
import Derived.Test.YtpccocmiadpgiaaMqV
namespace Go.Proofs.Ytpccocmiadpgiaa
open Go.RowKit

theorem AtS.drw {w : World} {a : Option Addr} {len : Nat} {xs : List (List UInt8)} (h : AtS w a len xs) : AtS w.drew a len xs := h

set_option maxHeartbeats 4000000 in
set_option maxRecDepth 100000 in
theorem lawIsModalSequent (a0 : Option Addr) (len0 cap0 : Nat) (x0 : List (List UInt8)) (b0 : Option Addr) (m0 d0 : Nat) (y0 : List (List UInt8)) (w : World) (h0 : IsStrs w a0 len0 x0 ∧ IsStrs w b0 m0 y0) :
    Calls Try.prog 4 #[.agg #[.slice a0 len0 cap0, .slice b0 m0 d0]] w fun e w' => e = .returned (.bool true) ∧ Below w.heap.size w w' := by
  obtain rfl := h0.1.1.1
  obtain rfl := h0.2.1.1
  have HA := Lib.hid h0.1
  have HC := Lib.hid h0.2
  clear h0
  obtain ⟨W0, hW0⟩ : ∃ W0, W0 = w.alloc (.cells #[.slice a0 x0.length cap0, .slice b0 y0.length d0] 25) := ⟨_, rfl⟩
  have B0 := Lib.hid (show Below w.heap.size w W0 by rw [hW0]; exact (Below.refl w.heap.size w).alloc (Nat.le_refl _) _)
  have Q0 := Lib.hid (show Bq W0 w.heap.size a0 x0.length cap0 b0 y0.length d0 by rw [hW0]; exact Bq.new _ _ _ _ _ _ _ _)
  have hWW := Lib.hid hW0
  clear hW0
  go_enter Try.func4, Try.ntmps4
  go_wp2_with fail
  rw [← hWW.out]
  refine (szModalSequent_any x0 y0 _ _ _ _ _ _ _ _ (HA.out.keep B0.out (Nat.le_refl _)) (HC.out.keep B0.out (Nat.le_refl _)) (by omega) (by omega)).mono ?_
  rintro e w1 ⟨s, rfl, hb, hs⟩
  have B1 := Lib.hid (B0.out.trans (hb.mono B0.out.size))
  have Q1 := Lib.hid (Q0.out.keep hb)
  clear hb Q0
  rcases hs with rfl | ⟨hs0, hs1, hs2, hs3⟩
  · go_wp2
    go_ret
    exact ⟨rfl, B1.out⟩
  have SL := Lib.hid (hs2.smL (by omega))
  have SR := Lib.hid (hs3.smL (by omega))
  have hl0 : x0.length ≤ 1048576 := SL.out.1
  have hm0 : y0.length ≤ 1048576 := SR.out.1
  clear hs2 hs3
  obtain ⟨lt, q0, q1⟩ := Q1.out
  go_wp2_with fail
  clear lt q0 q1
  refine (toModalSequent_any x0 y0 _ _ _ _ _ _ _ hl0 hm0 (HA.out.1.keep B1.out (Nat.le_refl _)) (HC.out.1.keep B1.out (Nat.le_refl _))).mono ?_
  rintro e w2 ⟨v2, rfl, ho, hb⟩
  have B2 := Lib.hid (B1.out.trans (hb.mono B1.out.size))
  have Q2 := Lib.hid (Q1.out.keep hb)
  obtain ⟨a2, c2, b2, d2, rfl, hat, hat'⟩ := ho.at
  have A2 := Lib.hid hat
  have A2' := Lib.hid hat'
  clear hb Q1 ho hat hat'
  obtain ⟨r, hr⟩ : ∃ r, r = mqB x0 y0 := ⟨_, rfl⟩
  have R := Lib.hid hr
  clear hr
  go_wp2_with fail
  refine (specIsModalSequent_any x0 y0 _ _ _ _ _ SL.out SR.out A2.out A2'.out).mono ?_
  rw [← R.out]
  rintro e w3 ⟨rfl, hb⟩
  have B3 := Lib.hid (B2.out.trans (hb.mono B2.out.size))
  have Q3 := Lib.hid (Q2.out.keep hb)
  clear hb Q2 A2 A2'
  obtain ⟨lt, q0, q1⟩ := Q3.out
  go_wp2_with fail
  clear lt q0 q1
  refine (toModalSequent_any x0 y0 _ _ _ _ _ _ _ hl0 hm0 (HA.out.1.keep B3.out (Nat.le_refl _)) (HC.out.1.keep B3.out (Nat.le_refl _))).mono ?_
  rintro e w4 ⟨v4, rfl, ho, hb⟩
  have B4 := Lib.hid (B3.out.trans (hb.mono B3.out.size))
  have Q4 := Lib.hid (Q3.out.keep hb)
  obtain ⟨a4, c4, b4, d4, rfl, hat, hat'⟩ := ho.at
  have A4 := Lib.hid hat
  have A4' := Lib.hid hat'
  have O4 := Lib.hid ho
  clear hb Q3 ho hat hat'
  obtain ⟨w5, hw5⟩ : ∃ W, W = w4.alloc (.cells #[.slice a4 x0.length c4, .slice b4 y0.length d4] 28) := ⟨_, rfl⟩
  have K5 := Lib.hid (show Below w4.heap.size w4 w5 by rw [hw5]; exact (Below.refl _ _).alloc (Nat.le_refl _) _)
  have X5 := Lib.hid (show Bq w5 w4.heap.size a4 x0.length c4 b4 y0.length d4 by rw [hw5]; exact Bq.new _ _ _ _ _ _ _ _)
  have B5 := Lib.hid (B4.out.trans (K5.out.mono B4.out.size))
  have Q5 := Lib.hid (Q4.out.keep K5.out)
  have HW5 := Lib.hid hw5
  clear hw5 Q4
  go_wp2_with fail
  rw [← HW5.out]
  refine (implIsModalSequent_any x0 y0 _ _ _ _ _ SL.out SR.out (A4.out.keep K5.out (Nat.le_refl _)) (A4'.out.keep K5.out (Nat.le_refl _))).mono ?_
  rw [← R.out]
  rintro e w6 ⟨rfl, hb⟩
  have B6 := Lib.hid (B5.out.trans (hb.mono B5.out.size))
  have Q6 := Lib.hid (Q5.out.keep hb)
  have X6 := Lib.hid (X5.out.keep hb)
  have O6 := Lib.hid ((O4.out.below K5.out O4.out.hi).below hb (Nat.le_trans O4.out.hi K5.out.size))
  clear hb Q5 X5 O4
  obtain ⟨lt, q0, q1⟩ := Q6.out
  obtain ⟨lt2, p0, p1⟩ := X6.out
  go_wp2
  go_region_held3 (fun w' => w'.cell? ⟨w.heap.size, 0, none⟩ = some (.slice a0 x0.length cap0) ∧ w'.cell? ⟨w.heap.size, 1, none⟩ = some (.slice b0 y0.length d0) ∧ w'.cell? ⟨w4.heap.size, 0, none⟩ = some (.slice a4 x0.length c4) ∧ w'.cell? ⟨w4.heap.size, 1, none⟩ = some (.slice b4 y0.length d4)) (first | exact ⟨q0, q1, p0, p1⟩ | exact ⟨q0', q1', p0', p1'⟩ | exact ⟨q0'', q1'', p0'', p1''⟩ | go_keep) (first | (go_at_call 10; refine (toModalSequent_any x0 y0 _ _ _ _ _ _ _ hl0 hm0 (HA.out.1.keep B6.out (Nat.le_refl _)).drw (HC.out.1.keep B6.out (Nat.le_refl _)).drw).mono ?_; rintro e w7 ⟨v7, rfl, ho, hb⟩; obtain ⟨a7, c7, b7, d7, rfl, -⟩ := ho.at; have yy := Lib.hid ho; clear ho; have tt := Lib.hid (show Below w6.heap.size w6 w7 from ⟨hb.os, hb.tape, hb.output, hb.size, hb.block⟩); clear hb; obtain ⟨mt0, q0', q1'⟩ := Q6.out.keep tt.out; obtain ⟨mt1, p0', p1'⟩ := X6.out.keep tt.out) | (go_at_call 12; refine (eqModalSequent_in x0 y0 _ _ _ _ _ _ _ hl0 hm0 (O6.out.below tt.out O6.out.hi) yy.out).mono ?_; rintro e w8 ⟨rfl, hb⟩; have uu := Lib.hid (tt.out.trans (hb.mono tt.out.size)); clear hb; obtain ⟨nt0, q0'', q1''⟩ := Q6.out.keep uu.out; obtain ⟨nt1, p0'', p1''⟩ := X6.out.keep uu.out))
  clear lt q0 q1 lt2 p0 p1 mt0 q0' q1' mt1 p0' p1' nt0 q0'' q1'' nt1 p0'' p1'' yy tt
  have B8 := Lib.hid (B6.out.trans (uu.out.mono B6.out.size))
  clear uu Q6 X6 O6
  go_wp2
  go_ret
  exact ⟨rfl, B8.out⟩

end Go.Proofs.Ytpccocmiadpgiaa
