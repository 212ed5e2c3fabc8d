/- The walk of the law FnExactSequentFormula. Conditions: those in the theorems. -/
import Derived.Test.YtpccocmiadpgiaaSqG
namespace Go.Proofs.Ytpccocmiadpgiaa
open Go.RowKit

theorem AtS.drwF {w : World} {a : Option Addr} {len : Nat} {xs : List (List UInt8)} (h : AtS w a len xs) : AtS w.drew a len xs := h
theorem InN.othF {w w' : World} {lo hi lo' hi' : Nat} {v : Value} {b : Option Nat} {xs : List Nd} (h : InN w lo hi v xs) (hu : ∀ k, b = some k → lo' ≤ k ∧ k < hi') (hg : w.grownBy w' b) (hd : hi ≤ lo' ∨ hi' ≤ lo) : InN w' lo hi v xs := by
  refine ⟨World.ownsRow.kept h.1 hg ?_, Nat.le_trans h.2.1 hg.size, h.2.2⟩
  cases hv : v.ownBlock with
  | none => exact .inl rfl
  | some k =>
    right
    intro e
    have h1 := h.2.2 k hv
    have h2 := hu k e.symm
    omega
theorem InN.othGq {w w' : World} {lo hi lo' hi' : Nat} {v : Value} {xs : List Nd} (h : InN w lo hi v xs) (g : Gq w w' lo' hi') (hd : hi ≤ lo' ∨ hi' ≤ lo) : InN w' lo hi v xs := by
  obtain ⟨wm, b1, b2, g1, g2, u1, u2⟩ := g
  exact (h.othF u1 g1 hd).othF u2 g2 hd

set_option maxHeartbeats 8000000 in
set_option maxRecDepth 100000 in
theorem lawSequentFormula (a0 : Option Addr) (len0 cap0 : Nat) (x0 : List (List UInt8)) (b0 : Option Addr) (m0 d0 : Nat) (y0 : List (List UInt8)) (w : World) (h0 : IsStrs w a0 len0 x0 ∧ IsStrs w b0 m0 y0) :
    Calls Try.prog 5 #[.agg #[.slice a0 len0 cap0, .slice b0 m0 d0]] w fun e w' => e = .returned (.bool true) ∧ Below w.heap.size w w' := by
  obtain rfl := h0.1.1.1
  obtain rfl := h0.2.1.1
  have HA := Lib.hid h0.1
  have HC := Lib.hid h0.2
  clear h0
  obtain ⟨W0, hW0⟩ : ∃ W0, W0 = w.alloc (.cells #[.slice a0 x0.length cap0, .slice b0 y0.length d0] 25) := ⟨_, rfl⟩
  have B0 := Lib.hid (show Below w.heap.size w W0 by rw [hW0]; exact (Below.refl w.heap.size w).alloc (Nat.le_refl _) _)
  have Q0 := Lib.hid (show Bq W0 w.heap.size a0 x0.length cap0 b0 y0.length d0 by rw [hW0]; exact Bq.new _ _ _ _ _ _ _ _)
  have hWW := Lib.hid hW0
  clear hW0
  obtain ⟨r0, hr0⟩ : ∃ r, r = sqR x0 y0 := ⟨_, rfl⟩
  have hly : r0.length ≤ 1048576 := by rw [hr0]; exact SequentFormula_len x0 y0
  have R0 := Lib.hid hr0
  clear hr0
  obtain ⟨r1, hr1⟩ : ∃ r, r = sqE x0 y0 := ⟨_, rfl⟩
  have R1 := Lib.hid hr1
  clear hr1
  go_enter Try.func5, Try.ntmps5
  go_wp2_with fail
  rw [← hWW.out]
  refine (szModalSequent_any x0 y0 _ _ _ _ _ _ _ _ (HA.out.keep B0.out (Nat.le_refl _)) (HC.out.keep B0.out (Nat.le_refl _)) (by omega) (by omega)).mono ?_
  rintro e w1 ⟨s, rfl, hb, hs⟩
  have B1 := Lib.hid (B0.out.trans (hb.mono B0.out.size))
  have Q1 := Lib.hid (Q0.out.keep hb)
  have c1 := hb.size
  clear hb Q0
  rcases hs with rfl | ⟨hs0, hs1, hs2, hs3⟩
  · go_wp2
    go_ret
    exact ⟨rfl, B1.out⟩
  have SL := Lib.hid (hs2.smL (by omega))
  have SR := Lib.hid (hs3.smL (by omega))
  have hl0 : x0.length ≤ 1048576 := SL.out.1
  have hm0 : y0.length ≤ 1048576 := SR.out.1
  clear hs2 hs3
  obtain ⟨lt, q0, q1⟩ := Q1.out
  go_wp2_with fail
  clear lt q0 q1
  refine (toModalSequent_any x0 y0 _ _ _ _ _ _ _ hl0 hm0 (HA.out.1.keep B1.out (Nat.le_refl _)) (HC.out.1.keep B1.out (Nat.le_refl _))).mono ?_
  rintro e w2 ⟨v2, rfl, ho, hb⟩
  have B2 := Lib.hid (B1.out.trans (hb.mono B1.out.size))
  have Q2 := Lib.hid (Q1.out.keep hb)
  have c2s := hb.size
  obtain ⟨a2, c2, b2, d2, rfl, hat, hat'⟩ := ho.at
  have A2 := Lib.hid hat
  have A2' := Lib.hid hat'
  clear hb Q1 ho hat hat'
  go_wp2_with fail
  refine (specSequentFormula_v x0 y0 _ _ _ _ _ SL.out SR.out A2.out A2'.out).mono ?_
  rw [← R0.out, ← R1.out]
  rintro e w3 ⟨vw, rfl, ho, hb⟩
  have B3 := Lib.hid (B2.out.trans (hb.mono B2.out.size))
  have Q3 := Lib.hid (Q2.out.keep hb)
  have OW := Lib.hid ho.inn
  have hws := Lib.hid (show W0.heap.size ≤ w3.heap.size from Nat.le_trans c1 (Nat.le_trans c2s hb.size))
  clear c1 c2s
  clear hb Q2 A2 A2' ho
  obtain ⟨lt, q0, q1⟩ := Q3.out
  go_wp2_with fail
  clear lt q0 q1
  refine (toModalSequent_any x0 y0 _ _ _ _ _ _ _ hl0 hm0 (HA.out.1.keep B3.out (Nat.le_refl _)) (HC.out.1.keep B3.out (Nat.le_refl _))).mono ?_
  rintro e w4 ⟨v4, rfl, ho, hb⟩
  have B4 := Lib.hid (B3.out.trans (hb.mono B3.out.size))
  have Q4 := Lib.hid (Q3.out.keep hb)
  obtain ⟨a4, c4, b4, d4, rfl, hat, hat'⟩ := ho.at
  have A4 := Lib.hid hat
  have A4' := Lib.hid hat'
  have O4 := Lib.hid ho
  have OW4 := Lib.hid (OW.out.below hb OW.out.2.1)
  have s34 := hb.size
  clear hb Q3 ho hat hat' OW
  obtain ⟨w5, hw5⟩ : ∃ W, W = w4.alloc (.cells #[.slice a4 x0.length c4, .slice b4 y0.length d4] 28) := ⟨_, rfl⟩
  have K5 := Lib.hid (show Below w4.heap.size w4 w5 by rw [hw5]; exact (Below.refl _ _).alloc (Nat.le_refl _) _)
  have X5 := Lib.hid (show Bq w5 w4.heap.size a4 x0.length c4 b4 y0.length d4 by rw [hw5]; exact Bq.new _ _ _ _ _ _ _ _)
  have B5 := Lib.hid (B4.out.trans (K5.out.mono B4.out.size))
  have Q5 := Lib.hid (Q4.out.keep K5.out)
  have OW5 := Lib.hid (OW4.out.below K5.out OW4.out.2.1)
  have O5 := Lib.hid (O4.out.below K5.out O4.out.hi)
  have s45 : w4.heap.size + 1 ≤ w5.heap.size := by rw [hw5]; simp
  have HW5 := Lib.hid hw5
  clear hw5 Q4 OW4 O4
  go_wp2_with fail
  rw [← HW5.out]
  refine (implSequentFormula_v x0 y0 _ _ _ _ _ SL.out SR.out (A4.out.keep K5.out (Nat.le_refl _)) (A4'.out.keep K5.out (Nat.le_refl _))).mono ?_
  rw [← R0.out, ← R1.out]
  rintro e w6 ⟨vg, rfl, ho, hb⟩
  have B6 := Lib.hid (B5.out.trans (hb.mono B5.out.size))
  have Q6 := Lib.hid (Q5.out.keep hb)
  have X6 := Lib.hid (X5.out.keep hb)
  have O6 := Lib.hid (O5.out.below hb O5.out.hi)
  have OW6 := Lib.hid (OW5.out.below hb OW5.out.2.1)
  have OG6 := Lib.hid ho.inn
  have s56 := hb.size
  clear hb Q5 X5 O5 OW5 ho A4 A4'
  go_wp2_with fail
  refine (eqN_in r0 _ _ _ _ _ _ _ hly OG6.out OW6.out).mono ?_
  rintro e w7 ⟨rfl, hb⟩
  have B7 := Lib.hid (B6.out.trans (hb.mono B6.out.size))
  have Q7 := Lib.hid (Q6.out.keep hb)
  have X7 := Lib.hid (X6.out.keep hb)
  have O7 := Lib.hid (O6.out.below hb O6.out.hi)
  have OW7 := Lib.hid (OW6.out.below hb OW6.out.2.1)
  have OG7 := Lib.hid (OG6.out.below hb OG6.out.2.1)
  have s67 := hb.size
  clear hb Q6 X6 O6 OW6 OG6
  obtain ⟨lt, q0, q1⟩ := Q7.out
  obtain ⟨lt2, p0, p1⟩ := X7.out
  go_wp2
  go_region_held3 (fun w' => w'.cell? ⟨w.heap.size, 0, none⟩ = some (.slice a0 x0.length cap0) ∧ w'.cell? ⟨w.heap.size, 1, none⟩ = some (.slice b0 y0.length d0) ∧ w'.cell? ⟨w4.heap.size, 0, none⟩ = some (.slice a4 x0.length c4) ∧ w'.cell? ⟨w4.heap.size, 1, none⟩ = some (.slice b4 y0.length d4)) (first | exact ⟨q0, q1, p0, p1⟩ | exact ⟨q0', q1', p0', p1'⟩ | exact ⟨q0'', q1'', p0'', p1''⟩ | go_keep) (first | (go_at_call 10; refine (toModalSequent_any x0 y0 _ _ _ _ _ _ _ hl0 hm0 (HA.out.1.keep B7.out (Nat.le_refl _)).drwF (HC.out.1.keep B7.out (Nat.le_refl _)).drwF).mono ?_; rintro e w8 ⟨v8, rfl, ho, hb⟩; obtain ⟨a8, c8, b8, d8, rfl, -⟩ := ho.at; have yy := Lib.hid ho; clear ho; have tt := Lib.hid (show Below w7.heap.size w7 w8 from ⟨hb.os, hb.tape, hb.output, hb.size, hb.block⟩); clear hb; obtain ⟨mt0, q0', q1'⟩ := Q7.out.keep tt.out; obtain ⟨mt1, p0', p1'⟩ := X7.out.keep tt.out) | (go_at_call 12; refine (eqModalSequent_in x0 y0 _ _ _ _ _ _ _ hl0 hm0 (O7.out.below tt.out O7.out.hi) yy.out).mono ?_; rintro e w9 ⟨rfl, hb⟩; have uu := Lib.hid (tt.out.trans (hb.mono tt.out.size)); clear hb; obtain ⟨nt0, q0'', q1''⟩ := Q7.out.keep uu.out; obtain ⟨nt1, p0'', p1''⟩ := X7.out.keep uu.out))
  clear lt q0 q1 lt2 p0 p1 mt0 q0' q1' mt1 p0' p1' nt0 q0'' q1'' nt1 p0'' p1'' yy tt
  have B9 := Lib.hid (B7.out.trans (uu.out.mono B7.out.size))
  have Q9 := Lib.hid (Q7.out.keep uu.out)
  have X9 := Lib.hid (X7.out.keep uu.out)
  have O9 := Lib.hid (O7.out.below uu.out O7.out.hi)
  have OW9 := Lib.hid (OW7.out.below uu.out OW7.out.2.1)
  have OG9 := Lib.hid (OG7.out.below uu.out OG7.out.2.1)
  have s79 := uu.out.size
  clear uu Q7 X7 O7 OW7 OG7
  obtain ⟨lt2, p0, p1⟩ := X9.out
  go_wp2_with fail
  clear lt2 p0 p1
  have s03 := B3.out.size
  refine (markModalSequent_in x0 y0 _ _ _ 1 _ hl0 hm0 (by omega) (by omega) O9.out).mono ?_
  obtain ⟨z, hz⟩ : ∃ z : Int, z = ((1 + x0.length + y0.length : Nat) : Int) := ⟨_, rfl⟩
  rw [← hz]
  have hz0 : 0 ≤ z := by omega
  clear hz
  rintro e w10 ⟨rfl, -, hb, hg⟩
  have B10 := Lib.hid (B9.out.trans (hb.mono s03))
  have Q10 := Lib.hid (Q9.out.below hb (by have h1 : w.heap.size + 1 ≤ W0.heap.size := (by rw [hWW.out]; simp); have h4 : W0.heap.size ≤ w3.heap.size := hws.out; omega))
  have OW10 := Lib.hid (OW9.out.othGq hg (.inl (by omega)))
  have OG10 := Lib.hid (OG9.out.othGq hg (.inr (by omega)))
  have s910 := hb.size
  clear hb hg Q9 X9 O9 OW9 OG9
  go_wp2_with fail
  refine (eqN_in r0 _ _ _ _ _ _ _ hly OG10.out OW10.out).mono ?_
  rintro e w11 ⟨rfl, hb⟩
  have B11 := Lib.hid (B10.out.trans (hb.mono B10.out.size))
  have Q11 := Lib.hid (Q10.out.keep hb)
  have OW11 := Lib.hid (OW10.out.below hb OW10.out.2.1)
  have OG11 := Lib.hid (OG10.out.below hb OG10.out.2.1)
  clear hb Q10 OW10 OG10
  go_wp2_with fail
  refine (markN_in r0 _ _ _ _ _ hly (by omega) (by omega) OG11.out).mono ?_
  rintro e w12 ⟨rfl, om, hb, hg⟩
  have B12 := Lib.hid (B11.out.trans (hb.mono B5.out.size))
  have Q12 := Lib.hid (Q11.out.below hb (by have h4 : W0.heap.size ≤ w3.heap.size := hws.out; have h1 : w.heap.size + 1 ≤ W0.heap.size := (by rw [hWW.out]; simp); omega))
  have OW12 := Lib.hid (OW11.out.other OG11.out.2.2 hg (by omega))
  have OG12 := Lib.hid om
  clear hb hg om Q11 OW11 OG11
  go_wp2_with fail
  refine (heldN_in r0.length _ _ _ _ _ hly (by omega) (by omega) OG12.out).mono ?_
  rintro e w13 ⟨rfl, rfl⟩
  obtain ⟨lt, q0, q1⟩ := Q12.out
  go_wp2_with fail
  clear lt q0 q1
  refine (toModalSequent_any x0 y0 _ _ _ _ _ _ _ hl0 hm0 (HA.out.1.keep B12.out (Nat.le_refl _)) (HC.out.1.keep B12.out (Nat.le_refl _))).mono ?_
  rintro e w14 ⟨v14, rfl, ho, hb⟩
  have B14 := Lib.hid (B12.out.trans (hb.mono B12.out.size))
  obtain ⟨a14, c14, b14, d14, rfl, hat, hat'⟩ := ho.at
  have A14 := Lib.hid hat
  have A14' := Lib.hid hat'
  have OW14 := Lib.hid (OW12.out.below hb OW12.out.2.1)
  have OG14 := Lib.hid (OG12.out.below hb OG12.out.2.1)
  clear hb ho hat hat' OW12 OG12 Q12
  go_wp2_with fail
  refine (implSequentFormula_v x0 y0 _ _ _ _ _ SL.out SR.out A14.out A14'.out).mono ?_
  rw [← R0.out, ← R1.out]
  rintro e w15 ⟨vh, rfl, ho, hb⟩
  have B15 := Lib.hid (B14.out.trans (hb.mono B14.out.size))
  have OW15 := Lib.hid (OW14.out.below hb OW14.out.2.1)
  have OG15 := Lib.hid (OG14.out.below hb OG14.out.2.1)
  have OH15 := Lib.hid ho.inn
  clear hb ho OW14 OG14 A14 A14'
  go_wp2_with fail
  refine (eqN_in r0 _ _ _ _ _ _ _ hly OH15.out OW15.out).mono ?_
  rintro e w16 ⟨rfl, hb⟩
  have B16 := Lib.hid (B15.out.trans (hb.mono B15.out.size))
  have OG16 := Lib.hid (OG15.out.below hb OG15.out.2.1)
  clear hb OW15 OG15 OH15
  go_wp2_with fail
  refine (heldN_in r0.length _ _ _ _ _ hly (by omega) (by omega) OG16.out).mono ?_
  rintro e w17 ⟨rfl, rfl⟩
  go_wp2
  go_ret
  exact ⟨rfl, B16.out⟩

end Go.Proofs.Ytpccocmiadpgiaa
