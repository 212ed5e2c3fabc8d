/- The walk of the law FnExactIsGlobalConsequence. Conditions: those in the theorems. -/
import Derived.Test.YtnoaaklkbfbdbaaLcW
namespace Go.Proofs.Ytnoaaklkbfbdbaa
open Go.RowKit

set_option maxHeartbeats 4000000 in
set_option maxRecDepth 100000 in
theorem lawIsGlobalConsequence (n0 : Int) (x0 : List Int) (x1 : List (List Nd)) (x2 : List Nd) (a0 : Option Addr) (len0 cap0 : Nat) (a1 : Option Addr) (len1 cap1 : Nat) (a2 : Option Addr) (len2 cap2 : Nat) (w : World) (h0 : IsArr w a0 len0 x0) (h1 : IsNodesS w a1 len1 x1) (h2 : IsNodes w a2 len2 x2) :
    Calls Try.prog 5 #[.agg #[.int .i64 n0, .slice a0 len0 cap0], .slice a1 len1 cap1, .slice a2 len2 cap2] w fun e w' => e = .returned (.bool true) ∧ Below w.heap.size w w' := by
  obtain rfl := h0.1.1
  obtain rfl := h1.1.1
  obtain rfl := h2.1.1
  have m0 := h0.2
  have H0 := Lib.hid h0.1
  clear h0
  have m1 := h1.2
  have H1 := Lib.hid h1.1
  clear h1
  have m2 := h2.2
  have H2 := Lib.hid h2.1
  clear h2
  obtain ⟨r0, hr0⟩ : ∃ r, r = gcV n0 x0 x1 x2 := ⟨_, rfl⟩
  obtain ⟨r1, hr1⟩ : ∃ r, r = cqC n0 x0 x1 x2 := ⟨_, rfl⟩
  have R0 := Lib.hid hr0
  clear hr0
  have R1 := Lib.hid hr1
  clear hr1
  obtain ⟨W0, hW0⟩ : ∃ W0, W0 = (w.alloc (.cells #[.int .i64 n0, .slice a0 x0.length cap0] 24)) := ⟨_, rfl⟩
  have B0 : Below w.heap.size w W0 := by rw [hW0]; exact ((Below.refl w.heap.size w).alloc (by simp) _)
  have Q0f0 := Lib.hid (show Bx W0 (w.heap.size) n0 a0 x0.length cap0 by rw [hW0]; exact (Bx.new _ _ _ _ _ _))
  have zz : w.heap.size + 1 ≤ W0.heap.size := by rw [hW0]; simp
  have K0 := Lib.hid (H0.out.keep B0 (Nat.le_refl _))
  clear H0
  have K1 := Lib.hid (H1.out.keep B0 (Nat.le_refl _))
  clear H1
  have K2 := Lib.hid (H2.out.keep B0 (Nat.le_refl _))
  clear H2
  have hWW := Lib.hid hW0
  clear hW0
  go_enter Try.func5, Try.ntmps5
  go_wp2_with fail
  refine (szFrame_any n0 _ _ _ (1048576 : Int) _ m0 (by omega) (by omega)).mono ?_
  obtain ⟨s0, hs0⟩ : ∃ s, s = szG (1048576 : Int) x0.length := ⟨_, rfl⟩
  rw [← hs0]
  rintro e w1 ⟨rfl, hb⟩
  rw [← hWW.out] at hb
  have z2 : W0.heap.size ≤ w1.heap.size := hb.size
  have B2 : Below W0.heap.size W0 w1 := (Below.refl W0.heap.size W0).trans (hb.mono (Below.refl W0.heap.size W0).size)
  have Q3f0 := Lib.hid (Q0f0.out.keep hb)
  clear Q0f0
  clear hb
  by_cases hb0 : (1048576 : Int) < (x0.length : Int)
  · rw [szG_no hb0] at hs0
    subst hs0
    go_wp2
    go_ret
    exact ⟨rfl, B0.trans (B2.mono B0.size)⟩
  rw [szG_yes hb0] at hs0
  have hl0 : x0.length ≤ 1048576 := by omega
  have s00 : 0 ≤ s0 := by omega
  have s10 : s0 ≤ 1048576 := by omega
  clear hs0
  go_wp2_with fail
  refine (szNodeSS_any x1 _ _ _ _ _ m1.1 (by omega) (by omega) m1.2 (K1.out.keep B2 (Nat.le_refl _))).mono ?_
  rintro e w' ⟨s1, rfl, rfl, hs1⟩
  rcases hs1 with hs1 | ⟨hs1, ht1⟩
  · go_wp2
    go_ret
    exact ⟨rfl, B0.trans (B2.mono B0.size)⟩
  have hl1 : x1.length ≤ 1048576 ∧ szTo x1 x1.length ≤ 1048576 := by omega
  have hle1 : s1 ≤ 1048576 := by omega
  clear ht1
  go_wp2_with fail
  refine (szNodeS_any _ _ _ _ _ m2 (by omega) (by omega)).mono ?_
  obtain ⟨s2, hs2⟩ : ∃ s, s = szI s1 x2.length := ⟨_, rfl⟩
  rw [← hs2]
  rintro e w' ⟨rfl, rfl⟩
  by_cases hb2 : s1 < (x2.length : Int)
  · rw [szI_no hb2] at hs2
    subst hs2
    go_wp2
    go_ret
    exact ⟨rfl, B0.trans (B2.mono B0.size)⟩
  rw [szI_yes hb2] at hs2
  have hl2 : x2.length ≤ 1048576 := by omega
  have s02 : 0 ≤ s2 := by omega
  have s12 : s2 ≤ 1048576 := by omega
  clear hs2
  obtain ⟨lt0, ca0, cb0⟩ := Q3f0.out
  go_wp2_with fail
  clear lt0 ca0 cb0
  have y7 : W0.heap.size ≤ w1.heap.size := B2.size
  refine (toFrame_any n0 x0 _ _ _ _ hl0 (K0.out.keep B2 (Nat.le_refl _))).mono ?_
  rintro e w6 ⟨vs0, rfl, ho, hb⟩
  obtain ⟨bs0, cs0, rfl⟩ := ho.form
  have oo := Lib.hid (ho.inF hb.size)
  clear ho
  have z8 : w1.heap.size ≤ w6.heap.size := hb.size
  have B8 : Below W0.heap.size W0 w6 := B2.trans (hb.mono B2.size)
  have Q9f0 := Lib.hid (Q3f0.out.keep hb)
  clear Q3f0
  clear hb
  have O10s0 := Lib.hid oo.out
  clear oo
  go_wp2_with fail
  have y12 : W0.heap.size ≤ w6.heap.size := B8.size
  refine (toNodeSS_any x1 _ _ _ _ hl1.1 (sz_all hl1.2) (K1.out.keep B8 (Nat.le_refl _))).mono ?_
  rintro e w11 ⟨vs1, rfl, ho, hb⟩
  have oo := Lib.hid ho
  clear ho
  have z13 : w6.heap.size ≤ w11.heap.size := hb.size
  have B13 : Below W0.heap.size W0 w11 := B8.trans (hb.mono B8.size)
  have O14s0 := Lib.hid (O10s0.out.below hb O10s0.out.hi)
  have Q14f0 := Lib.hid (Q9f0.out.keep hb)
  clear O10s0 Q9f0
  clear hb
  have O15s1 := Lib.hid oo.out
  clear oo
  go_wp2_with fail
  have y17 : W0.heap.size ≤ w11.heap.size := B13.size
  refine (toNodeS_any x2 _ _ _ _ hl2 (K2.out.keep B13 (Nat.le_refl _))).mono ?_
  rintro e w16 ⟨vs2, rfl, ho, hb⟩
  have oo := Lib.hid ho.inn
  clear ho
  have z18 : w11.heap.size ≤ w16.heap.size := hb.size
  have B18 : Below W0.heap.size W0 w16 := B13.trans (hb.mono B13.size)
  have O19s0 := Lib.hid (O14s0.out.below hb O14s0.out.hi)
  have O19s1 := Lib.hid (O15s1.out.below hb O15s1.out.size.2)
  have Q19f0 := Lib.hid (Q14f0.out.keep hb)
  clear O14s0 O15s1 Q14f0
  clear hb
  have O20s2 := Lib.hid oo.out
  clear oo
  go_wp2_with fail
  have y22 : W0.heap.size ≤ w16.heap.size := B18.size
  refine (specIsGlobalConsequence_v n0 x0 x1 x2 _ _ _ _ _ _ _ _ _ _ hl0 hl1 hl2 O19s0.out O19s1.out O20s2.out).mono ?_
  rw [← R0.out, ← R1.out]
  rintro e w21 ⟨rfl, hb⟩
  have z23 : w16.heap.size ≤ w21.heap.size := hb.size
  have B23 : Below W0.heap.size W0 w21 := B18.trans (hb.mono B18.size)
  have O24s0 := Lib.hid (O19s0.out.below hb O19s0.out.hi)
  have O24s1 := Lib.hid (O19s1.out.below hb O19s1.out.size.2)
  have O24s2 := Lib.hid (O20s2.out.below hb O20s2.out.2.1)
  have Q24f0 := Lib.hid (Q19f0.out.keep hb)
  clear O19s0 O19s1 O20s2 Q19f0
  clear hb
  clear O24s0
  clear O24s1
  clear O24s2
  obtain ⟨lt0, ca0, cb0⟩ := Q24f0.out
  go_wp2_with fail
  clear lt0 ca0 cb0
  have y26 : W0.heap.size ≤ w21.heap.size := B23.size
  refine (toFrame_any n0 x0 _ _ _ _ hl0 (K0.out.keep B23 (Nat.le_refl _))).mono ?_
  rintro e w25 ⟨vx0, rfl, ho, hb⟩
  obtain ⟨bx0, cx0, rfl⟩ := ho.form
  have oo := Lib.hid (ho.inF hb.size)
  clear ho
  have z27 : w21.heap.size ≤ w25.heap.size := hb.size
  have B27 : Below W0.heap.size W0 w25 := B23.trans (hb.mono B23.size)
  have Q28f0 := Lib.hid (Q24f0.out.keep hb)
  clear Q24f0
  clear hb
  have O29x0 := Lib.hid oo.out
  clear oo
  go_wp2_with fail
  obtain ⟨wb31, hwb31⟩ : ∃ W, W = w25.alloc (.cells #[.int .i64 n0, .slice bx0 x0.length cx0] 30) := ⟨_, rfl⟩
  rw [← hwb31]
  have hq := Lib.hid (show Bx wb31 w25.heap.size (n0) bx0 (x0.length) cx0 by rw [hwb31]; exact Bx.new _ _ _ _ _ _)
  obtain ⟨hb, hsz⟩ : Below w25.heap.size w25 wb31 ∧ w25.heap.size + 1 ≤ wb31.heap.size := by rw [hwb31]; exact alloc_keep _ _
  clear hwb31
  have z32 : w25.heap.size + 1 ≤ wb31.heap.size := hsz
  have B32 : Below W0.heap.size W0 wb31 := B27.trans (hb.mono B27.size)
  have O33x0 := Lib.hid (O29x0.out.below hb O29x0.out.hi)
  have Q33f0 := Lib.hid (Q28f0.out.keep hb)
  clear O29x0 Q28f0
  clear hb
  clear hsz
  have Q31bx0 := Lib.hid hq.out
  clear hq
  have y34 : W0.heap.size ≤ wb31.heap.size := B32.size
  refine (toNodeSS_any x1 _ _ _ _ hl1.1 (sz_all hl1.2) (K1.out.keep B32 (Nat.le_refl _))).mono ?_
  rintro e w30 ⟨vx1, rfl, ho, hb⟩
  have oo := Lib.hid ho
  clear ho
  have z35 : wb31.heap.size ≤ w30.heap.size := hb.size
  have B35 : Below W0.heap.size W0 w30 := B32.trans (hb.mono B32.size)
  have O36x0 := Lib.hid (O33x0.out.below hb O33x0.out.hi)
  have Q36f0 := Lib.hid (Q33f0.out.keep hb)
  have Q36x0 := Lib.hid (Q31bx0.out.keep hb)
  clear O33x0 Q33f0 Q31bx0
  clear hb
  have O37x1 := Lib.hid oo.out
  clear oo
  go_wp2_with fail
  have y39 : W0.heap.size ≤ w30.heap.size := B35.size
  refine (toNodeS_any x2 _ _ _ _ hl2 (K2.out.keep B35 (Nat.le_refl _))).mono ?_
  rintro e w38 ⟨vx2, rfl, ho, hb⟩
  have oo := Lib.hid ho.inn
  clear ho
  have z40 : w30.heap.size ≤ w38.heap.size := hb.size
  have B40 : Below W0.heap.size W0 w38 := B35.trans (hb.mono B35.size)
  have O41x0 := Lib.hid (O36x0.out.below hb O36x0.out.hi)
  have O41x1 := Lib.hid (O37x1.out.below hb O37x1.out.size.2)
  have Q41f0 := Lib.hid (Q36f0.out.keep hb)
  have Q41x0 := Lib.hid (Q36x0.out.keep hb)
  clear O36x0 O37x1 Q36f0 Q36x0
  clear hb
  have O42x2 := Lib.hid oo.out
  clear oo
  obtain ⟨lt0, ca0, cb0⟩ := Q41x0.out
  go_wp2_with fail
  clear lt0 ca0 cb0
  have y44 : W0.heap.size ≤ w38.heap.size := B40.size
  refine (implIsGlobalConsequence_v n0 x0 x1 x2 _ _ _ _ _ _ _ _ _ _ hl0 hl1 hl2 O41x0.out O41x1.out O42x2.out).mono ?_
  rw [← R0.out, ← R1.out]
  rintro e w43 ⟨rfl, hb⟩
  have z45 : w38.heap.size ≤ w43.heap.size := hb.size
  have B45 : Below W0.heap.size W0 w43 := B40.trans (hb.mono B40.size)
  have O46x0 := Lib.hid (O41x0.out.below hb O41x0.out.hi)
  have O46x1 := Lib.hid (O41x1.out.below hb O41x1.out.size.2)
  have O46x2 := Lib.hid (O42x2.out.below hb O42x2.out.2.1)
  have Q46f0 := Lib.hid (Q41f0.out.keep hb)
  have Q46x0 := Lib.hid (Q41x0.out.keep hb)
  clear O41x0 O41x1 O42x2 Q41f0 Q41x0
  clear hb
  obtain ⟨lt0, ca0, cb0⟩ := Q46f0.out
  obtain ⟨lt1, ca1, cb1⟩ := Q46x0.out
  go_wp2
  go_region_held3 (fun w' => w'.cell? ⟨w.heap.size, 0, none⟩ = some (.int .i64 n0) ∧ w'.cell? ⟨w.heap.size, 1, none⟩ = some (.slice a0 x0.length cap0) ∧ w'.cell? ⟨w25.heap.size, 0, none⟩ = some (.int .i64 (n0)) ∧ w'.cell? ⟨w25.heap.size, 1, none⟩ = some (.slice bx0 (x0.length) cx0)) (first | exact ⟨ca0, cb0, ca1, cb1⟩ | exact ⟨da0, db0, da1, db1⟩ | exact ⟨ea0, eb0, ea1, eb1⟩ | go_keep) (first | (go_at_call 11; refine (toFrame_any n0 x0 _ _ _ _ hl0 (K0.out.keep B45 (Nat.le_refl _)).drw).mono ?_; rintro e w47 ⟨vy, rfl, ho, hb⟩; obtain ⟨by47, cy47, rfl⟩ := ho.form; have yy := Lib.hid (ho.inF hb.size); clear ho; have tt := Lib.hid (below_of_drew hb); clear hb; obtain ⟨mt0, da0, db0⟩ := Q46f0.out.keep tt.out; obtain ⟨mt1, da1, db1⟩ := Q46x0.out.keep tt.out) | (go_at_call 14; refine (eqF_in n0 x0 _ _ _ _ _ _ _ hl0 (O46x0.out.below tt.out O46x0.out.hi) yy.out).mono ?_; rintro e w47' ⟨rfl, hb⟩; have uu := Lib.hid (tt.out.trans (hb.mono tt.out.size)); clear hb; obtain ⟨nt0, ea0, eb0⟩ := Q46f0.out.keep uu.out; obtain ⟨nt1, ea1, eb1⟩ := Q46x0.out.keep uu.out))
  clear lt0 lt1 mt0 mt1 nt0 nt1 yy tt ca0 cb0 da0 db0 ea0 eb0 ca1 cb1 da1 db1 ea1 eb1
  have hb := uu.out
  clear uu
  have z48 : w43.heap.size ≤ w47'.heap.size := hb.size
  have B48 : Below W0.heap.size W0 w47' := B45.trans (hb.mono B45.size)
  have O49x0 := Lib.hid (O46x0.out.below hb O46x0.out.hi)
  have O49x1 := Lib.hid (O46x1.out.below hb O46x1.out.size.2)
  have O49x2 := Lib.hid (O46x2.out.below hb O46x2.out.2.1)
  have Q49f0 := Lib.hid (Q46f0.out.keep hb)
  have Q49x0 := Lib.hid (Q46x0.out.keep hb)
  clear O46x0 O46x1 O46x2 Q46f0 Q46x0
  clear hb
  go_wp2_with fail
  have y51 : W0.heap.size ≤ w47'.heap.size := B48.size
  refine (toNodeSS_any x1 _ _ _ _ hl1.1 (sz_all hl1.2) (K1.out.keep B48 (Nat.le_refl _))).mono ?_
  rintro e w50 ⟨vy1, rfl, ho, hb⟩
  have oo := Lib.hid ho
  clear ho
  have z52 : w47'.heap.size ≤ w50.heap.size := hb.size
  have B52 : Below W0.heap.size W0 w50 := B48.trans (hb.mono B48.size)
  have O53x0 := Lib.hid (O49x0.out.below hb O49x0.out.hi)
  have O53x1 := Lib.hid (O49x1.out.below hb O49x1.out.size.2)
  have O53x2 := Lib.hid (O49x2.out.below hb O49x2.out.2.1)
  have Q53f0 := Lib.hid (Q49f0.out.keep hb)
  have Q53x0 := Lib.hid (Q49x0.out.keep hb)
  clear O49x0 O49x1 O49x2 Q49f0 Q49x0
  clear hb
  have O54y1 := Lib.hid oo.out
  clear oo
  go_wp2_with fail
  refine (eqNN_in x1 _ _ _ _ _ _ _ hl1.1 (sz_all hl1.2) O53x1.out O54y1.out).mono ?_
  rintro e w55 ⟨rfl, hb⟩
  have z56 : w50.heap.size ≤ w55.heap.size := hb.size
  have B56 : Below W0.heap.size W0 w55 := B52.trans (hb.mono B52.size)
  have O57x0 := Lib.hid (O53x0.out.below hb O53x0.out.hi)
  have O57x1 := Lib.hid (O53x1.out.below hb O53x1.out.size.2)
  have O57x2 := Lib.hid (O53x2.out.below hb O53x2.out.2.1)
  have O57y1 := Lib.hid (O54y1.out.below hb O54y1.out.size.2)
  have Q57f0 := Lib.hid (Q53f0.out.keep hb)
  have Q57x0 := Lib.hid (Q53x0.out.keep hb)
  clear O53x0 O53x1 O53x2 O54y1 Q53f0 Q53x0
  clear hb
  clear O57y1
  go_wp2_with fail
  have y59 : W0.heap.size ≤ w55.heap.size := B56.size
  refine (toNodeS_any x2 _ _ _ _ hl2 (K2.out.keep B56 (Nat.le_refl _))).mono ?_
  rintro e w58 ⟨vy2, rfl, ho, hb⟩
  have oo := Lib.hid ho.inn
  clear ho
  have z60 : w55.heap.size ≤ w58.heap.size := hb.size
  have B60 : Below W0.heap.size W0 w58 := B56.trans (hb.mono B56.size)
  have O61x0 := Lib.hid (O57x0.out.below hb O57x0.out.hi)
  have O61x1 := Lib.hid (O57x1.out.below hb O57x1.out.size.2)
  have O61x2 := Lib.hid (O57x2.out.below hb O57x2.out.2.1)
  have Q61f0 := Lib.hid (Q57f0.out.keep hb)
  have Q61x0 := Lib.hid (Q57x0.out.keep hb)
  clear O57x0 O57x1 O57x2 Q57f0 Q57x0
  clear hb
  have O62y2 := Lib.hid oo.out
  clear oo
  go_wp2_with fail
  refine (eqN_in x2 _ _ _ _ _ _ _ hl2 O61x2.out O62y2.out).mono ?_
  rintro e w63 ⟨rfl, hb⟩
  have z64 : w58.heap.size ≤ w63.heap.size := hb.size
  have B64 : Below W0.heap.size W0 w63 := B60.trans (hb.mono B60.size)
  have O65x0 := Lib.hid (O61x0.out.below hb O61x0.out.hi)
  have O65x1 := Lib.hid (O61x1.out.below hb O61x1.out.size.2)
  have O65x2 := Lib.hid (O61x2.out.below hb O61x2.out.2.1)
  have O65y2 := Lib.hid (O62y2.out.below hb O62y2.out.2.1)
  have Q65f0 := Lib.hid (Q61f0.out.keep hb)
  have Q65x0 := Lib.hid (Q61x0.out.keep hb)
  clear O61x0 O61x1 O61x2 O62y2 Q61f0 Q61x0
  clear hb
  clear O65y2
  go_wp2
  go_ret
  exact ⟨rfl, B0.trans (B64.mono B0.size)⟩

end Go.Proofs.Ytnoaaklkbfbdbaa
