/- Contract of the method bind of the program's unification. Conditions: those in the theorem. -/
import Derived.Test.YtbhgedabcclimaaUfB
import Derived.Deep.RegionLaw
namespace Go.Proofs.Ytbhgedabcclimaa
open Go.RowKit

set_option maxHeartbeats 16000000 in
set_option maxRecDepth 100000 in
theorem bind_any (xs ys Y : List Nd) (im : List (List Nd)) (q R B : Nat) (ax ay ag : Option Addr) (cx cy cg yb yo yc : Nat) (w : World) (hx : isB xs xs.length = true) (hy : isB ys ys.length = true) (hY : isB Y Y.length = true) (_hq : q ≤ 5) (hf : fms im) (_h6 : im.length = 6)
    (hB : B ≤ R) (hR : UnR w R (.slice ax xs.length cx) (.slice ay ys.length cy) (.slice ag 6 cg)) (h : AtN w ax xs.length xs) (h' : AtN w ay ys.length ys) (hi : AtNN w ag 6 im) (hYw : AtN w (some ⟨yb, yo, none⟩) Y.length Y) :
    Calls Try.prog 80 #[.pointer (some ⟨R, 0, none⟩), .int .i64 q, .slice (some ⟨yb, yo, none⟩) Y.length yc] w fun e w' => (∃ v, e = .returned v) ∧ ∃ va vb vi, UnR w' R va vb vi ∧ OwnN w' w.heap.size va (bd q Y xs) ∧ OwnN w' w.heap.size vb (bd q Y ys) ∧ OwnL w' w.heap.size vi (thTo (sgB q Y) im 6) ∧ Below B w w' := by
  have HR := Lib.hid hR
  have H := Lib.hid h
  have H' := Lib.hid h'
  have HI := Lib.hid hi
  have HX := Lib.hid hx
  have HY := Lib.hid hy
  have HYY := Lib.hid hY
  have YW := Lib.hid hYw
  have F := Lib.hid hf
  have h40 := (is_pos' hx).2
  have h40' := (is_pos' hy).2
  have SIX := Lib.hid (show ∀ p : Nat, p ≤ 5 → 0 < (sgB q Y p).length ∧ (sgB q Y p).length ≤ 40 from sOK_len (sOK_B hY))
  have RL := Lib.hid hR.lt
  clear hR h h' hi hx hy hY hYw hf
  go_enter Try.func80, Try.ntmps80
  go_wp2_with fail
  refine (binding_any _ _ _ _ _).mono ?_
  rintro e w1 ⟨R1, R2, rfl, k1, k2, l1, l2, hb1⟩
  have I1 := Lib.hid (bind_img k1 k2 l1 l2 (YW.out.keep hb1 (Nat.le_refl _)))
  have UR1 := Lib.hid (HR.out.keep hb1 (Nat.le_refl _))
  have B1 := Lib.hid hb1
  have A1 := Lib.hid (H.out.keep hb1 (Nat.le_refl _))
  have A1' := Lib.hid (H'.out.keep hb1 (Nat.le_refl _))
  have N1 := Lib.hid (HI.out.keep hb1 (Nat.le_refl _))
  obtain ⟨r0, r1, r2, z0, z1, z2⟩ := UR1.out.cells
  have CELLS := Lib.hid (show ∀ W', Below w1.heap.size w1 W' → W'.cell? ⟨R, 0, none⟩ = some (.slice ax xs.length cx) ∧ W'.cell? ⟨R, 1, none⟩ = some (.slice ay ys.length cy) ∧ W'.cell? ⟨R, 2, none⟩ = some (.slice ag 6 cg) ∧ W'.frozen? ⟨R, 0, none⟩ = false ∧ W'.frozen? ⟨R, 1, none⟩ = false ∧ W'.frozen? ⟨R, 2, none⟩ = false from fun W' hb => (UR1.out.keep hb (Nat.le_refl _)).cells)
  have CA := Lib.hid (show ∀ W', Below w1.heap.size w1 W' → Calls Try.prog 62 #[.func (.func 108) #[] #[.pointer (some ⟨R1, 0, none⟩), .pointer (some ⟨R2, 0, none⟩)], .slice ax xs.length cx] W' fun e w' => ∃ a n c, e = .returned (.slice a n c) ∧ Hid (OwnN w' w1.heap.size (.slice a n c) (bd q Y xs) ∧ Below W'.heap.size W' w' ∧ Below w1.heap.size w1 w') ∧ w'.cell? ⟨R, 0, none⟩ = some (.slice ax xs.length cx) ∧ w'.cell? ⟨R, 1, none⟩ = some (.slice ay ys.length cy) ∧ w'.cell? ⟨R, 2, none⟩ = some (.slice ag 6 cg) from fun W' hb => by
    refine (imageB_any R1 R2 (sgB q Y) xs ax xs.length cx W' h40 (is_treeTo' HX.out) (A1.out.keep hb (Nat.le_refl _)) (I1.out.keep hb) SIX.out).mono ?_
    rintro e w' ⟨v, rfl, ho, hb'⟩
    have hbb := hb.trans (hb'.mono hb.size)
    obtain ⟨a, c, rfl, -⟩ := ho.at
    obtain ⟨d0, d1, d2, -⟩ := CELLS.out w' hbb
    exact ⟨a, _, c, rfl, (show _ ∧ _ ∧ _ from ⟨ownsRow_mono ho hb.size, hb', hbb⟩), d0, d1, d2⟩)
  have CB := Lib.hid (show ∀ W', Below w1.heap.size w1 W' → Calls Try.prog 62 #[.func (.func 108) #[] #[.pointer (some ⟨R1, 0, none⟩), .pointer (some ⟨R2, 0, none⟩)], .slice ay ys.length cy] W' fun e w' => ∃ a n c, e = .returned (.slice a n c) ∧ Hid (OwnN w' w1.heap.size (.slice a n c) (bd q Y ys) ∧ Below W'.heap.size W' w' ∧ Below w1.heap.size w1 w') ∧ w'.cell? ⟨R, 0, none⟩ = some (.slice ax xs.length cx) ∧ w'.cell? ⟨R, 1, none⟩ = some (.slice ay ys.length cy) ∧ w'.cell? ⟨R, 2, none⟩ = some (.slice ag 6 cg) from fun W' hb => by
    refine (imageB_any R1 R2 (sgB q Y) ys ay ys.length cy W' h40' (is_treeTo' HY.out) (A1'.out.keep hb (Nat.le_refl _)) (I1.out.keep hb) SIX.out).mono ?_
    rintro e w' ⟨v, rfl, ho, hb'⟩
    have hbb := hb.trans (hb'.mono hb.size)
    obtain ⟨a, c, rfl, -⟩ := ho.at
    obtain ⟨d0, d1, d2, -⟩ := CELLS.out w' hbb
    exact ⟨a, _, c, rfl, (show _ ∧ _ ∧ _ from ⟨ownsRow_mono ho hb.size, hb', hbb⟩), d0, d1, d2⟩)
  have CI := Lib.hid (show ∀ W', Below w1.heap.size w1 W' → Calls Try.prog 70 #[.func (.func 108) #[] #[.pointer (some ⟨R1, 0, none⟩), .pointer (some ⟨R2, 0, none⟩)], .slice ag 6 cg] W' fun e w' => ∃ a n c, e = .returned (.slice a n c) ∧ Hid (OwnL w' w1.heap.size (.slice a n c) (thTo (sgB q Y) im 6) ∧ Below W'.heap.size W' w' ∧ Below w1.heap.size w1 w') ∧ w'.cell? ⟨R, 0, none⟩ = some (.slice ax xs.length cx) ∧ w'.cell? ⟨R, 1, none⟩ = some (.slice ay ys.length cy) ∧ w'.cell? ⟨R, 2, none⟩ = some (.slice ag 6 cg) ∧ w'.frozen? ⟨R, 0, none⟩ = false ∧ w'.frozen? ⟨R, 1, none⟩ = false ∧ w'.frozen? ⟨R, 2, none⟩ = false from fun W' hb => by
    refine (imagesB_any R1 R2 (sgB q Y) im ag 6 cg W' (by omega) F.out (N1.out.keep hb (Nat.le_refl _)) (I1.out.keep hb) SIX.out).mono ?_
    rintro e w' ⟨v, rfl, ho, hb'⟩
    have hbb := hb.trans (hb'.mono hb.size)
    obtain ⟨a, c, rfl, -⟩ := ho.at
    exact ⟨a, _, c, rfl, (show _ ∧ _ ∧ _ from ⟨ho.mono hb.size, hb', hbb⟩), CELLS.out w' hbb⟩)
  clear k1 k2 l1 l2 hb1 _h6 h40 h40'
  clear SIX F N1 A1 A1' I1 HX HY HYY YW HI H H' HR
  go_wp2
  go_region_law (first | (go_simp; go_at_call_of 62 cx; refine (CA.out w1.drew ((Below.refl _ _).drew)).mono ?_; rintro e w2 ⟨a2, n2, c2, rfl, P2, f0, f1, f2⟩) | (go_simp; go_at_call_of 62 cy; refine (CB.out w2 P2.out.2.2).mono ?_; rintro e w3 ⟨a3, n3, c3, rfl, P3, g0, g1, g2⟩) | (go_simp; go_at_call 70; refine (CI.out w3 P3.out.2.2).mono ?_; rintro e w4 ⟨a4, n4, c4, rfl, P4, k0, k1, k2, y0, y1, y2⟩))
  all_goals (try go_wp2_with fail)
  all_goals go_end0
  all_goals
    have U4 := UR1.out.keep P4.out.2.2 (Nat.le_refl _)
    have O2 := (P2.out.1.keepN P3.out.2.1 (Nat.le_refl _)).keepN P4.out.2.1 (Nat.le_refl _)
    have O3 := P3.out.1.keepN P4.out.2.1 (Nat.le_refl _)
    have O4 := P4.out.1
    have hs := B1.out.size
    have hb4 := (B1.out.mono (Nat.le_of_lt (Nat.lt_of_le_of_lt hB RL.out))).trans (P4.out.2.2.mono (Nat.le_of_lt (Nat.lt_of_lt_of_le (Nat.lt_of_le_of_lt hB RL.out) hs)))
    exact ⟨⟨_, rfl⟩, _, _, _, ((U4.set0 _).set1 _).set2 _,
      ownsRow_mono (((O2.setR U4 0 _).setR (U4.set0 _) 1 _).setR ((U4.set0 _).set1 _) 2 _) hs,
      ownsRow_mono (((O3.setR U4 0 _).setR (U4.set0 _) 1 _).setR ((U4.set0 _).set1 _) 2 _) hs,
      (((O4.setR U4 0 _).setR (U4.set0 _) 1 _).setR ((U4.set0 _).set1 _) 2 _).mono hs,
      ((hb4.setCell (p := ⟨R, 0, none⟩) hB _).setCell (p := ⟨R, 1, none⟩) hB _).setCell (p := ⟨R, 2, none⟩) hB _⟩

end Go.Proofs.Ytbhgedabcclimaa
