/- The contract of PartOfModel of the program, at every argument; both told by values. Conditions: those in the theorems. -/
import Derived.Test.YtomldealpmohhaaPm
namespace Go.Proofs.Ytomldealpmohhaa
open Go.RowKit

theorem chk0_any (n : Int) (xs ys : List Int) (a : Option Addr) (cap : Nat) (b : Option Addr) (d : Nat) (w : World) (hl : xs.length ≤ 1048576) (hm : ys.length ≤ 1048576) (h : At w a xs.length xs) (h' : At w b ys.length ys) :
    Calls Try.prog 48 #[.agg #[.int .i64 n, .slice a xs.length cap, .slice b ys.length d], .slice none 0 0] w fun e w' => e = .returned (.int .i64 (if isM n xs ys then 0 else 1)) ∧ Below w.heap.size w w' := by
  refine (checkModel_any n xs ys a _ cap b _ d [] none 0 0 w hl hm (by omega) (fun j hj => by omega) h h' ⟨rfl, .inl rfl⟩).mono ?_
  rintro e w' ⟨rfl, hb⟩
  exact ⟨by cases isM n xs ys <;> rfl, hb⟩

set_option maxHeartbeats 2000000 in
set_option maxRecDepth 100000 in
theorem implPartOfModel_any (n m : Int) (xs ys : List Int) (a : Option Addr) (cap : Nat) (b : Option Addr) (d : Nat) (w : World) (hl : xs.length ≤ 1048576) (hm : ys.length ≤ 1048576) (h : At w a xs.length xs) (h' : At w b ys.length ys) :
    Calls Try.prog 24 #[.agg #[.int .i64 n, .slice a xs.length cap, .slice b ys.length d], .int .i64 m] w fun e w' => RM w' w.heap.size (pmL n xs ys m).length (pmC n xs ys m) (pmL n xs ys m) (pmV n xs ys m) e ∧ Below w.heap.size w w' := by
  obtain ⟨W, hW, HB, X, Z, hWs⟩ := boxM2 w n a xs.length cap b ys.length d
  have H := Lib.hid (h.keep HB.out (Nat.le_refl _))
  have H' := Lib.hid (h'.keep HB.out (Nat.le_refl _))
  have hz0 : w.heap.size + 1 + 1 ≤ W.heap.size := by omega
  have HW := Lib.hid hW
  clear h h' hW
  cases h1 : isM n xs ys
  · have F1 := Lib.hid h1
    have C := Lib.hid (pmC_1 (m := m) h1)
    have L := Lib.hid (pm_bad C.out (by decide))
    clear h1
    go_enter Try.func24, Try.ntmps24
    go_wp2_with fail
    rw [← HW.out]
    refine (chk0_any n xs ys _ _ _ _ _ hl hm H.out H'.out).mono ?_
    rw [F1.out]
    rintro e w1 ⟨rfl, hb⟩
    have B1 := Lib.hid (HB.out.trans (hb.mono HB.out.size))
    obtain ⟨lt2, z0, z1, z2, z3, z4, z5⟩ := (Z.out.keep hb).all
    clear hb
    go_wp2
    exact bodyPost_ret (v := .tuple #[.agg #[.int .i64 0, .slice none 0 0, .slice none 0 0], .int .i64 1]) (by simp [results, Try.results24, go_sem, z0, z1, z2]) rfl ⟨RM.bad C.out.symm (by rw [L.out.1]; rfl) L.out.1 L.out.2, ((B1.out.setCell (by show _ ≤ _; simp) _).setCell (by show _ ≤ _; simp) _).setCell (by show _ ≤ _; simp) _⟩
  · obtain ⟨e1, e2, -⟩ := isM_rel h1
    have hn0 : 0 ≤ n := by omega
    have hn30 : n ≤ 30 := by omega
    cases h2 : mskB n m
    · have F1 := Lib.hid h1
      have F2 := Lib.hid h2
      have C := Lib.hid (pmC_2 h1 h2)
      have L := Lib.hid (pm_bad C.out (by decide))
      clear h1 h2 e1 e2
      go_enter Try.func24, Try.ntmps24
      go_wp2_with fail
      rw [← HW.out]
      refine (chk0_any n xs ys _ _ _ _ _ hl hm H.out H'.out).mono ?_
      rw [F1.out]
      rintro e w1 ⟨rfl, hb⟩
      have B1 := Lib.hid (HB.out.trans (hb.mono HB.out.size))
      obtain ⟨lt, x0, x1, x2⟩ := X.out.keep hb
      obtain ⟨lt2, z0, z1, z2, z3, z4, z5⟩ := (Z.out.keep hb).all
      clear hb
      go_wp2_with (go_at_call 61; refine (isMaskWithin_any n m _ hn0 hn30).mono ?_; rw [F2.out]; rintro e w' ⟨rfl, rfl⟩)
      exact bodyPost_ret (v := .tuple #[.agg #[.int .i64 0, .slice none 0 0, .slice none 0 0], .int .i64 2]) (by simp [results, Try.results24, go_sem, z0, z1, z2]) rfl ⟨RM.bad C.out.symm (by rw [L.out.1]; rfl) L.out.1 L.out.2, ((B1.out.setCell (by show _ ≤ _; simp) _).setCell (by show _ ≤ _; simp) _).setCell (by show _ ≤ _; simp) _⟩
    · have F1 := Lib.hid h1
      have F2 := Lib.hid h2
      have C := Lib.hid (pmC_0 h1 h2)
      have L := Lib.hid (pm_ok C.out)
      have hy8 : ys.length ≤ 30 := by obtain ⟨-, -, -, -, h6, -⟩ := isM_ok h1; omega
      have h8 : xs.length ≤ 30 := by omega
      have CD := Lib.hid (show cod n m = 0 by rw [e1] at h2 ⊢; rw [cod_of (by omega) h2]; rfl)
      have OK := Lib.hid (show LsOk xs.length (memTo m.toNat xs.length) from memTo_ok _ _)
      have hlm : (memTo m.toNat xs.length).length ≤ 30 := Nat.le_trans (memTo_len _ _) (by omega)
      have EM := Lib.hid (show outL (cod n m) (memTo m.toNat n.toNat) = memTo m.toNat xs.length by rw [CD.out, e1, Int.toNat_natCast]; rfl)
      clear h1 h2 e1 e2
      go_enter Try.func24, Try.ntmps24
      go_wp2_with fail
      rw [← HW.out]
      refine (chk0_any n xs ys _ _ _ _ _ hl hm H.out H'.out).mono ?_
      rw [F1.out]
      rintro e w1 ⟨rfl, hb⟩
      have B1 := Lib.hid hb
      obtain ⟨lt, x0, x1, x2⟩ := X.out.keep hb
      clear hb
      go_wp2_with (go_at_call 61; refine (isMaskWithin_any n m _ hn0 hn30).mono ?_; rw [F2.out]; rintro e w' ⟨rfl, rfl⟩)
      refine (implMembersOf_any _ m _).mono ?_
      rw [EM.out, CD.out]
      rintro e w2 ⟨v2, rfl, ho, hb⟩
      obtain ⟨a2, k2, rfl, hat, -, -, -⟩ := ho.at
      have LA := Lib.hid hat
      have B2 := Lib.hid (B1.out.trans (hb.mono B1.out.size))
      clear x0 x1 x2 hb ho hat
      have H2 := Lib.hid (H.out.keep B2.out (Nat.le_refl _))
      have H2' := Lib.hid (H'.out.keep B2.out (Nat.le_refl _))
      obtain ⟨lt', x0, x1, x2⟩ := X.out.keep B2.out
      have hz2 := B2.out.size
      go_wp2_with fail
      clear x0 x1 x2
      refine (marr_any n xs ys _ _ _ _ _ _ _ _ _ h8 hy8 hlm OK.out H2.out H2'.out LA.out).mono ?_
      rintro e w3 ⟨v3, rfl, ho, hb⟩
      obtain ⟨a3, k3, b3, d3, rfl⟩ := ho.form
      have B3 := Lib.hid (B2.out.trans (hb.mono B2.out.size))
      obtain ⟨lt2, z0, z1, z2, z3, z4, z5⟩ := (Z.out.keep B3.out).all
      have B4 := Lib.hid (HB.out.trans (B3.out.mono HB.out.size))
      have O3 := Lib.hid ho
      clear ho hb
      go_wp2
      exact bodyPost_ret (v := .tuple #[.agg #[.int .i64 (arV xs (memTo m.toNat xs.length)).length, .slice a3 (arV xs (memTo m.toNat xs.length)).length k3, .slice b3 (mvV ys (memTo m.toNat xs.length)).length d3], .int .i64 0]) (by simp [results, Try.results24, go_sem, z0, z1, z2]) rfl ⟨RM.good C.out (by rw [L.out.1]) L.out.1 L.out.2 (O3.out.out3 (by omega)) (by omega), ((B4.out.setCell (by show _ ≤ _; simp) _).setCell (by show _ ≤ _; simp) _).setCell (by show _ ≤ _; simp) _⟩

theorem specPartOfModel_v (n : Int) (xs ys : List Int) (m : Int) (v : Value) (lo hi : Nat) (w : World) (hl : xs.length ≤ 1048576) (hm : ys.length ≤ 1048576) (h : InM w lo hi v n xs ys) :
    Calls Try.prog 23 #[v, .int .i64 m] w fun e w' => ∃ v', e = .returned (.tuple #[v', .int .i64 (pmC n xs ys m)]) ∧ OwnM w' w.heap.size v' (pmL n xs ys m).length (pmL n xs ys m) (pmV n xs ys m) ∧ Below w.heap.size w w' := by
  obtain ⟨a, cap, b, d, rfl, hat, hat', -⟩ := h.at
  exact (specPartOfModel_any n m xs ys a cap b d w hl hm hat hat').mono fun e w' ⟨⟨v, e1, o⟩, b⟩ => ⟨v, e1, o, b⟩
theorem implPartOfModel_v (n : Int) (xs ys : List Int) (m : Int) (v : Value) (lo hi : Nat) (w : World) (hl : xs.length ≤ 1048576) (hm : ys.length ≤ 1048576) (h : InM w lo hi v n xs ys) :
    Calls Try.prog 24 #[v, .int .i64 m] w fun e w' => ∃ v', e = .returned (.tuple #[v', .int .i64 (pmC n xs ys m)]) ∧ OwnM w' w.heap.size v' (pmL n xs ys m).length (pmL n xs ys m) (pmV n xs ys m) ∧ Below w.heap.size w w' := by
  obtain ⟨a, cap, b, d, rfl, hat, hat', -⟩ := h.at
  exact (implPartOfModel_any n m xs ys a cap b d w hl hm hat hat').mono fun e w' ⟨⟨v, e1, o⟩, b⟩ => ⟨v, e1, o, b⟩

end Go.Proofs.Ytomldealpmohhaa
