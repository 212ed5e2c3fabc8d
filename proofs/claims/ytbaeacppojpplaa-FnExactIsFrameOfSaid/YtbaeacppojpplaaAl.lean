/- The entries AxiomHolds, IsFrameOf of the program. Conditions: those in the theorems. -/
import Derived.Test.YtbaeacppojpplaaAk
namespace Go.Proofs.Ytbaeacppojpplaa
open Go.RowKit

set_option maxHeartbeats 4000000 in
set_option maxRecDepth 100000 in
theorem implAxiomHolds_any (n : Int) (xs : List Int) (s : ByteArray) (a : Option Addr) (len cap : Nat) (w : World) (hl : len ≤ 1048576) (h : At w a len xs) :
    Calls Try.prog 14 #[.agg #[.int .i64 n, .slice a len cap], .string s] w fun e w' => e = .returned (.tuple #[.bool (ahR n xs s), .int .i64 (ahC n xs s)]) ∧ Below w.heap.size w w' := by
  obtain ⟨W, hW, HB, X⟩ : ∃ W : World, W = w.alloc (.cells #[.int .i64 n, .slice a len cap] 31) ∧ Hid (Below w.heap.size w W) ∧ Hid (Bx W w.heap.size n a len cap) := ⟨_, rfl, Lib.hid (alloc_keep _ _).1, Lib.hid (Bx.new _ _ _ _ _ _)⟩
  have HW := Lib.hid hW
  have H := Lib.hid (h.keep HB.out (Nat.le_refl _))
  have h0 := h.1
  clear h hW
  cases hb : frB n xs
  · have E := Lib.hid (ah_bad (s := s) hb)
    have FB := Lib.hid hb
    clear hb h0
    obtain ⟨lt, x0, x1⟩ := X.out
    go_enter Try.func14, Try.ntmps14
    go_wp2_with fail
    rw [← HW.out]
    refine (implIsFrame_any n xs a len cap _ hl H.out).mono ?_
    rw [FB.out]
    rintro e w1 ⟨rfl, hb⟩
    have B1 := Lib.hid (HB.out.trans (hb.mono HB.out.size))
    clear hb
    go_wp2
    go_ret2
    exact ⟨E.out, B1.out⟩
  · obtain ⟨hn, h8, -, hr⟩ := frB_ok hb
    have FB := Lib.hid hb
    have REL := Lib.hid hr
    subst hn
    obtain rfl := h0
    clear hb hr
    rcases fd_cases nmA s with e0 | ⟨i, hi, he, e0⟩
    · have E := Lib.hid (ah_no FB.out e0)
      have E0 := Lib.hid e0
      clear e0
      obtain ⟨lt, x0, x1⟩ := X.out
      go_enter Try.func14, Try.ntmps14
      go_wp2_with fail
      rw [← HW.out]
      refine (implIsFrame_any xs.length xs a xs.length cap _ hl H.out).mono ?_
      rw [FB.out]
      rintro e w1 ⟨rfl, hb⟩
      have T1 := Lib.hid hb
      clear hb
      go_wp2_with fail
      refine (axiomTable_any _).mono ?_
      rintro e w2 ⟨b, rfl, ht, hb⟩
      have T2 := Lib.hid (T1.out.trans (hb.mono T1.out.size))
      have HT := Lib.hid ht
      clear hb ht
      go_wp2_with fail
      refine (entryA_no s E0.out b w2 HT.out).mono ?_
      rintro e w3 ⟨rfl, hb⟩
      have T3 := Lib.hid (T2.out.trans (hb.mono T2.out.size))
      clear hb
      go_wp2
      go_ret2
      exact ⟨E.out, (HB.out.trans (T3.out.mono HB.out.size)).alloc (HB.out.trans (T3.out.mono HB.out.size)).size _⟩
    · have E := Lib.hid (ah_yes FB.out e0)
      have E0 := Lib.hid e0
      have hi13 : i < 13 := hi
      clear e0 he hi
      obtain ⟨lt, x0, x1⟩ := X.out
      go_enter Try.func14, Try.ntmps14
      go_wp2_with fail
      rw [← HW.out]
      refine (implIsFrame_any xs.length xs a xs.length cap _ hl H.out).mono ?_
      rw [FB.out]
      rintro e w1 ⟨rfl, hb⟩
      have T1 := Lib.hid hb
      clear hb
      go_wp2_with fail
      refine (axiomTable_any _).mono ?_
      rintro e w2 ⟨b, rfl, ht, hb⟩
      have T2 := Lib.hid (T1.out.trans (hb.mono T1.out.size))
      have HT := Lib.hid ht
      clear hb ht
      go_wp2_with fail
      refine (entryA_any s i hi13 E0.out b w2 HT.out).mono ?_
      rintro e w3 ⟨v, rfl, hc, hb⟩
      have T3 := Lib.hid (T2.out.trans (hb.mono T2.out.size))
      clear hb x0 x1
      obtain ⟨t2, ht2⟩ : ∃ t, t = stx (nthS txA i) := ⟨_, rfl⟩
      rw [← ht2]
      clear ht2
      rcases hc with ⟨hi10, hi11, B, rfl, hcb⟩ | ⟨rfl, rfl⟩ | ⟨rfl, rfl⟩
      · have HCB := Lib.hid hcb
        obtain ⟨W3, hW3⟩ : ∃ W3, W3 = w3.alloc (.cells #[.string t2, .func (.func 65) #[] #[.pointer (some ⟨B, 0, none⟩)]] 52) := ⟨_, rfl⟩
        have HW3 := Lib.hid hW3
        have k3 : Below w3.heap.size w3 W3 := by rw [hW3]; exact (alloc_keep _ _).1
        have BW3 := Lib.hid (T3.out.trans (k3.mono T3.out.size))
        have v0 : W3.cell? ⟨w3.heap.size, 1, none⟩ = some (.func (.func 65) #[] #[.pointer (some ⟨B, 0, none⟩)]) := by rw [hW3]; exact World.cell?_alloc_new _ _ _ 1
        have HV0 := Lib.hid (show w3.heap.size < W3.heap.size by rw [hW3]; simp)
        have H3 := Lib.hid (H.out.keep BW3.out (Nat.le_refl _))
        obtain ⟨r, hr⟩ : ∃ r, r = axB i xs := ⟨_, rfl⟩
        have CA := Lib.hid (fun w' (hw : Below W3.heap.size W3 w') => show Calls Try.prog 65 #[.slice a xs.length cap, .pointer (some ⟨B, 0, none⟩)] w' fun e w'' => e = .returned (.bool r) ∧ Below w'.heap.size w' w'' by
          rw [hr]; exact withFlags1_any i hi13 hi10 hi11 xs a cap B w' h8 REL.out (H3.out.keep hw (Nat.le_refl _)) ((hcb.keep k3).keep hw))
        rw [← hr] at E
        obtain ⟨lt, x0, x1⟩ := X.out.keep BW3.out
        have X3 := Lib.hid (X.out.keep BW3.out)
        have V3 := Lib.hid v0
        clear hW3 k3 hcb hr
        go_wp2_with fail
        rw [← HW3.out]
        go_region_held3 (fun w' => w'.cell? ⟨w.heap.size, 0, none⟩ = some (.int .i64 xs.length) ∧ w'.cell? ⟨w.heap.size, 1, none⟩ = some (.slice a xs.length cap) ∧ w'.cell? ⟨w3.heap.size, 1, none⟩ = some (.func (.func 65) #[] #[.pointer (some ⟨B, 0, none⟩)])) (first | exact ⟨z0, z1, v5⟩ | exact ⟨y0, y1, v4⟩ | exact ⟨x0, x1, v0⟩ | go_keep) (first | (go_at_call 39; refine (frRel_any _ _ _ _ _).mono ?_; rintro e w4 ⟨rfl, hb⟩; have T4 := Lib.hid (show Below W3.heap.size W3 w4 from below_of_drew hb); clear hb; obtain ⟨ly, y0, y1⟩ := X3.out.keep T4.out; have v4 := (T4.out.cell (p := ⟨w3.heap.size, 1, none⟩) HV0.out).trans V3.out) | (go_at_call 65; refine (CA.out _ (T4.out)).mono ?_; rintro e w5 ⟨rfl, hb⟩; have T5 := Lib.hid (T4.out.trans (hb.mono T4.out.size)); clear hb; obtain ⟨lz, z0, z1⟩ := X3.out.keep T5.out; have v5 := (T5.out.cell (p := ⟨w3.heap.size, 1, none⟩) HV0.out).trans V3.out))
        have BW5 := Lib.hid (BW3.out.trans (T5.out.mono BW3.out.size))
        clear x0 x1 y0 y1 z0 z1 v0 v4 v5 CA X3 V3 T4 T5 HV0 H3
        go_wp2
        go_ret2
        exact ⟨E.out, HB.out.trans (BW5.out.mono HB.out.size)⟩
      · skip
        obtain ⟨W3, hW3⟩ : ∃ W3, W3 = w3.alloc (.cells #[.string t2, .func (.func 54) #[] #[]] 52) := ⟨_, rfl⟩
        have HW3 := Lib.hid hW3
        have k3 : Below w3.heap.size w3 W3 := by rw [hW3]; exact (alloc_keep _ _).1
        have BW3 := Lib.hid (T3.out.trans (k3.mono T3.out.size))
        have v0 : W3.cell? ⟨w3.heap.size, 1, none⟩ = some (.func (.func 54) #[] #[]) := by rw [hW3]; exact World.cell?_alloc_new _ _ _ 1
        have HV0 := Lib.hid (show w3.heap.size < W3.heap.size by rw [hW3]; simp)
        have H3 := Lib.hid (H.out.keep BW3.out (Nat.le_refl _))
        obtain ⟨r, hr⟩ : ∃ r, r = axB 10 xs := ⟨_, rfl⟩
        have CA := Lib.hid (fun w' (hw : Below W3.heap.size W3 w') => show Calls Try.prog 54 #[.slice a xs.length cap] w' fun e w'' => e = .returned (.bool r) ∧ Below w'.heap.size w' w'' by
          rw [hr]; exact seesNothing_any xs a cap w' h8 (H3.out.keep hw (Nat.le_refl _)))
        rw [← hr] at E
        obtain ⟨lt, x0, x1⟩ := X.out.keep BW3.out
        have X3 := Lib.hid (X.out.keep BW3.out)
        have V3 := Lib.hid v0
        clear hW3 k3 hr
        go_wp2_with fail
        rw [← HW3.out]
        go_region_held3 (fun w' => w'.cell? ⟨w.heap.size, 0, none⟩ = some (.int .i64 xs.length) ∧ w'.cell? ⟨w.heap.size, 1, none⟩ = some (.slice a xs.length cap) ∧ w'.cell? ⟨w3.heap.size, 1, none⟩ = some (.func (.func 54) #[] #[])) (first | exact ⟨z0, z1, v5⟩ | exact ⟨y0, y1, v4⟩ | exact ⟨x0, x1, v0⟩ | go_keep) (first | (go_at_call 39; refine (frRel_any _ _ _ _ _).mono ?_; rintro e w4 ⟨rfl, hb⟩; have T4 := Lib.hid (show Below W3.heap.size W3 w4 from below_of_drew hb); clear hb; obtain ⟨ly, y0, y1⟩ := X3.out.keep T4.out; have v4 := (T4.out.cell (p := ⟨w3.heap.size, 1, none⟩) HV0.out).trans V3.out) | (go_at_call 54; refine (CA.out _ (T4.out)).mono ?_; rintro e w5 ⟨rfl, hb⟩; have T5 := Lib.hid (T4.out.trans (hb.mono T4.out.size)); clear hb; obtain ⟨lz, z0, z1⟩ := X3.out.keep T5.out; have v5 := (T5.out.cell (p := ⟨w3.heap.size, 1, none⟩) HV0.out).trans V3.out))
        have BW5 := Lib.hid (BW3.out.trans (T5.out.mono BW3.out.size))
        clear x0 x1 y0 y1 z0 z1 v0 v4 v5 CA X3 V3 T4 T5 HV0 H3
        go_wp2
        go_ret2
        exact ⟨E.out, HB.out.trans (BW5.out.mono HB.out.size)⟩
      · skip
        obtain ⟨W3, hW3⟩ : ∃ W3, W3 = w3.alloc (.cells #[.string t2, .func (.func 55) #[] #[]] 52) := ⟨_, rfl⟩
        have HW3 := Lib.hid hW3
        have k3 : Below w3.heap.size w3 W3 := by rw [hW3]; exact (alloc_keep _ _).1
        have BW3 := Lib.hid (T3.out.trans (k3.mono T3.out.size))
        have v0 : W3.cell? ⟨w3.heap.size, 1, none⟩ = some (.func (.func 55) #[] #[]) := by rw [hW3]; exact World.cell?_alloc_new _ _ _ 1
        have HV0 := Lib.hid (show w3.heap.size < W3.heap.size by rw [hW3]; simp)
        have H3 := Lib.hid (H.out.keep BW3.out (Nat.le_refl _))
        obtain ⟨r, hr⟩ : ∃ r, r = axB 11 xs := ⟨_, rfl⟩
        have CA := Lib.hid (fun w' (hw : Below W3.heap.size W3 w') => show Calls Try.prog 55 #[.slice a xs.length cap] w' fun e w'' => e = .returned (.bool r) ∧ Below w'.heap.size w' w'' by
          rw [hr]; exact seesItselfOnly_any xs a cap w' h8 (H3.out.keep hw (Nat.le_refl _)))
        rw [← hr] at E
        obtain ⟨lt, x0, x1⟩ := X.out.keep BW3.out
        have X3 := Lib.hid (X.out.keep BW3.out)
        have V3 := Lib.hid v0
        clear hW3 k3 hr
        go_wp2_with fail
        rw [← HW3.out]
        go_region_held3 (fun w' => w'.cell? ⟨w.heap.size, 0, none⟩ = some (.int .i64 xs.length) ∧ w'.cell? ⟨w.heap.size, 1, none⟩ = some (.slice a xs.length cap) ∧ w'.cell? ⟨w3.heap.size, 1, none⟩ = some (.func (.func 55) #[] #[])) (first | exact ⟨z0, z1, v5⟩ | exact ⟨y0, y1, v4⟩ | exact ⟨x0, x1, v0⟩ | go_keep) (first | (go_at_call 39; refine (frRel_any _ _ _ _ _).mono ?_; rintro e w4 ⟨rfl, hb⟩; have T4 := Lib.hid (show Below W3.heap.size W3 w4 from below_of_drew hb); clear hb; obtain ⟨ly, y0, y1⟩ := X3.out.keep T4.out; have v4 := (T4.out.cell (p := ⟨w3.heap.size, 1, none⟩) HV0.out).trans V3.out) | (go_at_call 55; refine (CA.out _ (T4.out)).mono ?_; rintro e w5 ⟨rfl, hb⟩; have T5 := Lib.hid (T4.out.trans (hb.mono T4.out.size)); clear hb; obtain ⟨lz, z0, z1⟩ := X3.out.keep T5.out; have v5 := (T5.out.cell (p := ⟨w3.heap.size, 1, none⟩) HV0.out).trans V3.out))
        have BW5 := Lib.hid (BW3.out.trans (T5.out.mono BW3.out.size))
        clear x0 x1 y0 y1 z0 z1 v0 v4 v5 CA X3 V3 T4 T5 HV0 H3
        go_wp2
        go_ret2
        exact ⟨E.out, HB.out.trans (BW5.out.mono HB.out.size)⟩
theorem implAxiomHolds_v (n : Int) (xs : List Int) (s : ByteArray) (v : Value) (lo hi : Nat) (w : World) (hl : xs.length ≤ 1048576) (h : InF w lo hi v n xs) :
    Calls Try.prog 14 #[v, .string s] w fun e w' => e = .returned (.tuple #[.bool (ahR n xs s), .int .i64 (ahC n xs s)]) ∧ Below w.heap.size w w' := by
  obtain ⟨a, cap, rfl, hat, -⟩ := h.at
  exact implAxiomHolds_any n xs s a _ cap w hl hat


set_option maxHeartbeats 2000000 in
set_option maxRecDepth 100000 in
theorem implIsFrameOf_any (n : Int) (xs : List Int) (s : ByteArray) (a : Option Addr) (len cap : Nat) (w : World) (hl : len ≤ 1048576) (h : At w a len xs) :
    Calls Try.prog 24 #[.agg #[.int .i64 n, .slice a len cap], .string s] w fun e w' => e = .returned (.tuple #[.bool (ifR n xs s), .int .i64 (ifC n xs s)]) ∧ Below w.heap.size w w' := by
  obtain ⟨W, hW, HB, X⟩ : ∃ W : World, W = w.alloc (.cells #[.int .i64 n, .slice a len cap] 31) ∧ Hid (Below w.heap.size w W) ∧ Hid (Bx W w.heap.size n a len cap) := ⟨_, rfl, Lib.hid (alloc_keep _ _).1, Lib.hid (Bx.new _ _ _ _ _ _)⟩
  have HW := Lib.hid hW
  have H := Lib.hid (h.keep HB.out (Nat.le_refl _))
  have h0 := h.1
  clear h hW
  cases hb : frB n xs
  · have E := Lib.hid (if_bad (s := s) hb)
    have FB := Lib.hid hb
    clear hb h0
    obtain ⟨lt, x0, x1⟩ := X.out
    go_enter Try.func24, Try.ntmps24
    go_wp2_with fail
    rw [← HW.out]
    refine (implIsFrame_any n xs a len cap _ hl H.out).mono ?_
    rw [FB.out]
    rintro e w1 ⟨rfl, hb⟩
    have B1 := Lib.hid (HB.out.trans (hb.mono HB.out.size))
    clear hb
    go_wp2
    go_ret2
    exact ⟨E.out, B1.out⟩
  · obtain ⟨hn, h8, -, hr⟩ := frB_ok hb
    have FB := Lib.hid hb
    have REL := Lib.hid hr
    subst hn
    obtain rfl := h0
    clear hb hr
    rcases fd_cases nmL s with e0 | ⟨i, hi, he, e0⟩
    · have E := Lib.hid (if_no FB.out e0)
      have E1 := Lib.hid (show laC s = 4 by rw [laC, fdC, if_pos e0])
      clear e0
      obtain ⟨lt, x0, x1⟩ := X.out
      go_enter Try.func24, Try.ntmps24
      go_wp2_with fail
      rw [← HW.out]
      refine (implIsFrame_any xs.length xs a xs.length cap _ hl H.out).mono ?_
      rw [FB.out]
      rintro e w1 ⟨rfl, hb⟩
      have T1 := Lib.hid hb
      clear hb
      go_wp2_with fail
      refine (implLogicAxioms_v s _).mono ?_
      rw [E1.out]
      rintro e w2 ⟨v, rfl, -, hb⟩
      have T2 := Lib.hid (T1.out.trans (hb.mono T1.out.size))
      clear hb
      go_wp2
      go_ret2
      exact ⟨E.out, HB.out.trans (T2.out.mono HB.out.size)⟩
    · have E := Lib.hid (if_yes FB.out e0)
      have E1 := Lib.hid (show laC s = 0 by rw [laC, fdC, if_neg (by rw [e0]; omega)])
      have E2 := Lib.hid (show laR s = lax i by rw [laR, if_neg (by rw [e0]; omega), e0]; rfl)
      have AA := Lib.hid (areA_lax i hi)
      obtain ⟨ns, hns⟩ : ∃ ns, ns = lax i := ⟨_, rfl⟩
      have hl3 : ns.length ≤ 3 := by rw [hns]; exact lax_len i
      have RR := Lib.hid (show lgB i xs = hxB ns xs ns.length by rw [hns]; rfl)
      rw [← hns] at AA E2
      clear e0 he hi hns
      obtain ⟨lt, x0, x1⟩ := X.out
      go_enter Try.func24, Try.ntmps24
      go_wp2_with fail
      rw [← HW.out]
      refine (implIsFrame_any xs.length xs a xs.length cap _ hl H.out).mono ?_
      rw [FB.out]
      rintro e w1 ⟨rfl, hb⟩
      have T1 := Lib.hid hb
      clear hb
      go_wp2_with fail
      refine (implLogicAxioms_v s _).mono ?_
      rw [E1.out, E2.out]
      rintro e w2 ⟨v, rfl, ho, hb⟩
      have T2 := Lib.hid (T1.out.trans (hb.mono T1.out.size))
      obtain ⟨a', cap', rfl, hat, -⟩ := ho.at
      have HAT := Lib.hid hat
      clear hb ho hat x0 x1
      obtain ⟨ly, x0, x1⟩ := X.out.keep T2.out
      go_wp2_with fail
      refine (hasAxioms_any xs.length xs a cap ns a' cap' _ h8 REL.out hl3 AA.out (H.out.keep T2.out (Nat.le_refl _)) HAT.out).mono ?_
      rw [← RR.out]
      rintro e w3 ⟨rfl, hb⟩
      have T3 := Lib.hid (T2.out.trans (hb.mono T2.out.size))
      clear hb
      go_wp2
      go_ret2
      exact ⟨E.out, HB.out.trans (T3.out.mono HB.out.size)⟩
theorem implIsFrameOf_v (n : Int) (xs : List Int) (s : ByteArray) (v : Value) (lo hi : Nat) (w : World) (hl : xs.length ≤ 1048576) (h : InF w lo hi v n xs) :
    Calls Try.prog 24 #[v, .string s] w fun e w' => e = .returned (.tuple #[.bool (ifR n xs s), .int .i64 (ifC n xs s)]) ∧ Below w.heap.size w w' := by
  obtain ⟨a, cap, rfl, hat, -⟩ := h.at
  exact implIsFrameOf_any n xs s a _ cap w hl hat

end Go.Proofs.Ytbaeacppojpplaa
